import Derived.Test.YtobbmaplbpdniaaLgPrRa5
import Derived.Laws.ResultCell
import Derived.WalkKit
import Derived.Tactics
import Derived.Tactics2
import Derived.Defers
import Derived.Lib.Hide
import Derived.Below
import Derived.WalkSmall
import Derived.LoopN
import Derived.Deep.RegionHeld3
import Derived.Deep.Cut
import Derived.KernelRfl
import Derived.Laws.Rows
import Derived.Test.YtobbmaplbpdniaaChecked
import Derived.Test.YtobbmaplbpdniaaLgPrRa3
set_option linter.all false
set_option maxRecDepth 100000
namespace Go.Proofs.YtobbmaplbpdniaaLg
noncomputable section
open Go Go.Lift Go.Proofs

abbrev EvT : T := .pair (.int .i64) (.pair .str (.pair (.int .i64) (.pair (.int .i64) (.pair .str .unit))))

theorem z16l {S : Hp} {e : EvT.den} {v : Value} (h : VR S EvT e v) : v = evV e.1 e.2.1 e.2.2.1 e.2.2.2.1 e.2.2.2.2.1 := by
  obtain ⟨cs, rfl, d1, d2, q1, k1, d3, d4, q2, k2, d5, d6, q3, k3, d7, d8, q4, k4, d9, d10, q5, k5, k6⟩ := h
  have i1 : d1 = [.int .i64 e.1] := k1
  have i2 : d3 = [.string ⟨⟨e.2.1⟩⟩] := k2
  have i3 : d5 = [.int .i64 e.2.2.1] := k3
  have i4 : d7 = [.int .i64 e.2.2.2.1] := k4
  have i5 : d9 = [.string ⟨⟨e.2.2.2.2.1⟩⟩] := k5
  have i6 : d10 = [] := k6
  unfold evV
  congr 1
  apply Array.toList_inj.1
  rw [q1, q2, q3, q4, q5, i1, i2, i3, i4, i5, i6]
  rfl

theorem zza (N : Nat) {W : World} {S : Hp} (hS : Lift.Sub S (hp W)) {s : StT.den} {v : Value} {y : Bool} (hv : VR S StT s v) (hy : z4u N s = some y) :
    Calls Go.Proofs.Try.prog 10 #[v] W fun r w' => r = .returned (.bool y) /\ W.grownBy w' none := by
  refine ((za0 N).2 W S _ _ _ (zcx [(.v StT s, v)] (fun p hp => by rw [List.mem_singleton.1 hp]; exact ⟨⟨hv, rfl⟩, rfl⟩)) hS (zf5 S) _ hy).mono ?_
  intro e w' he
  obtain ⟨v, o, S', rfl, hr, hc⟩ := zmf he
  exact ⟨by rw [VR.bool_inv hr.1], hc⟩

theorem z129 (N : Nat) {W : World} {S : Hp} (hS : Lift.Sub S (hp W)) {e : EvT.den} {v : Value} {y : Bool} (hv : VR S EvT e v) (hy : zal N e = some y) :
    Calls Go.Proofs.Try.prog 12 #[v] W fun r w' => r = .returned (.bool y) /\ W.grownBy w' none := by
  refine ((znt N).2 W S _ _ _ (zcx [(.v EvT e, v)] (fun p hp => by rw [List.mem_singleton.1 hp]; exact ⟨⟨hv, rfl⟩, rfl⟩)) hS (zf5 S) _ hy).mono ?_
  intro e w' he
  obtain ⟨v, o, S', rfl, hr, hc⟩ := zmf he
  exact ⟨by rw [VR.bool_inv hr.1], hc⟩

def za6 (N : Nat) (s : StT.den) (e : EvT.den) : Option (StT.den × (Int × Unit)) :=
 (z4u N s).bind fun r =>
 if r = false then some (([], (0, ())), (7, ()))
 else (zal N e).bind fun f =>
 if f = false then some (([], (0, ())), (2, ()))
 else if s.1.length <= 16 /\ (s.1.all fun t => decide (t.2.2.2.1.length < 256)) = true then
 (zqy N s e.1 e.2.1 e.2.2.1 e.2.2.2.1 e.2.2.2.2.1).bind fun y => if y.1 = 0 then some (y.2, (0, ())) else some (([], (0, ())), (y.1, ()))
 else none

def zd2 (N : Nat) : List A -> Res := z2x [(0, .v StT), (0, .v EvT)] (fun x => za6 N x.1 x.2.1) (zfu (.tup [StT, (.int .i64)]) 2)

theorem z11g {w w' : World} {S : Hp} {vals : List Value} {ob : Nat -> List Nat} {z : z2b [(0, .v StT), (0, .v EvT)]} {x : StT.den} {e : Int} {v : Value} (hS : Lift.Sub S (hp w)) (hob : ∀ i, ob i = []) (hwf : WF w (fun j => w.heap.size <= j) w')
    (hv : VR (fun k => if w.heap.size <= k then hp w' k else S k) StT x v) :
    Lift.Ends w S (mkS [(0, .v StT), (0, .v EvT)] 0 z) vals ob (zfu (.tup [StT, (.int .i64)]) 2 (x, (e, ()))).1 (zfu (.tup [StT, (.int .i64)]) 2 (x, (e, ()))).2 (.returned (.tuple #[v, .int .i64 e])) w' := by
  have hsome : ∀ k o, S k = some o -> k < w.heap.size := fun k o hk => (Array.getElem?_eq_some_iff.1 (show w.heap[k]? = some o from hS k o hk)).1
  have hSw : Lift.Sub S (hp w') := fun k o hk => by
    have h := hwf.same k (hsome k o hk) (by have := hsome k o hk; omega)
    simp only [hp]
    rw [h]
    exact hS k o hk
  refine ⟨_, fun k => if w.heap.size <= k then hp w' k else S k, [], ob, rfl, ⟨hwf.size, fun k hk _ => hwf.same k hk (by omega), hwf.tape, hwf.os, hwf.output⟩, fun k o hk => ?_, fun k o hk => ?_, fun k hk => ?_, ⟨⟨rfl, _, rfl, .cons hv (.cons VR.int .nil)⟩, rfl⟩, (fun k hk => by cases hk), .nil, ?_, ?_, ?_, ?_, fun i hi => hi⟩
  . dsimp only
    rw [if_neg (by have := hsome k o hk; omega)]
    exact hk
  . dsimp only at hk
    split at hk
    . exact hk
    . exact hSw k o hk
  . dsimp only at hk
    split at hk
    . exact .inr (.inr (by assumption))
    . exact .inl hk
  . intro i z hz hbx
    match i with
    | 0 => simp [mkS, zhb, AS.mk] at hz; subst hz; cases hbx
    | 1 => simp [mkS, zhb, AS.mk] at hz; subst hz; cases hbx
    | i + 2 => simp [mkS, zhb] at hz
  . intro i k hk
    rw [hob i] at hk; cases hk
  . intro i j k hi
    rw [hob i] at hi; cases hi
  . intro i
    rw [hob i]; exact .nil

theorem zw5 (S : Hp) : VR S StT ([], (0, ())) (.agg #[.slice none 0 0, .int .i64 0]) := zxy (VR.of_one rfl ⟨none, 0, rfl, Nat.le_refl _, .inl rfl⟩)

theorem znk {w W : World} {B : Nat -> Prop} {q : Nat} (h : WF w B W) (hq : B q) (i : Nat) (v : Value) : WF w B (W.setCell ⟨q, i, none⟩ v) := by
  have g := z2i (w := W) (g := q) (i := i) v
  exact ⟨Nat.le_trans h.size g.size, fun k hk hn => (g.block k (Nat.lt_of_lt_of_le hk h.size) (fun e => hn (by cases e; exact hq))).trans (h.same k hk hn), g.tape.trans h.tape, g.os.trans h.os, g.output.trans h.output⟩

theorem zmj {W : World} {qr : Nat} {v : Value} {ser c : Int} {tmps : Array Value} (h4 : tmps.getD 4 undef = .pointer (some ⟨qr, 0, none⟩)) (h5 : tmps.getD 5 undef = .int .i64 c) (h : RowAt W qr [v, .int .i64 ser] 24) :
    (results Go.Proofs.Try.f8 tmps).run Go.Proofs.Try.prog W = .ok (.tuple #[.agg #[v, .int .i64 ser], .int .i64 c]) W := by
  have c0 := h.cell (i := 0) rfl
  have c1 := h.cell (i := 1) rfl
  rw [results_cell_tmp rfl, h4, h5]
  simp [asAddr, Go.loadVar, go_sem, c0, c1]

set_option maxHeartbeats 30000000 in
theorem zln (N : Nat) : Contract Go.Proofs.Try.prog z12 8 (zd2 N) := by
  refine Contract.hand ⟨_, Go.Proofs.Try.func8, by kernel_rfl, by decide⟩ ?_
  intro w S vals ob x y har hS hg hy
  obtain ⟨s, e, u⟩ := x
  cases u
  dsimp only at hy
  obtain ⟨⟨v0, hv0, hA0, ho0⟩, _⟩ := har.rel 0 _ rfl
  obtain ⟨⟨v1, hv1, hA1, ho1⟩, _⟩ := har.rel 1 _ rfl
  have hvals : vals = [v0, v1] := by
    match vals, har.len, hv0, hv1 with
    | [a, b], _, h1, h2 => simp at h1 h2; rw [h1, h2]
  subst hvals
  have hob : ∀ i, ob i = [] := by
    intro i
    match i with
    | 0 => exact ho0
    | 1 => exact ho1
    | i + 2 => exact har.out _ (by simp [mkS, zhb])
  suffices HX : ∀ R : Ending -> World -> Prop, Go.RowKit.Hid (∀ (st : StT.den) (c : Int) (v : Value) (w' : World), y = (st, (c, ())) -> WF w (fun j => w.heap.size <= j) w' -> VR (fun k => if w.heap.size <= k then hp w' k else S k) StT st v -> R (.returned (.tuple #[v, .int .i64 c])) w') -> Calls Go.Proofs.Try.prog 8 #[v0, v1] w R from
    HX _ (Go.Lib.hid (fun st c v w' h1 h2 h3 => by rw [h1]; exact z11g hS hob h2 h3))
  intro R HR
  unfold za6 at hy
  obtain ⟨r, hr, hy⟩ := Option.bind_eq_some_iff.1 hy
  have he := z16l hA1
  obtain ⟨ts, ser, u⟩ := s
  cases u
  obtain ⟨sv, rfl, hsv⟩ := z10s hA0
  have hev := hA1
  subst he
  unfold evV at hev ⊢
  have hcr := fun W (h : Lift.Sub S (hp W)) => zza N (W := W) h hA0 hr
  have HC := Go.Lib.hid hcr
  clear har hv0 hv1 hcr
  go_enter Go.Proofs.Try.func8, Go.Proofs.Try.ntmps8
  go_upto_region 1 with (fail)
  have ha0 : RowAt (((w.alloc (Obj.cells #[sv, .int .i64 ser] 24)).alloc (Obj.cells #[.int .i64 e.1, .string ⟨⟨e.2.1⟩⟩, .int .i64 e.2.2.1, .int .i64 e.2.2.2.1, .string ⟨⟨e.2.2.2.2.1⟩⟩] 26)).alloc (Obj.cells #[.slice none 0 0, .int .i64 0] 24)) w.heap.size [sv, .int .i64 ser] 24 := ((RowAt.new w [sv, .int .i64 ser] 24).alloc _).alloc _
  have ha1 : RowAt (((w.alloc (Obj.cells #[sv, .int .i64 ser] 24)).alloc (Obj.cells #[.int .i64 e.1, .string ⟨⟨e.2.1⟩⟩, .int .i64 e.2.2.1, .int .i64 e.2.2.2.1, .string ⟨⟨e.2.2.2.2.1⟩⟩] 26)).alloc (Obj.cells #[.slice none 0 0, .int .i64 0] 24)) (w.heap.size + 1) [.int .i64 e.1, .string ⟨⟨e.2.1⟩⟩, .int .i64 e.2.2.1, .int .i64 e.2.2.2.1, .string ⟨⟨e.2.2.2.2.1⟩⟩] 26 := by
    have h := (RowAt.new (w.alloc (Obj.cells #[sv, .int .i64 ser] 24)) [.int .i64 e.1, .string ⟨⟨e.2.1⟩⟩, .int .i64 e.2.2.1, .int .i64 e.2.2.2.1, .string ⟨⟨e.2.2.2.2.1⟩⟩] 26).alloc (Obj.cells #[.slice none 0 0, .int .i64 0] 24)
    simpa using h
  have ha2 : RowAt (((w.alloc (Obj.cells #[sv, .int .i64 ser] 24)).alloc (Obj.cells #[.int .i64 e.1, .string ⟨⟨e.2.1⟩⟩, .int .i64 e.2.2.1, .int .i64 e.2.2.2.1, .string ⟨⟨e.2.2.2.2.1⟩⟩] 26)).alloc (Obj.cells #[.slice none 0 0, .int .i64 0] 24)) (w.heap.size + 1 + 1) [.slice none 0 0, .int .i64 0] 24 := by
    have h := RowAt.new ((w.alloc (Obj.cells #[sv, .int .i64 ser] 24)).alloc (Obj.cells #[.int .i64 e.1, .string ⟨⟨e.2.1⟩⟩, .int .i64 e.2.2.1, .int .i64 e.2.2.2.1, .string ⟨⟨e.2.2.2.2.1⟩⟩] 26)) [.slice none 0 0, .int .i64 0] 24
    simpa using h
  have hag : w.grownBy (((w.alloc (Obj.cells #[sv, .int .i64 ser] 24)).alloc (Obj.cells #[.int .i64 e.1, .string ⟨⟨e.2.1⟩⟩, .int .i64 e.2.2.1, .int .i64 e.2.2.2.1, .string ⟨⟨e.2.2.2.2.1⟩⟩] 26)).alloc (Obj.cells #[.slice none 0 0, .int .i64 0] 24)) none := ((World.grownBy_alloc w _ none).trans38 (World.grownBy_alloc _ _ none)).trans38 (World.grownBy_alloc _ _ none)
  obtain ⟨A3, hA3⟩ : ∃ A3, A3 = (((w.alloc (Obj.cells #[sv, .int .i64 ser] 24)).alloc (Obj.cells #[.int .i64 e.1, .string ⟨⟨e.2.1⟩⟩, .int .i64 e.2.2.1, .int .i64 e.2.2.2.1, .string ⟨⟨e.2.2.2.2.1⟩⟩] 26)).alloc (Obj.cells #[.slice none 0 0, .int .i64 0] 24)) := ⟨_, rfl⟩
  rw [<- hA3] at ha0 ha1 ha2 hag ⊢
  clear hA3
  obtain ⟨es, hes⟩ : ∃ es, es = w.heap.size + 1 := ⟨_, rfl⟩
  rw [<- hes] at ha1 ha2 ⊢
  obtain ⟨qr, hqr⟩ : ∃ qr, qr = es + 1 := ⟨_, rfl⟩
  rw [<- hqr] at ha2 ⊢
  obtain ⟨s0, hs0⟩ : ∃ s0, s0 = w.heap.size := ⟨_, rfl⟩
  rw [<- hs0] at ha0 ⊢
  have HSZ := Go.Lib.hid (And.intro hs0 (And.intro hes hqr))
  clear hs0 hes hqr
  have hcr := HC.out A3 (z5u hS hag)
  have k0 := ha0.cell (i := 0) rfl
  have k1 := ha0.cell (i := 1) rfl
  have HA0 := Go.Lib.hid ha0
  have HA1 := Go.Lib.hid ha1
  have HA2 := Go.Lib.hid ha2
  have HAG := Go.Lib.hid hag
  clear ha0 ha1 ha2 hag
  have hlr : w.heap.size <= qr := by have := HSZ.out; omega
  rcases r with _ | _
  . rw [if_pos rfl] at hy
    cases hy
    go_upto_region 2 with (go_at_call 10; refine hcr.mono ?_; rintro _ w1 ⟨rfl, g1⟩; have HG1 := Go.Lib.hid g1; clear g1 hcr)
    have hq1 := HA2.out.grown HG1.out (by simp)
    have r0 := hq1.cell (i := 0) rfl
    have r1 := hq1.cell (i := 1) rfl
    have f0 := hq1.free (i := 0)
    have f1 := hq1.free (i := 1)
    have hq2 := hq1.set 0 (.slice none 0 0)
    have r1' := hq2.cell (i := 1) rfl
    have f1' := hq2.free (i := 1)
    have hq3 := hq2.set 1 (.int .i64 0)
    have HQ3 := Go.Lib.hid hq3
    clear hq1 hq2 hq3
    go_wp2
    exact bodyPost_ret (zmj rfl rfl HQ3.out) rfl (HR.out _ _ _ _ rfl (znk (znk (z6g (HAG.out.trans38 HG1.out) (by simp)) hlr 0 _) hlr 1 _) (zw5 _))
  rw [if_neg (by decide)] at hy
  obtain ⟨f, hf, hy⟩ := Option.bind_eq_some_iff.1 hy
  go_upto_region 3 with (go_at_call 10; refine hcr.mono ?_; rintro _ w1 ⟨rfl, g1⟩; have HG1 := Go.Lib.hid g1; clear g1 hcr)
  have hk1 := HA1.out.grown HG1.out (by simp)
  have m0 := hk1.cell (i := 0) rfl
  have m1 := hk1.cell (i := 1) rfl
  have m2 := hk1.cell (i := 2) rfl
  have m3 := hk1.cell (i := 3) rfl
  have m4 := hk1.cell (i := 4) rfl
  have hcf := z129 N (W := w1) (z5u hS (HAG.out.trans38 HG1.out)) hev hf
  unfold evV at hcf
  have HK1 := Go.Lib.hid hk1
  clear hk1 k0 k1
  rcases f with _ | _
  . rw [if_pos rfl] at hy
    cases hy
    go_upto_region 4 with (go_at_call 12; refine hcf.mono ?_; rintro _ w2 ⟨rfl, g2⟩; have HG2 := Go.Lib.hid g2; clear g2 hcf)
    have hq1 := (HA2.out.grown HG1.out (by simp)).grown HG2.out (by simp)
    have r0 := hq1.cell (i := 0) rfl
    have r1 := hq1.cell (i := 1) rfl
    have f0 := hq1.free (i := 0)
    have f1 := hq1.free (i := 1)
    have hq2 := hq1.set 0 (.slice none 0 0)
    have r1' := hq2.cell (i := 1) rfl
    have f1' := hq2.free (i := 1)
    have hq3 := hq2.set 1 (.int .i64 0)
    have HQ3 := Go.Lib.hid hq3
    clear hq1 hq2 hq3
    go_wp2
    exact bodyPost_ret (zmj rfl rfl HQ3.out) rfl (HR.out _ _ _ _ rfl (znk (znk (z6g ((HAG.out.trans38 HG1.out).trans38 HG2.out) (by simp)) hlr 0 _) hlr 1 _) (zw5 _))
  rw [if_neg (by decide)] at hy
  by_cases hlim : ts.length <= 16 /\ (ts.all fun t => decide (t.2.2.2.1.length < 256)) = true
  case neg => rw [if_neg hlim] at hy; cases hy
  rw [if_pos hlim] at hy
  obtain ⟨z, hz, hy⟩ := Option.bind_eq_some_iff.1 hy
  have hk256 : ∀ t ∈ ts, t.2.2.2.1.length < 256 := fun t ht => by simpa using List.all_eq_true.1 hlim.2 t ht
  go_upto_region 5 with (go_at_call 12; refine hcf.mono ?_; rintro _ w2 ⟨rfl, g2⟩; have HG2 := Go.Lib.hid g2; clear g2 hcf)
  have hg2 : w.grownBy w2 none := (HAG.out.trans38 HG1.out).trans38 HG2.out
  have hcc := zsy (w := w2) (ser := ser) (z5u hS hg2) hsv (by omega) (fun t ht => by have := hk256 t ht; omega)
  have k2 := (HA0.out.grown HG1.out (by simp)).grown HG2.out (by simp)
  have k0 := k2.cell (i := 0) rfl
  have k1 := k2.cell (i := 1) rfl
  have HG3 := Go.Lib.hid hg2
  clear k2 hg2 m0 m1 m2 m3 m4
  go_upto_region 6 with (go_at_call 23; refine hcc.mono ?_; rintro _ w3 ⟨b, l, rfl, hl1, hl2, hl3⟩; have HL := Go.Lib.hid (And.intro hl1 (And.intro hl2 hl3)); clear hl1 hl2 hl3 hcc)
  obtain ⟨hl1, hl2, hl3⟩ := HL.out
  have hw23 := hl2.size
  have hbw : b < w3.heap.size := hl3.row.lt
  have hin : ∀ i, (h : i < l.length) -> l[i].1.2.2.2.1.length < 256 := fun i h => hk256 _ (by rw [<- hl1]; exact List.mem_map_of_mem (List.getElem_mem h))
  have HSt : St38 w2.heap.size (w3.alloc (Obj.cells #[.slice (some ⟨b, 0, none⟩) ts.length ts.length, .int .i64 ser] 24)) w3.heap.size b ts.length ser l :=
    ⟨RowAt.new w3 [.slice (some ⟨b, 0, none⟩) ts.length ts.length, .int .i64 ser] 24, hl3.row.alloc _, by rw [<- hl1, List.length_map], by omega, hl3.low, hw23, hlim.1, hin, fun i hi => by
      obtain ⟨kb, e1, e2, e3, e4⟩ := hl3.keys i hi
      exact ⟨kb, e1, e2, e3, by have := e4.lt; omega, e4.alloc _⟩, hl3.apart⟩
  have hch := zxa N HSt (y := z) (by rw [hl1]; exact hz)
  unfold evV at hch
  have hg36 : w2.grownBy (w3.alloc (Obj.cells #[.slice (some ⟨b, 0, none⟩) ts.length ts.length, .int .i64 ser] 24)) none := hl2.trans38 (World.grownBy_alloc w3 _ none)
  have hk6 := (HK1.out.grown HG2.out (by simp)).grown hg36 (by simp)
  have hq6 := ((HA2.out.grown HG1.out (by simp)).grown HG2.out (by simp)).grown hg36 (by simp)
  have hqlt := ((HA2.out.grown HG1.out (by simp)).grown HG2.out (by simp)).lt
  obtain ⟨A6, hA6⟩ : ∃ A6, A6 = w3.alloc (Obj.cells #[.slice (some ⟨b, 0, none⟩) ts.length ts.length, .int .i64 ser] 24) := ⟨_, rfl⟩
  rw [<- hA6] at hch hg36 hk6 hq6 HSt ⊢
  clear hA6
  obtain ⟨qa, hqa⟩ : ∃ qa, qa = w3.heap.size := ⟨_, rfl⟩
  rw [<- hqa] at hch HSt ⊢
  clear hqa
  have m0 := hk6.cell (i := 0) rfl
  have m1 := hk6.cell (i := 1) rfl
  have m2 := hk6.cell (i := 2) rfl
  have m3 := hk6.cell (i := 3) rfl
  have m4 := hk6.cell (i := 4) rfl
  have HQ6 := Go.Lib.hid hq6
  have HG6 := Go.Lib.hid (HG3.out.trans38 hg36)
  clear hq6 hk6 hg36 HSt hl1 hl2 hl3 hin k0 k1
  have hwle : w.heap.size <= w2.heap.size := HG3.out.size
  go_upto_region 7 with (go_at_call 24; refine hch.mono ?_; rintro _ w4 ⟨rfl, g4, q4⟩; have H4 := Go.Lib.hid (And.intro g4 q4); clear g4 q4 hch)
  obtain ⟨g4, q4⟩ := H4.out
  have hw4 : WF w (fun j => w.heap.size <= j) w4 := ⟨Nat.le_trans HG6.out.size g4.size, fun j hj hn => (g4.same j (Nat.lt_of_lt_of_le hj HG6.out.size) (by omega)).trans (HG6.out.block j hj (by simp)), g4.tape.trans HG6.out.tape, g4.os.trans HG6.out.os, g4.output.trans HG6.out.output⟩
  have hq1 : RowAt w4 qr [.slice none 0 0, .int .i64 0] 24 := by
    have h := HQ6.out
    unfold RowAt at *
    rw [g4.same qr (Array.getElem?_eq_some_iff.1 h).1 (by omega)]
    exact h
  have HW4 := Go.Lib.hid hw4
  have HQ4 := Go.Lib.hid q4
  clear g4 q4 hw4
  by_cases gz : z.1 = 0
  . rw [if_pos gz] at hy
    cases hy
    obtain ⟨v, v1, v2⟩ := HQ4.out gz
    obtain ⟨va, vc, _, rfl, _⟩ := zug (v2 (hp w4) (fun _ _ => rfl))
    have n0 := v1.cell (i := 0) rfl
    have n1 := v1.cell (i := 1) rfl
    have r0 := hq1.cell (i := 0) rfl
    have r1 := hq1.cell (i := 1) rfl
    have f0 := hq1.free (i := 0)
    have f1 := hq1.free (i := 1)
    have hq2 := hq1.set 0 (.slice va z.2.1.length vc)
    have r1' := hq2.cell (i := 1) rfl
    have f1' := hq2.free (i := 1)
    have hq3 := hq2.set 1 (.int .i64 z.2.2.1)
    have HQ3 := Go.Lib.hid hq3
    have HV := Go.Lib.hid v2
    rw [gz] at *
    clear hq1 hq2 hq3 v1 v2 m0 m1 m2 m3 m4
    go_wp2
    refine bodyPost_ret (zmj rfl rfl HQ3.out) rfl (HR.out _ _ _ _ rfl (znk (znk HW4.out hlr 0 _) hlr 1 _) (zxy (HV.out _ (fun j hj => ?_))))
    rw [if_pos (by omega)]
    have hne : qr ≠ j := by omega
    simp only [hp]
    rw [heap_setCell_other _ ⟨qr, 1, none⟩ j _ (Ne.symm hne), heap_setCell_other _ ⟨qr, 0, none⟩ j _ (Ne.symm hne)]
  . rw [if_neg gz] at hy
    cases hy
    have r0 := hq1.cell (i := 0) rfl
    have r1 := hq1.cell (i := 1) rfl
    have f0 := hq1.free (i := 0)
    have f1 := hq1.free (i := 1)
    have hq2 := hq1.set 0 (.slice none 0 0)
    have r1' := hq2.cell (i := 1) rfl
    have f1' := hq2.free (i := 1)
    have hq3 := hq2.set 1 (.int .i64 0)
    have HQ3 := Go.Lib.hid hq3
    clear hq1 hq2 hq3 m0 m1 m2 m3 m4
    go_wp2
    exact bodyPost_ret (zmj rfl rfl HQ3.out) rfl (HR.out _ _ _ _ rfl (znk (znk HW4.out hlr 0 _) hlr 1 _) (zw5 _))

def zms (N : Nat) (s : StT.den) : Option StT.den :=
 if s.1.length <= 1000 /\ (s.1.all fun t => decide (t.2.2.2.1.length <= 1000)) = true then some s else none

def zja (N : Nat) : List A -> Res := z2x [(0, .v StT)] (fun x => zms N x.1) (zfu (.v StT) 1)

theorem z11x {w w' : World} {b : Nat} {l : List (TenT.den × Value)} (h : Laid w w' b l) {S : Hp} (hS : ∀ j, w.heap.size <= j -> S j = w'.heap[j]?) : VR S (.sl TenT) (l.map (·.1)) (.slice (some ⟨b, 0, none⟩) l.length l.length) :=
  zhs (lo := w.heap.size) (w := w') (sp := []) (by rw [List.append_nil]; exact h.row) h.low (Nat.le_refl _) (fun p hp => by
    obtain ⟨i, hi, rfl⟩ := List.getElem_of_mem hp
    obtain ⟨kb, e1, e2, e3, e4⟩ := h.keys i hi
    exact .inr ⟨kb, _, [], e1, Nat.le_refl _, e2, by rw [List.append_nil]; exact e4⟩) hS

theorem ztd (N : Nat) : Contract Go.Proofs.Try.prog z12 23 (zja N) := by
  refine Contract.hand ⟨_, Go.Proofs.Try.func23, by kernel_rfl, by decide⟩ ?_
  intro w S vals ob x y har hS hg hy
  obtain ⟨s, u⟩ := x
  cases u
  dsimp only at hy
  obtain ⟨⟨v0, hv0, hA0, ho0⟩, _⟩ := har.rel 0 _ rfl
  have hvals : vals = [v0] := by
    match vals, har.len, hv0 with
    | [a], _, h1 => simp at h1; rw [h1]
  subst hvals
  have hob : ∀ i, ob i = [] := by
    intro i
    match i with
    | 0 => exact ho0
    | i + 1 => exact har.out _ (by simp [mkS, zhb])
  unfold zms at hy
  by_cases hlim : s.1.length <= 1000 /\ (s.1.all fun t => decide (t.2.2.2.1.length <= 1000)) = true
  case neg => rw [if_neg hlim] at hy; cases hy
  rw [if_pos hlim] at hy
  obtain rfl : s = y := Option.some.inj hy
  obtain ⟨ts, ser, u⟩ := s
  cases u
  obtain ⟨sv, rfl, hsv⟩ := z10s hA0
  have hk : ∀ t ∈ ts, t.2.2.2.1.length <= 1000 := fun t ht => by simpa using List.all_eq_true.1 hlim.2 t ht
  refine (zsy (ser := ser) hS hsv hlim.1 hk).mono ?_
  rintro _ w' ⟨b, l, rfl, hl1, hl2, hl3⟩
  have hsome : ∀ k o, S k = some o -> k < w.heap.size := fun k o hk => (Array.getElem?_eq_some_iff.1 (show w.heap[k]? = some o from hS k o hk)).1
  have hSw := z5u hS hl2
  have hv : VR (fun k => if w.heap.size <= k then hp w' k else S k) StT (ts, (ser, ())) (.agg #[.slice (some ⟨b, 0, none⟩) ts.length ts.length, .int .i64 ser]) := by
    refine zxy ?_
    have h := z11x hl3 (S := fun k => if w.heap.size <= k then hp w' k else S k) (fun j hj => if_pos hj)
    have e : l.length = ts.length := by rw [<- hl1, List.length_map]
    rw [hl1, e] at h
    exact h
  refine ⟨_, fun k => if w.heap.size <= k then hp w' k else S k, [], ob, rfl, ⟨hl2.size, fun k hk _ => hl2.block k hk (by simp), hl2.tape, hl2.os, hl2.output⟩, fun k o hk => ?_, fun k o hk => ?_, fun k hk => ?_, ⟨⟨hv, rfl⟩, rfl⟩, (fun k hk => by cases hk), .nil, ?_, ?_, ?_, ?_, fun i hi => hi⟩
  . dsimp only
    rw [if_neg (by have := hsome k o hk; omega)]
    exact hk
  . dsimp only at hk
    split at hk
    . exact hk
    . exact hSw k o hk
  . dsimp only at hk
    split at hk
    . exact .inr (.inr (by assumption))
    . exact .inl hk
  . intro i z hz hbx
    match i with
    | 0 => simp [mkS, zhb, AS.mk] at hz; subst hz; cases hbx
    | i + 1 => simp [mkS, zhb] at hz
  . intro i k hk
    rw [hob i] at hk; cases hk
  . intro i j k hi
    rw [hob i] at hi; cases hi
  . intro i
    rw [hob i]; exact .nil

end
end Go.Proofs.YtobbmaplbpdniaaLg

set_option linter.all false
set_option maxRecDepth 100000
namespace Go.Proofs.YtobbmaplbpdniaaLg
noncomputable section
open Go Go.Lift

def zed : Code := (Go.Proofs.Try.f15.body).getD .skip

def zmt : List (List Nat × List Nat) := [([0], [2, 4, 1]), ([0, 0, 1], [12, 4, 2, 1]), ([1, 0, 1], [2, 1, 4]), ([0, 0, 1, 0, 1], [4, 5]), ([1, 0, 1, 0, 1], [4, 5]), ([0, 1, 1], [1, 6, 4]), ([0, 0, 1, 1, 1], [18, 17, 16, 6, 4]), ([0, 1, 0, 1, 1, 1], [18, 17, 16, 6, 4]), ([0, 0, 0, 1, 0, 1, 1, 1], [19, 16, 18, 6, 4, 17]), ([0, 1, 0, 0, 1, 0, 1, 1, 1], [16, 18, 6, 4, 17]), ([1, 0, 1, 0, 0, 1, 0, 1, 1, 1], [6, 4]), ([0, 0, 0, 1, 1, 0, 0, 1, 0, 1, 1, 1], [6, 8, 4, 18, 17, 16]), ([0, 1, 0, 0, 1, 1, 0, 0, 1, 0, 1, 1, 1], [6, 8, 4, 18, 17, 16]), ([0, 1, 1, 0, 0, 1, 1, 0, 0, 1, 0, 1, 1, 1], [9, 4, 18, 17, 16, 6]), ([0, 1, 1, 1, 0, 0, 1, 1, 0, 0, 1, 0, 1, 1, 1], [29, 9, 4, 18, 17, 16, 6]), ([1, 1, 1, 1, 0, 0, 1, 1, 0, 0, 1, 0, 1, 1, 1], [18, 17, 16, 6, 4]), ([0, 0, 1, 1, 1, 1, 0, 0, 1, 1, 0, 0, 1, 0, 1, 1, 1], [4, 5]), ([1, 0, 1, 1, 1, 1, 0, 0, 1, 1, 0, 0, 1, 0, 1, 1, 1], [4, 5]), ([0, 1, 1, 0, 0, 1, 0, 1, 1, 1], [18, 17, 16, 6, 4]), ([1, 1, 1, 0, 0, 1, 0, 1, 1, 1], [18, 17, 16, 6, 4]), ([1, 0, 1, 1, 1], [6, 4]), ([0, 1, 1, 1, 1], [4, 5]), ([1, 1, 1, 1, 1], [4, 5])]

def zho (N : Nat) : Env := z5o tys z12 [(8, zd2 N), (10, z85 N), (23, zja N)] [] [] [] false [] []

theorem zuw (N : Nat) : EnvOk Go.Proofs.Try.prog (zho N) := z1k mixed z2v (FnsOk.cons (zln N) (FnsOk.cons (za0 N) (FnsOk.cons (ztd N) (FnsOk.nil)))) (ItsOk.nil)

def zpt (N : Nat) (x4 : ((List ((List UInt8) × (Int × (Int × ((List (Int × ((List UInt8) × Unit))) × Unit))))) × (Int × Unit))) (x16 : (List (Int × ((List UInt8) × (Int × (Int × ((List UInt8) × Unit))))))) (x17 : Int) (after : ((List ((List UInt8) × (Int × (Int × ((List (Int × ((List UInt8) × Unit))) × Unit))))) × (Int × Unit))) (x18 : Int) (rec : ((List ((List UInt8) × (Int × (Int × ((List (Int × ((List UInt8) × Unit))) × Unit))))) × (Int × Unit)) -> Int -> Option (((List ((List UInt8) × (Int × (Int × ((List (Int × ((List UInt8) × Unit))) × Unit))))) × (Int × Unit)) × Int × Unit)) (k0 : ((List ((List UInt8) × (Int × (Int × ((List (Int × ((List UInt8) × Unit))) × Unit))))) × (Int × Unit)) -> Int -> Option (((List ((List UInt8) × (Int × (Int × ((List (Int × ((List UInt8) × Unit))) × Unit))))) × (Int × Unit)) × Int × Unit)) (k1 : ((List ((List UInt8) × (Int × (Int × ((List (Int × ((List UInt8) × Unit))) × Unit))))) × (Int × Unit)) -> Option (((List ((List UInt8) × (Int × (Int × ((List (Int × ((List UInt8) × Unit))) × Unit))))) × (Int × Unit)) × Int × Unit)) : Option (((List ((List UInt8) × (Int × (Int × ((List (Int × ((List UInt8) × Unit))) × Unit))))) × (Int × Unit)) × Int × Unit) :=
 cond (decide (x18 < x17))
 (cond (Go.Lift.inR x18 (List.length x16))
 ((za6 N after (List.getD x16 (Int.toNat x18) ((0 : Int), (([] : List UInt8), ((0 : Int), ((0 : Int), (([] : List UInt8), ()))))))).bind fun y =>
 cond (y.2.1 != (0 : Int))
 (k0 (([] : List ((List UInt8) × (Int × (Int × ((List (Int × ((List UInt8) × Unit))) × Unit))))), ((0 : Int), ())) y.2.1)
 (rec y.1 (Go.IntKind.wrap Go.IntKind.i64 (x18 + (1 : Int)))))
 (none))
 (k1 after)

def zwh (N : Nat) (x4 : ((List ((List UInt8) × (Int × (Int × ((List (Int × ((List UInt8) × Unit))) × Unit))))) × (Int × Unit))) (after : ((List ((List UInt8) × (Int × (Int × ((List (Int × ((List UInt8) × Unit))) × Unit))))) × (Int × Unit))) (x16 : (List (Int × ((List UInt8) × (Int × (Int × ((List UInt8) × Unit))))))) (x17 : Int) (x18 : Int) (k0 : ((List ((List UInt8) × (Int × (Int × ((List (Int × ((List UInt8) × Unit))) × Unit))))) × (Int × Unit)) -> Int -> Option (((List ((List UInt8) × (Int × (Int × ((List (Int × ((List UInt8) × Unit))) × Unit))))) × (Int × Unit)) × Int × Unit)) (k1 : ((List ((List UInt8) × (Int × (Int × ((List (Int × ((List UInt8) × Unit))) × Unit))))) × (Int × Unit)) -> Option (((List ((List UInt8) × (Int × (Int × ((List (Int × ((List UInt8) × Unit))) × Unit))))) × (Int × Unit)) × Int × Unit)) : Option (((List ((List UInt8) × (Int × (Int × ((List (Int × ((List UInt8) × Unit))) × Unit))))) × (Int × Unit)) × Int × Unit) :=
 iter (fun (v : (((List ((List UInt8) × (Int × (Int × ((List (Int × ((List UInt8) × Unit))) × Unit))))) × (Int × Unit)) × Int)) r => zpt N x4 x16 x17 v.1 v.2 (fun after x18 => (r (after, x18))) k0 k1) N (after, x18)

def zpv (N : Nat) (i : (((List ((List UInt8) × (Int × (Int × ((List (Int × ((List UInt8) × Unit))) × Unit))))) × (Int × Unit)) × (List (Int × ((List UInt8) × (Int × (Int × ((List UInt8) × Unit)))))) × Int)) (v : (((List ((List UInt8) × (Int × (Int × ((List (Int × ((List UInt8) × Unit))) × Unit))))) × (Int × Unit)) × Int)) (r : (((List ((List UInt8) × (Int × (Int × ((List (Int × ((List UInt8) × Unit))) × Unit))))) × (Int × Unit)) × Int) -> Option (((List ((List UInt8) × (Int × (Int × ((List (Int × ((List UInt8) × Unit))) × Unit))))) × (Int × Unit)) × Int × Unit)) (K : Ex -> List A -> Option (((List ((List UInt8) × (Int × (Int × ((List (Int × ((List UInt8) × Unit))) × Unit))))) × (Int × Unit)) × Int × Unit)) : Option (((List ((List UInt8) × (Int × (Int × ((List (Int × ((List UInt8) × Unit))) × Unit))))) × (Int × Unit)) × Int × Unit) :=
 zpt N i.1 i.2.1 i.2.2 v.1 v.2 (fun after x18 => (r (after, x18))) (fun a0 a1 => (K .ret (mkS [(4, .box (.pair (.sl (.pair .str (.pair (.int .i64) (.pair (.int .i64) (.pair (.sl (.pair (.int .i64) (.pair .str .unit))) .unit))))) (.pair (.int .i64) .unit))), (0, .v (.int .i64))] 28 (a0, a1, ())))) (fun a1 => (K (.exit 0) (mkS [(4, .box (.pair (.sl (.pair .str (.pair (.int .i64) (.pair (.int .i64) (.pair (.sl (.pair (.int .i64) (.pair .str .unit))) .unit))))) (.pair (.int .i64) .unit))), (1, .box (.pair (.sl (.pair .str (.pair (.int .i64) (.pair (.int .i64) (.pair (.sl (.pair (.int .i64) (.pair .str .unit))) .unit))))) (.pair (.int .i64) .unit)))] 27 (i.1, a1, ()))))

def zpu (N : Nat) : Hd (((List ((List UInt8) × (Int × (Int × ((List (Int × ((List UInt8) × Unit))) × Unit))))) × (Int × Unit)) × Int × Unit) := fun st K => (unS [(4, .box (.pair (.sl (.pair .str (.pair (.int .i64) (.pair (.int .i64) (.pair (.sl (.pair (.int .i64) (.pair .str .unit))) .unit))))) (.pair (.int .i64) .unit))), (1, .box (.pair (.sl (.pair .str (.pair (.int .i64) (.pair (.int .i64) (.pair (.sl (.pair (.int .i64) (.pair .str .unit))) .unit))))) (.pair (.int .i64) .unit))), (9, .v (.sl (.pair (.int .i64) (.pair .str (.pair (.int .i64) (.pair (.int .i64) (.pair .str .unit))))))), (0, .v (.int .i64)), (0, .v (.int .i64))] 15 (restr [18, 17, 16, 6, 4] 0 st)).bind fun x => iter (fun v r => zpv N ((fun x => (x.1, x.2.2.1, x.2.2.2.1)) x) v r K) N ((fun x => (x.2.1, x.2.2.2.2.1)) x)

def zwg (N : Nat) : Tab (((List ((List UInt8) × (Int × (Int × ((List (Int × ((List UInt8) × Unit))) × Unit))))) × (Int × Unit)) × Int × Unit) := []

theorem zuv {N : Nat} {c : Ctx} (hb : Base Go.Proofs.Try.prog (zho N) c) : zu Go.Proofs.Try.prog c (zf zed [0, 1, 0, 1, 1, 1]) (zpu N) :=
  z4m (s := [(4, .box (.pair (.sl (.pair .str (.pair (.int .i64) (.pair (.int .i64) (.pair (.sl (.pair (.int .i64) (.pair .str .unit))) .unit))))) (.pair (.int .i64) .unit))), (1, .box (.pair (.sl (.pair .str (.pair (.int .i64) (.pair (.int .i64) (.pair (.sl (.pair (.int .i64) (.pair .str .unit))) .unit))))) (.pair (.int .i64) .unit))), (9, .v (.sl (.pair (.int .i64) (.pair .str (.pair (.int .i64) (.pair (.int .i64) (.pair .str .unit))))))), (0, .v (.int .i64)), (0, .v (.int .i64))]) (m := 15) (zpv N) [18, 17, 16, 6, 4] N (fun x => (x.1, x.2.2.1, x.2.2.2.1)) (fun x => (x.2.1, x.2.2.2.2.1)) (fun i v => (i.1, v.1, i.2.1, i.2.2, v.2, ())) (fun _ => rfl) (z7 hb N (zwg N) zmt zed TabOk.nil [0, 0, 1, 0, 1, 1, 1] _ rfl) (fun i v r K => by kernel_rfl)

def ztm (N : Nat) (s : ((List ((List UInt8) × (Int × (Int × ((List (Int × ((List UInt8) × Unit))) × Unit))))) × (Int × Unit))) (l : (List (Int × ((List UInt8) × (Int × (Int × ((List UInt8) × Unit))))))) : Option (((List ((List UInt8) × (Int × (Int × ((List (Int × ((List UInt8) × Unit))) × Unit))))) × (Int × Unit)) × Int × Unit) :=
 (z4u N s).bind fun y =>
 cond (!y)
 (some ((([] : List ((List UInt8) × (Int × (Int × ((List (Int × ((List UInt8) × Unit))) × Unit))))), ((0 : Int), ())), ((7 : Int), ())))
 ((zms N s).bind fun y1 =>
 zwh N (([] : List ((List UInt8) × (Int × (Int × ((List (Int × ((List UInt8) × Unit))) × Unit))))), ((0 : Int), ())) y1 l (((List.length l) : Nat) : Int) (0 : Int)
 (fun x4 x5 => some (x4, (x5, ())))
 (fun after => some (after, ((0 : Int), ()))))

def zsc (N : Nat) : Tab (((List ((List UInt8) × (Int × (Int × ((List (Int × ((List UInt8) × Unit))) × Unit))))) × (Int × Unit)) × Int × Unit) := [([0, 1, 0, 1, 1, 1], zpu N)]

theorem ztl (N : Nat) (x : z2b [(0, .v (.pair (.sl (.pair .str (.pair (.int .i64) (.pair (.int .i64) (.pair (.sl (.pair (.int .i64) (.pair .str .unit))) .unit))))) (.pair (.int .i64) .unit))), (0, .v (.sl (.pair (.int .i64) (.pair .str (.pair (.int .i64) (.pair (.int .i64) (.pair .str .unit)))))))]) : zft (zho N) N (zsc N) zmt Go.Proofs.Try.f15 (mkS [(0, .v (.pair (.sl (.pair .str (.pair (.int .i64) (.pair (.int .i64) (.pair (.sl (.pair (.int .i64) (.pair .str .unit))) .unit))))) (.pair (.int .i64) .unit))), (0, .v (.sl (.pair (.int .i64) (.pair .str (.pair (.int .i64) (.pair (.int .i64) (.pair .str .unit)))))))] 0 x) (z6m (.tup [(.pair (.sl (.pair .str (.pair (.int .i64) (.pair (.int .i64) (.pair (.sl (.pair (.int .i64) (.pair .str .unit))) .unit))))) (.pair (.int .i64) .unit)), (.int .i64)]) 2) = ztm N x.1 x.2.1 := by kernel_rfl

def znx (N : Nat) : List A -> Res := z2x [(0, .v (.pair (.sl (.pair .str (.pair (.int .i64) (.pair (.int .i64) (.pair (.sl (.pair (.int .i64) (.pair .str .unit))) .unit))))) (.pair (.int .i64) .unit))), (0, .v (.sl (.pair (.int .i64) (.pair .str (.pair (.int .i64) (.pair (.int .i64) (.pair .str .unit)))))))] (fun x => ztm N x.1 x.2.1) (zfu (.tup [(.pair (.sl (.pair .str (.pair (.int .i64) (.pair (.int .i64) (.pair (.sl (.pair (.int .i64) (.pair .str .unit))) .unit))))) (.pair (.int .i64) .unit)), (.int .i64)]) 2)

theorem zwi (N : Nat) : Contract Go.Proofs.Try.prog z12 15 (znx N) :=
  Contract.of (E := zho N) (H := zsc N) (L := zmt) (N := N) (body := zed) (K := (z6m (.tup [(.pair (.sl (.pair .str (.pair (.int .i64) (.pair (.int .i64) (.pair (.sl (.pair (.int .i64) (.pair .str .unit))) .unit))))) (.pair (.int .i64) .unit)), (.int .i64)]) 2)) (zuw N) Go.Proofs.Try.func15 (by kernel_rfl) (by decide) (fun _ hb => (TabOk.cons (zuv hb) TabOk.nil)) (fun x y h => by rw [ztl]; exact h) (z22 (s := (.tup [(.pair (.sl (.pair .str (.pair (.int .i64) (.pair (.int .i64) (.pair (.sl (.pair (.int .i64) (.pair .str .unit))) .unit))))) (.pair (.int .i64) .unit)), (.int .i64)])) (m := 2))

def zfr : Code := (Go.Proofs.Try.f7.body).getD .skip

def zbr : List (List Nat × List Nat) := [([0], []), ([0, 1], [1, 2]), ([0, 1, 1], [2, 1, 4, 3]), ([0, 1, 1, 1], [0]), ([1, 1, 1, 1], [0])]

def z6c (N : Nat) : Env := z5o tys z12 [(15, znx N), (10, z85 N), (19, zg5 N)] [] [] [] false [] []

theorem zh0 (N : Nat) : EnvOk Go.Proofs.Try.prog (z6c N) := z1k mixed z2v (FnsOk.cons (zwi N) (FnsOk.cons (za0 N) (FnsOk.cons (zrj N) (FnsOk.nil)))) (ItsOk.nil)

def z3i (N : Nat) : Option Bool :=
 (ztm N (([] : List ((List UInt8) × (Int × (Int × ((List (Int × ((List UInt8) × Unit))) × Unit))))), ((0 : Int), ())) ([((1 : Int), (([(97 : UInt8), (99 : UInt8), (109 : UInt8), (101 : UInt8)] : List UInt8), ((2 : Int), ((0 : Int), (([] : List UInt8), ()))))), ((2 : Int), (([(97 : UInt8), (99 : UInt8), (109 : UInt8), (101 : UInt8)] : List UInt8), ((1 : Int), ((0 : Int), (([(48 : UInt8), (49 : UInt8), (50 : UInt8), (51 : UInt8), (52 : UInt8), (53 : UInt8), (54 : UInt8), (55 : UInt8), (56 : UInt8), (57 : UInt8), (97 : UInt8), (98 : UInt8), (99 : UInt8), (100 : UInt8), (101 : UInt8), (102 : UInt8), (48 : UInt8), (49 : UInt8), (50 : UInt8), (51 : UInt8), (52 : UInt8), (53 : UInt8), (54 : UInt8), (55 : UInt8), (56 : UInt8), (57 : UInt8), (97 : UInt8), (98 : UInt8), (99 : UInt8), (100 : UInt8), (101 : UInt8), (102 : UInt8)] : List UInt8), ())))))] : List (Int × ((List UInt8) × (Int × (Int × ((List UInt8) × Unit))))))).bind fun y =>
 (zjx N y.1 ([(97 : UInt8), (99 : UInt8), (109 : UInt8), (101 : UInt8)] : List UInt8)).bind fun y1 =>
 cond (y.2.1 == (0 : Int))
 (cond ((((List.length y.1.1) : Nat) : Int) == (1 : Int))
 (cond y1.2.1
 (cond (Go.Lift.eqD (Go.Lift.T.pair (Go.Lift.T.int Go.IntKind.i64) (Go.Lift.T.pair Go.Lift.T.str Go.Lift.T.unit)) y1.1 ((1 : Int), (([(48 : UInt8), (49 : UInt8), (50 : UInt8), (51 : UInt8), (52 : UInt8), (53 : UInt8), (54 : UInt8), (55 : UInt8), (56 : UInt8), (57 : UInt8), (97 : UInt8), (98 : UInt8), (99 : UInt8), (100 : UInt8), (101 : UInt8), (102 : UInt8), (48 : UInt8), (49 : UInt8), (50 : UInt8), (51 : UInt8), (52 : UInt8), (53 : UInt8), (54 : UInt8), (55 : UInt8), (56 : UInt8), (57 : UInt8), (97 : UInt8), (98 : UInt8), (99 : UInt8), (100 : UInt8), (101 : UInt8), (102 : UInt8)] : List UInt8), ())))
 ((z4u N y.1).bind fun y2 =>
 some y2)
 (some false))
 (some false))
 (some false))
 (some false)

def zbq (N : Nat) : Tab Bool := []

theorem zfq (N : Nat) (x : z2b []) : zft (z6c N) N (zbq N) zbr Go.Proofs.Try.f7 (mkS [] 0 x) (z6m (.v .bool) 0) = z3i N := by kernel_rfl

def z8d (N : Nat) : List A -> Res := z2x [] (fun x => z3i N) (zfu (.v .bool) 0)

theorem zj4 (N : Nat) : Contract Go.Proofs.Try.prog z12 7 (z8d N) :=
  Contract.of (E := z6c N) (H := zbq N) (L := zbr) (N := N) (body := zfr) (K := (z6m (.v .bool) 0)) (zh0 N) Go.Proofs.Try.func7 (by kernel_rfl) (by decide) (fun _ hb => TabOk.nil) (fun x y h => by rw [zfq]; exact h) (z22 (s := (.v .bool)) (m := 0))

def z1o : Code := (Go.Proofs.Try.f3.body).getD .skip

def z2h : List (List Nat × List Nat) := [([0], [2, 3]), ([0, 0, 1], [16, 2, 3]), ([1, 0, 1], [2, 3]), ([0, 0, 1, 0, 1], [4]), ([1, 0, 1, 0, 1], [4]), ([0, 1, 1], [2, 3, 6, 5]), ([0, 1, 1, 1], [2, 3, 6, 8, 5, 7]), ([0, 1, 1, 1, 1], [4]), ([1, 1, 1, 1, 1], [4])]

def z1v (N : Nat) : Env := z5o tys z12 [(7, z8d N), (6, z8a N), (8, zd2 N), (9, z8b N), (10, z85 N), (11, z4j N), (12, zlk N), (13, z5j N), (14, z6l N)] [] [] [] false [] []

theorem zbv (N : Nat) : EnvOk Go.Proofs.Try.prog (z1v N) := z1k mixed z2v (FnsOk.cons (zj4 N) (FnsOk.cons (zij N) (FnsOk.cons (zln N) (FnsOk.cons (ziv N) (FnsOk.cons (za0 N) (FnsOk.cons (z9d N) (FnsOk.cons (znt N) (FnsOk.cons (zb5 N) (FnsOk.cons (zep N) (FnsOk.nil)))))))))) (ItsOk.nil)

def z30 (N : Nat) (s : ((List ((List UInt8) × (Int × (Int × ((List (Int × ((List UInt8) × Unit))) × Unit))))) × (Int × Unit))) (e : (Int × ((List UInt8) × (Int × (Int × ((List UInt8) × Unit)))))) (k0 : Bool -> Option Bool) : Option Bool :=
 (z3g N s).bind fun y =>
 cond y
 (k0 true)
 (k0 (decide ((100 : Int) < (((List.length e.2.1) : Nat) : Int))))

def z53 (N : Nat) (x : z2b [(2, .box (.pair (.sl (.pair .str (.pair (.int .i64) (.pair (.int .i64) (.pair (.sl (.pair (.int .i64) (.pair .str .unit))) .unit))))) (.pair (.int .i64) .unit))), (0, .box (.pair (.int .i64) (.pair .str (.pair (.int .i64) (.pair (.int .i64) (.pair .str .unit))))))]) (K : Ex -> List A -> Option Bool) : Option Bool :=
 z30 N x.1 x.2.1 (fun a2 => (K .normal (mkS [(2, .box (.pair (.sl (.pair .str (.pair (.int .i64) (.pair (.int .i64) (.pair (.sl (.pair (.int .i64) (.pair .str .unit))) .unit))))) (.pair (.int .i64) .unit))), (0, .box (.pair (.int .i64) (.pair .str (.pair (.int .i64) (.pair (.int .i64) (.pair .str .unit)))))), (12, .v .bool)] 38 (x.1, x.2.1, a2, ()))))

def z51 (N : Nat) : Hd Bool := fun st K => (unS [(2, .box (.pair (.sl (.pair .str (.pair (.int .i64) (.pair (.int .i64) (.pair (.sl (.pair (.int .i64) (.pair .str .unit))) .unit))))) (.pair (.int .i64) .unit))), (0, .box (.pair (.int .i64) (.pair .str (.pair (.int .i64) (.pair (.int .i64) (.pair .str .unit))))))] 51 (restr [2, 3] 0 st)).bind fun x => z53 N x K

def zc6 (N : Nat) : Tab Bool := []

theorem zbt {N : Nat} {c : Ctx} (hb : Base Go.Proofs.Try.prog (z1v N) c) : zu Go.Proofs.Try.prog c (zf z1o [0, 0, 1]) (z51 N) :=
  zp (s := [(2, .box (.pair (.sl (.pair .str (.pair (.int .i64) (.pair (.int .i64) (.pair (.sl (.pair (.int .i64) (.pair .str .unit))) .unit))))) (.pair (.int .i64) .unit))), (0, .box (.pair (.int .i64) (.pair .str (.pair (.int .i64) (.pair (.int .i64) (.pair .str .unit))))))]) (m := 51) (g := z53 N) [2, 3] (z7 hb N (zc6 N) z2h z1o TabOk.nil [0, 0, 1] _ rfl) (fun x K => by kernel_rfl)

def z31 (N : Nat) (s : ((List ((List UInt8) × (Int × (Int × ((List (Int × ((List UInt8) × Unit))) × Unit))))) × (Int × Unit))) (e : (Int × ((List UInt8) × (Int × (Int × ((List UInt8) × Unit)))))) (k0 : Bool -> Option Bool) (k1 : Option Bool) : Option Bool :=
 z30 N s e
 (fun x16 => cond x16
 ((z3i N).bind fun y =>
 k0 y)
 (k1))

def z54 (N : Nat) (x : z2b [(2, .box (.pair (.sl (.pair .str (.pair (.int .i64) (.pair (.int .i64) (.pair (.sl (.pair (.int .i64) (.pair .str .unit))) .unit))))) (.pair (.int .i64) .unit))), (0, .box (.pair (.int .i64) (.pair .str (.pair (.int .i64) (.pair (.int .i64) (.pair .str .unit))))))]) (K : Ex -> List A -> Option Bool) : Option Bool :=
 z31 N x.1 x.2.1 (fun a0 => (K .ret (mkS [(4, .v .bool)] 50 (a0, ())))) (K .normal (mkS [(2, .box (.pair (.sl (.pair .str (.pair (.int .i64) (.pair (.int .i64) (.pair (.sl (.pair (.int .i64) (.pair .str .unit))) .unit))))) (.pair (.int .i64) .unit))), (0, .box (.pair (.int .i64) (.pair .str (.pair (.int .i64) (.pair (.int .i64) (.pair .str .unit))))))] 51 (x.1, x.2.1, ())))

def z52 (N : Nat) : Hd Bool := fun st K => (unS [(2, .box (.pair (.sl (.pair .str (.pair (.int .i64) (.pair (.int .i64) (.pair (.sl (.pair (.int .i64) (.pair .str .unit))) .unit))))) (.pair (.int .i64) .unit))), (0, .box (.pair (.int .i64) (.pair .str (.pair (.int .i64) (.pair (.int .i64) (.pair .str .unit))))))] 51 (restr [2, 3] 0 st)).bind fun x => z54 N x K

def zc7 (N : Nat) : Tab Bool := [([0, 0, 1], z51 N)]

theorem zbu {N : Nat} {c : Ctx} (hb : Base Go.Proofs.Try.prog (z1v N) c) : zu Go.Proofs.Try.prog c (zf z1o [0, 1]) (z52 N) :=
  zp (s := [(2, .box (.pair (.sl (.pair .str (.pair (.int .i64) (.pair (.int .i64) (.pair (.sl (.pair (.int .i64) (.pair .str .unit))) .unit))))) (.pair (.int .i64) .unit))), (0, .box (.pair (.int .i64) (.pair .str (.pair (.int .i64) (.pair (.int .i64) (.pair .str .unit))))))]) (m := 51) (g := z54 N) [2, 3] (z7 hb N (zc7 N) z2h z1o (TabOk.cons (zbt hb) TabOk.nil) [0, 1] _ rfl) (fun x K => by kernel_rfl)

def z1r (N : Nat) (s : ((List ((List UInt8) × (Int × (Int × ((List (Int × ((List UInt8) × Unit))) × Unit))))) × (Int × Unit))) (e : (Int × ((List UInt8) × (Int × (Int × ((List UInt8) × Unit)))))) : Option Bool :=
 z31 N s e
 (fun x4 => some x4)
 ((za6 N s e).bind fun y =>
 (z3h N s e).bind fun y1 =>
 (z4u N s).bind fun y2 =>
 (z2t N s).bind fun y3 =>
 cond (y2 == y3)
 ((zal N e).bind fun y4 =>
 (z34 N e).bind fun y5 =>
 cond (y4 == y5)
 (cond (y.2.1 == y1.2.1)
 ((z29 N y.1 y1.1).bind fun y6 =>
 cond y6
 ((z3i N).bind fun y7 =>
 some y7)
 (some false))
 (some false))
 (some false))
 (some false))

def z5n (N : Nat) : Tab Bool := [([0, 1], z52 N)]

theorem za2 (N : Nat) (x : z2b [(0, .v (.pair (.sl (.pair .str (.pair (.int .i64) (.pair (.int .i64) (.pair (.sl (.pair (.int .i64) (.pair .str .unit))) .unit))))) (.pair (.int .i64) .unit))), (0, .v (.pair (.int .i64) (.pair .str (.pair (.int .i64) (.pair (.int .i64) (.pair .str .unit))))))]) : zft (z1v N) N (z5n N) z2h Go.Proofs.Try.f3 (mkS [(0, .v (.pair (.sl (.pair .str (.pair (.int .i64) (.pair (.int .i64) (.pair (.sl (.pair (.int .i64) (.pair .str .unit))) .unit))))) (.pair (.int .i64) .unit))), (0, .v (.pair (.int .i64) (.pair .str (.pair (.int .i64) (.pair (.int .i64) (.pair .str .unit))))))] 0 x) (z6m (.v .bool) 2) = z1r N x.1 x.2.1 := by kernel_rfl

def zbs (N : Nat) : List A -> Res := z2x [(0, .v (.pair (.sl (.pair .str (.pair (.int .i64) (.pair (.int .i64) (.pair (.sl (.pair (.int .i64) (.pair .str .unit))) .unit))))) (.pair (.int .i64) .unit))), (0, .v (.pair (.int .i64) (.pair .str (.pair (.int .i64) (.pair (.int .i64) (.pair .str .unit))))))] (fun x => z1r N x.1 x.2.1) (zfu (.v .bool) 2)

theorem zc8 (N : Nat) : Contract Go.Proofs.Try.prog z12 3 (zbs N) :=
  Contract.of (E := z1v N) (H := z5n N) (L := z2h) (N := N) (body := z1o) (K := (z6m (.v .bool) 2)) (zbv N) Go.Proofs.Try.func3 (by kernel_rfl) (by decide) (fun _ hb => (TabOk.cons (zbu hb) TabOk.nil)) (fun x y h => by rw [za2]; exact h) (z22 (s := (.v .bool)) (m := 2))

end
end Go.Proofs.YtobbmaplbpdniaaLg

set_option linter.all false
set_option maxRecDepth 100000
namespace Go.Proofs.YtobbmaplbpdniaaLg
noncomputable section
open Go Go.Lift Go.Proofs.YtobbmaplbpdniaaPx

abbrev EvD := Int × (List UInt8 × (Int × (Int × (List UInt8 × Unit))))

def zj5 {α : Type} (p : α -> Bool) : List α -> Nat -> Int
  | [], _ => -1
  | x :: l, i => if p x then (i : Int) else zj5 p l (i + 1)

theorem z5q {α : Type} (p : α -> Bool) : ∀ (l : List α) (i : Nat), (zj5 p l i = -1 /\ ∀ x ∈ l, p x = false) \/ ∃ j : Nat, zj5 p l i = ((i + j : Nat) : Int) /\ ∃ h : j < l.length, p l[j] = true
  | [], i => .inl ⟨rfl, fun x hx => by cases hx⟩
  | x :: l, i => by
    rw [zj5]
    cases hp : p x with
    | true => exact .inr ⟨0, by simp, by simp, hp⟩
    | false =>
      simp only [Bool.false_eq_true, if_false]
      rcases z5q p l (i + 1) with ⟨h1, h2⟩ | ⟨j, h1, h2, h3⟩
      . refine .inl ⟨h1, fun y hy => ?_⟩
        rcases List.mem_cons.1 hy with rfl | hy
        . exact hp
        . exact h2 y hy
      . exact .inr ⟨j + 1, by rw [h1]; congr 1; omega, by simpa using h2, by simpa using h3⟩

theorem zu6 : ∀ a b : List UInt8, Go.Op.bytesLess a b = decide (zcw a b < 0)
  | [], [] => rfl
  | [], _ :: _ => rfl
  | _ :: _, [] => rfl
  | x :: xs, y :: ys => by
    rw [zcw, Go.Op.bytesLess]
    by_cases h1 : x < y
    . rw [if_pos h1, decide_eq_true h1]; rfl
    . by_cases h2 : y < x
      . have h3 : (x == y) = false := by
          rw [beq_eq_false_iff_ne]
          intro e; rw [e, UInt8.lt_iff_toNat_lt] at h2; omega
        rw [if_neg h1, if_pos h2, decide_eq_false h1, h3]; rfl
      . have e : x = y := by
          rw [UInt8.lt_iff_toNat_lt] at h1 h2
          exact UInt8.toNat_inj.1 (by omega)
        subst e
        rw [if_neg h1, if_neg h1, zu6 xs ys, decide_eq_false h1, beq_self_eq_true, Bool.false_or, Bool.true_and]

theorem zqw : ∀ a b c : List UInt8, zcw a b < 0 -> zcw b c < 0 -> zcw a c < 0
  | [], [], _, h, _ => by simp [zcw] at h
  | [], _ :: _, [], _, h => by simp [zcw] at h
  | [], _ :: _, _ :: _, _, _ => by simp [zcw]
  | _ :: _, [], _, h, _ => by simp [zcw] at h
  | _ :: _, _ :: _, [], _, h => by simp [zcw] at h
  | x :: xs, y :: ys, z :: zs, h, g => by
    rw [zcw] at h g ⊢
    simp only [UInt8.lt_iff_toNat_lt] at h g ⊢
    by_cases h1 : x.toNat < y.toNat
    . by_cases g1 : y.toNat < z.toNat
      . rw [if_pos (by omega)]; omega
      . by_cases g2 : z.toNat < y.toNat
        . rw [if_neg g1, if_pos g2] at g; omega
        . rw [if_pos (by omega)]; omega
    . by_cases h2 : y.toNat < x.toNat
      . rw [if_neg h1, if_pos h2] at h; omega
      . rw [if_neg h1, if_neg h2] at h
        by_cases g1 : y.toNat < z.toNat
        . rw [if_pos (by omega)]; omega
        . by_cases g2 : z.toNat < y.toNat
          . rw [if_neg g1, if_pos g2] at g; omega
          . rw [if_neg g1, if_neg g2] at g
            rw [if_neg (by omega), if_neg (by omega)]
            exact zqw xs ys zs h g

theorem zsx : ∀ a b : List UInt8, ¬ zcw a b < 0 -> a ≠ b -> zcw b a < 0
  | [], [], _, h => absurd rfl h
  | [], _ :: _, h, _ => by simp [zcw] at h
  | _ :: _, [], _, _ => by simp [zcw]
  | x :: xs, y :: ys, h, g => by
    rw [zcw] at h ⊢
    simp only [UInt8.lt_iff_toNat_lt] at h ⊢
    by_cases h1 : x.toNat < y.toNat
    . rw [if_pos h1] at h; omega
    . by_cases h2 : y.toNat < x.toNat
      . rw [if_pos h2]; omega
      . have e : x = y := UInt8.toNat_inj.1 (by omega)
        subst e
        rw [if_neg h1, if_neg h1] at h
        rw [if_neg h1, if_neg h1]
        exact zsx xs ys h (fun e => g (by rw [e]))

theorem z10k (p t : List UInt8) : upL (some p) t = decide (zcw p t < 0) := by
  rw [upL, <- z12p]
  by_cases h : zcw p t < 0
  . rw [decide_eq_true h, decide_eq_false (by omega)]; rfl
  . rw [decide_eq_false h, decide_eq_true (by omega)]; rfl

theorem z3f {p : Option (List UInt8)} {t : zdy} {l : List zdy} : z7l p (t :: l) = true ↔ upL p t.1 = true /\ zui t = true /\ z7l (some t.1) l = true := by
  rw [z7l]; simp only [Bool.and_eq_true]

theorem zmq : ∀ {l : List zdy} {p : List UInt8}, z7l (some p) l = true -> ∀ x ∈ l, zcw p x.1 < 0
  | [], _, _, x, hx => by cases hx
  | t :: l, p, h, x, hx => by
    obtain ⟨h1, h2, h3⟩ := z3f.1 h
    rw [z10k, decide_eq_true_eq] at h1
    rcases List.mem_cons.1 hx with rfl | hx
    . exact h1
    . exact zqw _ _ _ h1 (zmq h3 x hx)

theorem ze0 : ∀ {l : List zdy} {p : Option (List UInt8)}, z7l p l = true -> ∀ x ∈ l, zui x = true
  | [], _, _, x, hx => by cases hx
  | t :: l, p, h, x, hx => by
    obtain ⟨h1, h2, h3⟩ := z3f.1 h
    rcases List.mem_cons.1 hx with rfl | hx
    . exact h2
    . exact ze0 h3 x hx

theorem zd7 {t : zdy} (h : zui t = true) : z8l t.1 = true /\ za8 t.2.1 0 = true /\ za8 t.2.2.1 1 = true /\ t.2.2.2.1.length <= 8 /\ z8e t.2.2.1 0 t.2.2.2.1 = true := by
  unfold zui at h
  simp only [Bool.and_eq_true, decide_eq_true_eq] at h
  exact ⟨h.1, h.2.1, h.2.2.1, h.2.2.2.1, h.2.2.2.2⟩

theorem z10p {t : zdy} (h1 : z8l t.1 = true) (h2 : za8 t.2.1 0 = true) (h3 : za8 t.2.2.1 1 = true) (h4 : t.2.2.2.1.length <= 8) (h5 : z8e t.2.2.1 0 t.2.2.2.1 = true) : zui t = true := by
  unfold zui
  rw [h1, h2, h3, h5, decide_eq_true h4]; rfl

theorem z13w {x low : Int} : za8 x low = true ↔ low <= x /\ x <= 1099511627776 := by
  unfold za8; simp only [Bool.and_eq_true, decide_eq_true_eq]

theorem zcd {s : zmk} : z89 s = true ↔ s.1.length <= 16 /\ za8 s.2.1 0 = true /\ z7l none s.1 = true := by
  unfold z89; simp only [Bool.and_eq_true, decide_eq_true_eq]

theorem zxs : ∀ {l : List zdy} {p : Option (List UInt8)} {t : zdy} (j : Nat) (hj : j < l.length), z7l p l = true -> t.1 = l[j].1 -> zui t = true -> z7l p (l.take j ++ t :: l.drop (j + 1)) = true
  | [], _, _, j, hj, _, _, _ => by cases hj
  | x :: l, p, t, 0, _, h, e, ht => by
    obtain ⟨h1, h2, h3⟩ := z3f.1 h
    rw [List.take_zero, List.nil_append, List.drop_succ_cons, List.drop_zero]
    have e' : t.1 = x.1 := e
    rw [z3f, e']
    exact ⟨h1, ht, h3⟩
  | x :: l, p, t, j + 1, hj, h, e, ht => by
    obtain ⟨h1, h2, h3⟩ := z3f.1 h
    rw [List.take_succ_cons, List.cons_append, List.drop_succ_cons, z3f]
    exact ⟨h1, h2, zxs j (by simpa using hj) h3 (by simpa using e) ht⟩

theorem zxt : ∀ {l : List zdy} {p : Option (List UInt8)} {t : zdy}, z7l p l = true -> upL p t.1 = true -> (∀ x ∈ l, x.1 ≠ t.1) -> zui t = true -> z7l p (l.take (z9z l t.1) ++ [t] ++ l.drop (z9z l t.1)) = true
  | [], p, t, _, hu, _, ht => by
    show z7l p [t] = true
    rw [z3f]; exact ⟨hu, ht, rfl⟩
  | x :: l, p, t, h, hu, hn, ht => by
    obtain ⟨h1, h2, h3⟩ := z3f.1 h
    unfold z9z
    rw [List.takeWhile_cons]
    have hx : x.1 ≠ t.1 := hn x List.mem_cons_self
    rw [zu6]
    by_cases hlt : zcw x.1 t.1 < 0
    . rw [decide_eq_true hlt, if_pos rfl, List.length_cons, List.take_succ_cons, List.drop_succ_cons]
      show z7l p (x :: (l.take (z9z l t.1) ++ [t] ++ l.drop (z9z l t.1))) = true
      rw [z3f]
      exact ⟨h1, h2, zxt h3 (by rw [z10k, decide_eq_true hlt]) (fun y hy => hn y (List.mem_cons_of_mem _ hy)) ht⟩
    . rw [decide_eq_false hlt, if_neg (by decide)]
      show z7l p (t :: x :: l) = true
      rw [z3f, z3f]
      exact ⟨hu, ht, by rw [z10k]; exact decide_eq_true (zsx _ _ hlt hx), h2, h3⟩

theorem z5p {nx last : Int} {k : zmm} {l : List zmm} : z8e nx last (k :: l) = true ↔ last < k.1 /\ k.1 < nx /\ k.2.1.length = 32 /\ z8e nx k.1 l = true := by
  rw [z8e]; simp only [Bool.and_eq_true, decide_eq_true_eq]

theorem zqj : ∀ {l : List zmm} {nx nx' a b : Int}, z8e nx a l = true -> b <= a -> nx <= nx' -> z8e nx' b l = true
  | [], _, _, _, _, _, _, _ => rfl
  | k :: l, nx, nx', a, b, h, h1, h2 => by
    obtain ⟨g1, g2, g3, g4⟩ := z5p.1 h
    exact z5p.2 ⟨by omega, by omega, g3, zqj g4 (by omega) h2⟩

theorem zve : ∀ {l : List zmm} {nx a : Int} (j : Nat), z8e nx a l = true -> z8e nx a (l.take j ++ l.drop (j + 1)) = true
  | [], _, _, _, _ => by simp [z8e]
  | k :: l, nx, a, 0, h => by
    obtain ⟨g1, g2, g3, g4⟩ := z5p.1 h
    exact zqj g4 (by omega) (by omega)
  | k :: l, nx, a, j + 1, h => by
    obtain ⟨g1, g2, g3, g4⟩ := z5p.1 h
    rw [List.take_succ_cons, List.cons_append, List.drop_succ_cons]
    exact z5p.2 ⟨g1, g2, g3, zve j g4⟩

theorem zyo : ∀ {l : List zmm} {nx a : Int} {k : zmm}, z8e nx a l = true -> a < k.1 -> k.1 < nx -> k.2.1.length = 32 -> (∀ x ∈ l, x.1 ≠ k.1) -> z8e nx a (l.take (zh7 l k.1) ++ [k] ++ l.drop (zh7 l k.1)) = true
  | [], nx, a, k, _, h1, h2, h3, _ => z5p.2 ⟨h1, h2, h3, rfl⟩
  | x :: l, nx, a, k, h, h1, h2, h3, hn => by
    obtain ⟨g1, g2, g3, g4⟩ := z5p.1 h
    have hx : x.1 ≠ k.1 := hn x List.mem_cons_self
    unfold zh7
    rw [List.takeWhile_cons]
    by_cases hlt : x.1 < k.1
    . rw [decide_eq_true hlt, if_pos rfl, List.length_cons, List.take_succ_cons, List.drop_succ_cons]
      exact z5p.2 ⟨g1, g2, g3, zyo g4 hlt h2 h3 (fun y hy => hn y (List.mem_cons_of_mem _ hy))⟩
    . rw [decide_eq_false hlt, if_neg (by decide)]
      exact z5p.2 ⟨h1, h2, h3, z5p.2 ⟨by omega, g2, g3, g4⟩⟩

def z138 (s : zmk) (i : Nat) (t : zdy) : zmk := (s.1.take i ++ t :: s.1.drop (i + 1), s.2)

def z7h (t : zdy) (kd nu : Int) (tx : List UInt8) : Int × List zmm :=
 if kd = 2 then
 if t.2.2.1 <= nu then (7, t.2.2.2.1)
 else if 0 <= zj5 (fun k => k.1 == nu) t.2.2.2.1 0 then (5, t.2.2.2.1)
 else if t.2.2.2.1.length = 8 then (3, t.2.2.2.1)
 else (0, t.2.2.2.1.take (zh7 t.2.2.2.1 nu) ++ [(nu, (tx, ()))] ++ t.2.2.2.1.drop (zh7 t.2.2.2.1 nu))
 else if zj5 (fun k => k.1 == nu) t.2.2.2.1 0 < 0 then (6, t.2.2.2.1)
 else (0, t.2.2.2.1.take (zj5 (fun k => k.1 == nu) t.2.2.2.1 0).toNat ++ t.2.2.2.1.drop ((zj5 (fun k => k.1 == nu) t.2.2.2.1 0).toNat + 1))

def z6e (s : zmk) (e : EvD) : Int × zmk :=
 if e.1 = 4 then (if e.2.2.1 < s.2.1 then (7, s) else (0, (s.1, (e.2.2.1, ()))))
 else if e.1 = 1 then
 if 0 <= zj5 (fun t => t.1 == e.2.1) s.1 0 then
 if e.2.2.2.1 < (s.1.getD (zj5 (fun t => t.1 == e.2.1) s.1 0).toNat z9w).2.1 \/ e.2.2.1 < (s.1.getD (zj5 (fun t => t.1 == e.2.1) s.1 0).toNat z9w).2.2.1 then (7, s)
 else (0, z138 s (zj5 (fun t => t.1 == e.2.1) s.1 0).toNat ((s.1.getD (zj5 (fun t => t.1 == e.2.1) s.1 0).toNat z9w).1, (e.2.2.2.1, (e.2.2.1, ((s.1.getD (zj5 (fun t => t.1 == e.2.1) s.1 0).toNat z9w).2.2.2.1, ())))))
 else if s.1.length = 16 then (3, s)
 else (0, (s.1.take (z9z s.1 e.2.1) ++ [(e.2.1, (e.2.2.2.1, (e.2.2.1, ([], ()))))] ++ s.1.drop (z9z s.1 e.2.1), s.2))
 else if zj5 (fun t => t.1 == e.2.1) s.1 0 < 0 then (6, s)
 else ((z7h (s.1.getD (zj5 (fun t => t.1 == e.2.1) s.1 0).toNat z9w) e.1 e.2.2.1 e.2.2.2.2.1).1,
 z138 s (zj5 (fun t => t.1 == e.2.1) s.1 0).toNat ((s.1.getD (zj5 (fun t => t.1 == e.2.1) s.1 0).toNat z9w).1, ((s.1.getD (zj5 (fun t => t.1 == e.2.1) s.1 0).toNat z9w).2.1, ((s.1.getD (zj5 (fun t => t.1 == e.2.1) s.1 0).toNat z9w).2.2.1,
 ((z7h (s.1.getD (zj5 (fun t => t.1 == e.2.1) s.1 0).toNat z9w) e.1 e.2.2.1 e.2.2.2.2.1).2, ())))))

def zkw (e : EvD) : Bool :=
 if e.1 = 1 then z8l e.2.1 && (za8 e.2.2.1 1 && (za8 e.2.2.2.1 0 && (e.2.2.2.2.1 == [])))
 else if e.1 = 2 then z8l e.2.1 && (za8 e.2.2.1 1 && ((e.2.2.2.1 == 0) && decide (e.2.2.2.2.1.length = 32)))
 else if e.1 = 3 then z8l e.2.1 && (za8 e.2.2.1 1 && ((e.2.2.2.1 == 0) && (e.2.2.2.2.1 == [])))
 else if e.1 = 4 then za8 e.2.2.1 0 && ((e.2.1 == []) && ((e.2.2.2.1 == 0) && (e.2.2.2.2.1 == [])))
 else false

def errS (c : Int) : zmk × (Int × Unit) := (([], (0, ())), (c, ()))

def zhf (s : zmk) (e : EvD) : zmk × (Int × Unit) :=
 if z89 s = false then errS 7 else if zkw e = false then errS 2
 else if (z6e s e).1 = 0 then ((z6e s e).2, (0, ())) else errS (z6e s e).1

theorem zvx {s : zmk} {e : EvD} (hr : z89 s = true) (hf : zkw e = true) (hc : (z6e s e).1 = 0) :
    z89 (z6e s e).2 = true /\ s.2.1 <= (z6e s e).2.2.1 /\ s.1.length <= (z6e s e).2.1.length ∧
    ∀ x ∈ s.1, ∃ y ∈ (z6e s e).2.1, y.1 = x.1 /\ x.2.1 <= y.2.1 /\ x.2.2.1 <= y.2.2.1 /\ (x.1 ≠ e.2.1 -> y = x) := by
  obtain ⟨r1, r2, r3⟩ := zcd.1 hr
  have hin := z13w.1 r2
  unfold z6e at hc ⊢
  by_cases k4 : e.1 = 4
  . rw [if_pos k4] at hc ⊢
    by_cases h : e.2.2.1 < s.2.1
    . rw [if_pos h] at hc; cases hc
    . rw [if_neg h]
      refine ⟨zcd.2 ⟨r1, ?_, r3⟩, by show s.2.1 <= e.2.2.1; omega, Nat.le_refl _, fun x hx => ⟨x, hx, rfl, by omega, by omega, fun _ => rfl⟩⟩
      unfold zkw at hf
      rw [k4] at hf
      simp only [Int.reduceEq, if_false, if_true, Bool.and_eq_true] at hf
      exact hf.1
  rw [if_neg k4] at hc ⊢
  have hset : ∀ (j : Nat) (hj : j < s.1.length) (t : zdy), s.1[j].1 = e.2.1 -> t.1 = s.1[j].1 -> s.1[j].2.1 <= t.2.1 -> s.1[j].2.2.1 <= t.2.2.1 -> zui t = true →
      z89 (z138 s j t) = true /\ s.2.1 <= (z138 s j t).2.1 /\ s.1.length <= (z138 s j t).1.length /\ ∀ x ∈ s.1, ∃ y ∈ (z138 s j t).1, y.1 = x.1 /\ x.2.1 <= y.2.1 /\ x.2.2.1 <= y.2.2.1 /\ (x.1 ≠ e.2.1 -> y = x) := by
    intro j hj t hn ht h1 h2 h3
    have hlen : (z138 s j t).1.length = s.1.length := by
      unfold z138; simp only [List.length_append, List.length_cons, List.length_take, List.length_drop]; omega
    refine ⟨zcd.2 ⟨by rw [hlen]; exact r1, r2, zxs j hj r3 ht h3⟩, Int.le_refl _, by rw [hlen]; exact Nat.le_refl _, fun x hx => ?_⟩
    obtain ⟨i, hi, rfl⟩ := List.getElem_of_mem hx
    rcases Nat.lt_trichotomy i j with h | h | h
    . refine ⟨s.1[i], List.mem_append.2 (.inl ?_), rfl, by omega, by omega, fun _ => rfl⟩
      rw [List.mem_take_iff_getElem]
      exact ⟨i, by omega, rfl⟩
    . subst h
      refine ⟨t, List.mem_append.2 (.inr List.mem_cons_self), ht, h1, h2, fun h => absurd hn h⟩
    . refine ⟨s.1[i], List.mem_append.2 (.inr (List.mem_cons_of_mem _ ?_)), rfl, by omega, by omega, fun _ => rfl⟩
      rw [List.mem_drop_iff_getElem]
      exact ⟨i - (j + 1), by omega, by congr 1; omega⟩
  have hget : ∀ (j : Nat) (hj : j < s.1.length), s.1.getD j z9w = s.1[j] := fun j hj => by simp [List.getD, List.getElem?_eq_getElem hj]
  by_cases k1 : e.1 = 1
  . have hf' : z8l e.2.1 = true /\ za8 e.2.2.1 1 = true /\ za8 e.2.2.2.1 0 = true := by
      unfold zkw at hf
      rw [if_pos k1] at hf
      simp only [Bool.and_eq_true] at hf
      exact ⟨hf.1, hf.2.1, hf.2.2.1⟩
    rw [if_pos k1] at hc ⊢
    rcases z5q (fun t : zdy => t.1 == e.2.1) s.1 0 with ⟨h1, h2⟩ | ⟨j, h1, hj, h3⟩
    . rw [h1, if_neg (by decide)] at hc ⊢
      by_cases h16 : s.1.length = 16
      . rw [if_pos h16] at hc; cases hc
      rw [if_neg h16]
      have hne : ∀ x ∈ s.1, x.1 ≠ e.2.1 := fun x hx e' => by have := h2 x hx; rw [e', beq_self_eq_true] at this; cases this
      refine ⟨zcd.2 ⟨?_, r2, zxt (t := (e.2.1, (e.2.2.2.1, (e.2.2.1, ([], ()))))) r3 rfl hne (z10p hf'.1 hf'.2.2 hf'.2.1 (by simp) rfl)⟩, Int.le_refl _, ?_, fun x hx => ⟨x, ?_, rfl, by omega, by omega, fun _ => rfl⟩⟩
      . simp only [List.length_append, List.length_cons, List.length_nil, List.length_take, List.length_drop]; omega
      . simp only [List.length_append, List.length_cons, List.length_nil, List.length_take, List.length_drop]; omega
      . dsimp only
        rw [List.append_assoc]
        have := List.take_append_drop (z9z s.1 e.2.1) s.1
        rw [<- this] at hx
        rcases List.mem_append.1 hx with hx | hx
        . exact List.mem_append.2 (.inl hx)
        . exact List.mem_append.2 (.inr (List.mem_append.2 (.inr hx)))
    . rw [Nat.zero_add] at h1
      rw [h1, if_pos (by omega), Int.toNat_natCast, hget j hj] at hc ⊢
      by_cases hlow : e.2.2.2.1 < s.1[j].2.1 \/ e.2.2.1 < s.1[j].2.2.1
      . rw [if_pos hlow] at hc; cases hc
      rw [if_neg hlow]
      have ht := zd7 (ze0 r3 _ (List.getElem_mem hj))
      exact hset j hj _ (beq_iff_eq.1 h3) rfl (by dsimp only; omega) (by dsimp only; omega) (z10p ht.1 hf'.2.2 hf'.2.1 ht.2.2.2.1 (zqj ht.2.2.2.2 (by omega) (by dsimp only; omega)))
  . rw [if_neg k1] at hc ⊢
    rcases z5q (fun t : zdy => t.1 == e.2.1) s.1 0 with ⟨h1, h2⟩ | ⟨j, h1, hj, h3⟩
    . rw [h1, if_pos (by decide)] at hc; cases hc
    rw [Nat.zero_add] at h1
    rw [h1, if_neg (by omega), Int.toNat_natCast, hget j hj] at hc ⊢
    dsimp only at hc ⊢
    have ht := zd7 (ze0 r3 _ (List.getElem_mem hj))
    refine hset j hj _ (beq_iff_eq.1 h3) rfl (by dsimp only; omega) (by dsimp only; omega) ?_
    generalize s.1[j] = t at hc ht
    have hk : (z7h t e.1 e.2.2.1 e.2.2.2.2.1).2.length <= 8 /\ z8e t.2.2.1 0 (z7h t e.1 e.2.2.1 e.2.2.2.2.1).2 = true := by
      unfold z7h at hc ⊢
      by_cases k2 : e.1 = 2
      . have hf' : za8 e.2.2.1 1 = true /\ e.2.2.2.2.1.length = 32 := by
          unfold zkw at hf
          rw [if_neg k1, if_pos k2] at hf
          simp only [Bool.and_eq_true, decide_eq_true_eq] at hf
          exact ⟨hf.2.1, hf.2.2.2⟩
        rw [if_pos k2] at hc ⊢
        by_cases c1 : t.2.2.1 <= e.2.2.1
        . rw [if_pos c1] at hc; cases hc
        rw [if_neg c1] at hc ⊢
        rcases z5q (fun k : zmm => k.1 == e.2.2.1) t.2.2.2.1 0 with ⟨g1, g2⟩ | ⟨i, g1, g2, g3⟩
        . rw [g1, if_neg (by decide)] at hc ⊢
          by_cases c2 : t.2.2.2.1.length = 8
          . rw [if_pos c2] at hc; cases hc
          rw [if_neg c2]
          have hl := z13w.1 hf'.1
          refine ⟨?_, zyo (k := (e.2.2.1, (e.2.2.2.2.1, ()))) ht.2.2.2.2 (by dsimp only; omega) (by dsimp only; omega) hf'.2 (fun x hx e' => by have := g2 x hx; rw [e', beq_self_eq_true] at this; cases this)⟩
          simp only [List.length_append, List.length_cons, List.length_nil, List.length_take, List.length_drop]; omega
        . rw [g1, if_pos (by omega)] at hc; cases hc
      . rw [if_neg k2] at hc ⊢
        rcases z5q (fun k : zmm => k.1 == e.2.2.1) t.2.2.2.1 0 with ⟨g1, g2⟩ | ⟨i, g1, g2, g3⟩
        . rw [g1, if_pos (by decide)] at hc; cases hc
        . rw [Nat.zero_add] at g1
          rw [g1, if_neg (by omega), Int.toNat_natCast]
          exact ⟨by simp only [List.length_append, List.length_take, List.length_drop]; omega, zve i ht.2.2.2.2⟩
    exact z10p ht.1 ht.2.1 ht.2.2.1 hk.1 hk.2

theorem z14b {s : zmk} {e : EvD} : ((zhf s e).2.1 = 0 /\ z89 s = true /\ zkw e = true /\ (z6e s e).1 = 0 /\ (zhf s e).1 = (z6e s e).2) \/ ((zhf s e).2.1 ≠ 0 /\ zhf s e = errS (zhf s e).2.1) := by
  unfold zhf
  cases hr : z89 s with
  | false => exact .inr ⟨show (7 : Int) ≠ 0 by decide, rfl⟩
  | true =>
    cases hf : zkw e with
    | false => exact .inr ⟨show (2 : Int) ≠ 0 by decide, rfl⟩
    | true =>
      rw [if_neg (show ¬ (true = false) by decide), if_neg (show ¬ (true = false) by decide)]
      by_cases hc : (z6e s e).1 = 0
      . rw [if_pos hc]; exact .inl ⟨rfl, rfl, rfl, hc, rfl⟩
      . rw [if_neg hc]; exact .inr ⟨hc, rfl⟩

theorem zxg (s : zmk) (e : EvD) : z89 (zhf s e).1 = true := by
  rcases z14b (s := s) (e := e) with ⟨_, hr, hf, hc, h⟩ | ⟨_, h⟩
  . rw [h]; exact (zvx hr hf hc).1
  . rw [h]; rfl

end
end Go.Proofs.YtobbmaplbpdniaaLg

set_option linter.all false
set_option maxRecDepth 100000
namespace Go.Proofs.YtobbmaplbpdniaaLg
noncomputable section
open Go Go.Lift Go.Proofs.YtobbmaplbpdniaaPx

theorem zm9 {α : Type} (p : α -> Bool) {s : List α} {i : Nat} (hi : i < s.length) : zj5 p (s.drop i) i = if p s[i] then (i : Int) else zj5 p (s.drop (i + 1)) (i + 1) := by
  rw [List.drop_eq_getElem_cons hi]
  rfl

theorem zwy (N : Nat) {s : List zmm} {f : Int × Unit} (hl : s.length <= 1000) (hN : s.length < N) : zm8 N s f = some (zj5 (fun k => k.1 == f.1) s 0) := by
  rw [zm8, zqo]
  refine (z4n (fun v => ∃ (i : Nat), v = (i : Int) /\ i <= s.length) (fun v => s.length - v.toNat) (fun v => some (zj5 (fun k => k.1 == f.1) (s.drop v.toNat) v.toNat)) ?_ N 0 ⟨0, rfl, Nat.zero_le _⟩ (by simpa using hN)).trans (by simp)
  rintro v r ⟨i, rfl, hi⟩ hr
  rw [zku]
  simp only [Int.toNat_natCast]
  rcases Nat.lt_or_ge i s.length with hlt | hge
  . rw [zl (z32 (by omega)), zl (z2m hlt), zm9 _ hlt, z2q (by omega), hr _ ⟨i + 1, rfl, by omega⟩ (by simp; omega), Int.toNat_natCast]
    have hg : s.getD i ((0 : Int), (([] : List UInt8), ())) = s[i] := by simp [List.getD, List.getElem?_eq_getElem hlt]
    rw [hg]
    cases s[i].1 == f.1 <;> rfl
  . rw [z19 (z4f (by omega)), List.drop_of_length_le hge]
    rfl

theorem z102 (N : Nat) {ks : List zmm} {num : Int} (hl : ks.length <= 1000) (hN : ks.length < N) : z7y N ks num = some (zj5 (fun k => k.1 == num) ks 0) := by
  rw [z7y, zwy N hl hN]
  rfl

theorem zrx (N : Nat) {s : List zdy} {f : List UInt8 × Unit} (hl : s.length <= 1000) (hN : s.length < N) : zc0 N s f = some (zj5 (fun k => k.1 == f.1) s 0) := by
  rw [zc0, zjk]
  refine (z4n (fun v => ∃ (i : Nat), v = (i : Int) /\ i <= s.length) (fun v => s.length - v.toNat) (fun v => some (zj5 (fun k => k.1 == f.1) (s.drop v.toNat) v.toNat)) ?_ N 0 ⟨0, rfl, Nat.zero_le _⟩ (by simpa using hN)).trans (by simp)
  rintro v r ⟨i, rfl, hi⟩ hr
  rw [zd4]
  simp only [Int.toNat_natCast]
  rcases Nat.lt_or_ge i s.length with hlt | hge
  . rw [zl (z32 (by omega)), zl (z2m hlt), zm9 _ hlt, z2q (by omega), hr _ ⟨i + 1, rfl, by omega⟩ (by simp; omega), Int.toNat_natCast]
    have hg : s.getD i (([] : List UInt8), ((0 : Int), ((0 : Int), (([] : List (Int × (List UInt8 × Unit))), ())))) = s[i] := by simp [List.getD, List.getElem?_eq_getElem hlt]
    rw [hg]
    cases s[i].1 == f.1 <;> rfl
  . rw [z19 (z4f (by omega)), List.drop_of_length_le hge]
    rfl

theorem z12d (N : Nat) {s : zmk} {nm : List UInt8} (hl : s.1.length <= 1000) (hN : s.1.length < N) : zam N s nm = some (zj5 (fun t => t.1 == nm) s.1 0) := by
  rw [zam, zrx N hl hN]
  rfl

theorem zvk (N : Nat) (hN : 40 < N) (e : EvD) : zal N e = some (zkw e) := by
  rw [zal, zg6, zkw, z10i N hN, Option.bind_some]
  by_cases k1 : e.1 = 1
  . rw [if_pos k1]
    simp only [k1, zc9, Option.bind_some, beq_self_eq_true, cond_true]
    cases z8l e.2.1 <;> cases za8 e.2.2.1 1 <;> cases za8 e.2.2.2.1 0 <;> rfl
  have b1 : (e.1 == (1 : Int)) = false := beq_eq_false_iff_ne.2 k1
  rw [if_neg k1]
  by_cases k2 : e.1 = 2
  . rw [if_pos k2]
    have hl : ((((List.length e.2.2.2.2.1) : Nat) : Int) == (32 : Int)) = decide (e.2.2.2.2.1.length = 32) := by
      by_cases h : e.2.2.2.2.1.length = 32
      . rw [decide_eq_true h, h]; rfl
      . rw [decide_eq_false h, beq_eq_false_iff_ne]; omega
    simp only [b1, k2, zc9, Option.bind_some, beq_self_eq_true, cond_true, cond_false, hl]
    cases z8l e.2.1 <;> cases za8 e.2.2.1 1 <;> cases (e.2.2.2.1 == (0 : Int)) <;> rfl
  have b2 : (e.1 == (2 : Int)) = false := beq_eq_false_iff_ne.2 k2
  rw [if_neg k2]
  by_cases k3 : e.1 = 3
  . rw [if_pos k3]
    simp only [b1, b2, k3, zc9, Option.bind_some, beq_self_eq_true, cond_true, cond_false]
    cases z8l e.2.1 <;> cases za8 e.2.2.1 1 <;> cases (e.2.2.2.1 == (0 : Int)) <;> rfl
  have b3 : (e.1 == (3 : Int)) = false := beq_eq_false_iff_ne.2 k3
  rw [if_neg k3]
  by_cases k4 : e.1 = 4
  . rw [if_pos k4]
    simp only [b1, b2, b3, k4, zc9, Option.bind_some, beq_self_eq_true, cond_true, cond_false]
    cases z8l e.2.1 <;> cases za8 e.2.2.1 1 <;> cases za8 e.2.2.1 0 <;> cases (e.2.1 == ([] : List UInt8)) <;> cases (e.2.2.2.1 == (0 : Int)) <;> rfl
  have b4 : (e.1 == (4 : Int)) = false := beq_eq_false_iff_ne.2 k4
  rw [if_neg k4]
  simp only [b1, b2, b3, b4, zc9, Option.bind_some, cond_false]
  cases z8l e.2.1 <;> cases za8 e.2.2.1 1 <;> rfl

theorem zxb (N : Nat) (hN : 40 < N) {s : zmk} (e : EvD) (hr : z89 s = true) : zqy N s e.1 e.2.1 e.2.2.1 e.2.2.2.1 e.2.2.2.2.1 = some (z6e s e) := by
  obtain ⟨r1, r2, r3⟩ := zcd.1 hr
  unfold zqy z6e
  by_cases k4 : e.1 = 4
  . rw [if_pos k4, if_pos k4]
    split <;> rfl
  rw [if_neg k4, if_neg k4, z12d N (by omega) (by omega), Option.bind_some]
  rcases z5q (fun t : zdy => t.1 == e.2.1) s.1 0 with ⟨h1, h2⟩ | ⟨j, h1, hj, h3⟩
  . rw [h1]
    by_cases k1 : e.1 = 1
    . rw [if_pos k1, if_pos k1, if_neg (show ¬ (0 : Int) <= -1 by decide), if_neg (show ¬ (0 : Int) <= -1 by decide)]
      split <;> rfl
    . rw [if_neg k1, if_neg k1, if_pos (show (-1 : Int) < 0 by decide), if_pos (show (-1 : Int) < 0 by decide)]
  . have hget : s.1.getD j z9w = s.1[j] := by simp [List.getD, List.getElem?_eq_getElem hj]
    rw [Nat.zero_add] at h1
    rw [h1, Int.toNat_natCast, hget, List.getElem?_eq_getElem hj]
    by_cases k1 : e.1 = 1
    . rw [if_pos k1, if_pos k1, if_pos (by omega), if_pos (by omega)]
      dsimp only
      split <;> rfl
    . rw [if_neg k1, if_neg k1, if_neg (by omega), if_neg (by omega)]
      dsimp only
      have ht := zd7 (ze0 r3 _ (List.getElem_mem hj))
      generalize s.1[j] = t at ht
      have hy : (if e.1 = 2 then zr6 N t e.2.2.1 e.2.2.2.2.1 else zmc N t e.2.2.1) = some (z7h t e.1 e.2.2.1 e.2.2.2.2.1) := by
        unfold z7h zr6 zmc
        rw [z102 N (by omega) (by omega), Option.bind_some, Option.bind_some]
        by_cases k2 : e.1 = 2
        . rw [if_pos k2, if_pos k2]
          by_cases c1 : t.2.2.1 <= e.2.2.1
          . rw [if_pos c1, if_pos c1]
          . rw [if_neg c1, if_neg c1]
            split
            . rfl
            . split <;> rfl
        . rw [if_neg k2, if_neg k2]
          rcases z5q (fun k : zmm => k.1 == e.2.2.1) t.2.2.2.1 0 with ⟨g1, g2⟩ | ⟨i, g1, g2, g3⟩
          . rw [g1, if_pos (show (-1 : Int) < 0 by decide), if_pos (show (-1 : Int) < 0 by decide)]
          . rw [Nat.zero_add] at g1
            rw [g1, Int.toNat_natCast, if_neg (show ¬ (i : Int) < 0 by omega), if_neg (show ¬ (i : Int) < 0 by omega), if_pos g2]
      rw [hy, Option.bind_some]
      rfl

theorem z10b (N : Nat) (hN : 40 < N) (s : zmk) (e : EvD) : za6 N s e = some (zhf s e) := by
  unfold za6 zhf
  rw [zy8 N hN, Option.bind_some]
  cases hr : z89 s with
  | false => rfl
  | true =>
    rw [if_neg (show ¬ (true = false) by decide), if_neg (show ¬ (true = false) by decide), zvk N hN, Option.bind_some]
    cases hf : zkw e with
    | false => rfl
    | true =>
      obtain ⟨r1, r2, r3⟩ := zcd.1 hr
      have hg : s.1.length <= 16 /\ (s.1.all fun t => decide (t.2.2.2.1.length < 256)) = true := by
        refine ⟨r1, List.all_eq_true.2 fun t ht => ?_⟩
        have := (zd7 (ze0 r3 t ht)).2.2.2.1
        exact decide_eq_true (by omega)
      rw [if_neg (show ¬ (true = false) by decide), if_neg (show ¬ (true = false) by decide), if_pos hg, zxb N hN e hr, Option.bind_some]
      split <;> rfl

end
end Go.Proofs.YtobbmaplbpdniaaLg

set_option linter.all false
set_option maxRecDepth 100000
namespace Go.Proofs.YtobbmaplbpdniaaLg
noncomputable section
open Go Go.Lift Go.Proofs.YtobbmaplbpdniaaPx

theorem zwj (N : Nat) {s : List zmm} {num : Int} (hl : s.length <= 1000) (hN : s.length < N) : z4i N s num = some (zj5 (fun k => k.1 == num) s 0) := by
  rw [z4i, zco]
  refine (z4n (fun v => ∃ (i : Nat), v = (i : Int) /\ i <= s.length) (fun v => s.length - v.toNat) (fun v => some (zj5 (fun k => k.1 == num) (s.drop v.toNat) v.toNat)) ?_ N 0 ⟨0, rfl, Nat.zero_le _⟩ (by simpa using hN)).trans (by simp)
  rintro v r ⟨i, rfl, hi⟩ hr
  rw [z6u]
  simp only [Int.toNat_natCast]
  rcases Nat.lt_or_ge i s.length with hlt | hge
  . rw [zl (z32 (by omega)), zl (z2m hlt), zm9 _ hlt, z2q (by omega), hr _ ⟨i + 1, rfl, by omega⟩ (by simp; omega), Int.toNat_natCast]
    have hg : s.getD i ((0 : Int), (([] : List UInt8), ())) = s[i] := by simp [List.getD, List.getElem?_eq_getElem hlt]
    rw [hg]
    cases s[i].1 == num <;> rfl
  . rw [z19 (z4f (by omega)), List.drop_of_length_le hge]
    rfl

theorem zv3 (N : Nat) {s : zmk} {nm : List UInt8} (hl : s.1.length <= 1000) (hN : s.1.length < N) : z44 N s nm = some (zj5 (fun t => t.1 == nm) s.1 0) := by
  rw [z44, zb6]
  refine (z4n (fun v => ∃ (i : Nat), v = (i : Int) /\ i <= s.1.length) (fun v => s.1.length - v.toNat) (fun v => some (zj5 (fun t => t.1 == nm) (s.1.drop v.toNat) v.toNat)) ?_ N 0 ⟨0, rfl, Nat.zero_le _⟩ (by simpa using hN)).trans (by simp)
  rintro v r ⟨i, rfl, hi⟩ hr
  rw [z66]
  simp only [Int.toNat_natCast]
  rcases Nat.lt_or_ge i s.1.length with hlt | hge
  . rw [zl (z32 (by omega)), zl (z2m hlt), zm9 _ hlt, z2q (by omega), hr _ ⟨i + 1, rfl, by omega⟩ (by simp; omega), Int.toNat_natCast]
    have hg : s.1.getD i (([] : List UInt8), ((0 : Int), ((0 : Int), (([] : List (Int × (List UInt8 × Unit))), ())))) = s.1[i] := by simp [List.getD, List.getElem?_eq_getElem hlt]
    rw [hg]
    cases s.1[i].1 == nm <;> rfl
  . rw [z19 (z4f (by omega)), List.drop_of_length_le hge]
    rfl

theorem zo0 (N : Nat) (hN : 101 < N) (e : EvD) : z34 N e = some (zkw e) := by
  rw [z34, z65, z64, zkw, zsd N (by omega)]
  have hl : ((((List.length e.2.2.2.2.1) : Nat) : Int) != (32 : Int)) = !decide (e.2.2.2.2.1.length = 32) := by
    by_cases h : e.2.2.2.2.1.length = 32
    . rw [decide_eq_true h, h]; rfl
    . rw [decide_eq_false h, Bool.not_false, bne_iff_ne]; omega
  simp only [zto, Option.bind_some, hl]
  by_cases k1 : e.1 = 1
  . rw [if_pos k1]
    simp only [k1, Int.reduceLT, decide_false, decide_true, cond_true, cond_false, Int.reduceBNe, Int.reduceBEq]
    cases z8l e.2.1 <;> cases za8 e.2.2.1 1 <;> cases za8 e.2.2.2.1 0 <;> cases (e.2.2.2.2.1 == ([] : List UInt8)) <;> rfl
  rw [if_neg k1]
  have h0 : za8 0 0 = true := by decide
  by_cases k2 : e.1 = 2
  . rw [if_pos k2]
    simp only [k2, Int.reduceLT, decide_false, decide_true, cond_true, cond_false, Int.reduceBNe, Int.reduceBEq]
    by_cases he : e.2.2.2.1 = 0
    . rw [he]
      simp only [Int.reduceBNe, h0, cond_false, Int.reduceBEq]
      cases z8l e.2.1 <;> cases za8 e.2.2.1 1 <;> cases decide (e.2.2.2.2.1.length = 32) <;> rfl
    . rw [zl (bne_iff_ne.2 he), beq_eq_false_iff_ne.2 he]
      cases z8l e.2.1 <;> cases za8 e.2.2.1 1 <;> rfl
  rw [if_neg k2]
  by_cases k3 : e.1 = 3
  . rw [if_pos k3]
    simp only [k3, Int.reduceLT, decide_false, decide_true, cond_true, cond_false, Int.reduceBNe, Int.reduceBEq]
    by_cases he : e.2.2.2.1 = 0
    . rw [he]
      simp only [Int.reduceBNe, h0, cond_false, Int.reduceBEq]
      cases z8l e.2.1 <;> cases za8 e.2.2.1 1 <;> cases (e.2.2.2.2.1 == ([] : List UInt8)) <;> rfl
    . rw [zl (bne_iff_ne.2 he), beq_eq_false_iff_ne.2 he]
      cases z8l e.2.1 <;> cases za8 e.2.2.1 1 <;> rfl
  rw [if_neg k3]
  by_cases k4 : e.1 = 4
  . rw [if_pos k4]
    simp only [k4, Int.reduceLT, decide_false, decide_true, cond_true, cond_false, Int.reduceBNe, Int.reduceBEq]
    by_cases he : e.2.2.2.1 = 0
    . rw [he]
      simp only [Int.reduceBNe, h0, cond_false, Int.reduceBEq]
      cases za8 e.2.2.1 0 <;> cases (e.2.1 == ([] : List UInt8)) <;> cases (e.2.2.2.2.1 == ([] : List UInt8)) <;> rfl
    . rw [zl (bne_iff_ne.2 he), beq_eq_false_iff_ne.2 he]
      cases za8 e.2.2.1 0 <;> cases (e.2.1 == ([] : List UInt8)) <;> rfl
  rw [if_neg k4]
  by_cases c1 : e.1 < 1
  . rw [zl (z32 c1)]; rfl
  . rw [z19 (z4f c1), zl (z32 (by omega))]; rfl

def zr7 (k : zmm) : List zmm -> Bool -> List zmm
  | [], done => if done = true then [] else [k]
  | x :: l, done => (if done = false /\ k.1 < x.1 then [k] else []) ++ x :: zr7 k l (done || decide (k.1 < x.1))

theorem zs5 (k : zmm) : ∀ l : List zmm, zr7 k l true = l
  | [] => rfl
  | x :: l => by rw [zr7, if_neg (by simp), Bool.true_or, zs5 k l]; rfl

theorem zuf (k : zmm) : ∀ l : List zmm, (∀ x ∈ l, x.1 ≠ k.1) -> zr7 k l false = l.take (zh7 l k.1) ++ [k] ++ l.drop (zh7 l k.1)
  | [], _ => rfl
  | x :: l, h => by
    have hx := h x List.mem_cons_self
    rw [zr7]
    unfold zh7
    rw [List.takeWhile_cons]
    by_cases hlt : x.1 < k.1
    . rw [decide_eq_true hlt, if_pos rfl, if_neg (by omega), List.length_cons, List.take_succ_cons, List.drop_succ_cons, decide_eq_false (by omega), Bool.or_false, zuf k l (fun y hy => h y (List.mem_cons_of_mem _ hy))]
      rfl
    . rw [decide_eq_false hlt, if_neg (show ¬ (false = true) by decide), if_pos ⟨rfl, by omega⟩, decide_eq_true (show k.1 < x.1 by omega), Bool.false_or, zs5]
      rfl

theorem z10j (N : Nat) {l : List zmm} {k : zmm} (hl : l.length <= 1000) (hN : l.length < N) : z43 N l k = some (zr7 k l false) := by
  rw [z43, zao]
  refine (z4n (fun v => ∃ (i : Nat), v.2.2 = (i : Int) /\ i <= l.length /\ v.1.length <= 2 * i) (fun v => l.length - v.2.2.toNat) (fun v => some (v.1 ++ zr7 k (l.drop v.2.2.toNat) v.2.1)) ?_ N ([], false, 0) ⟨0, rfl, Nat.zero_le _, Nat.zero_le _⟩ (by simpa using hN)).trans (by simp)
  rintro ⟨o, d, v⟩ r ⟨i, hv, hi, ho⟩ hr
  dsimp only at hv ho
  subst hv
  rw [z60, z63, z62, z61]
  simp only [Int.toNat_natCast]
  rcases Nat.lt_or_ge i l.length with hlt | hge
  . rw [show ((0 : Int), (([] : List UInt8), ())) = zyx from rfl, zl (z32 (by omega))]
    simp only [z2m hlt, cond_true, z2q (show i < 9223372036854775807 by omega)]
    rw [z4q l zyx i hlt, zr7]
    have hrec : ∀ o' d', o'.length <= 2 * (i + 1) -> r (o', d', ((i + 1 : Nat) : Int)) = some (o' ++ zr7 k (l.drop (i + 1)) d') := fun o' d' h => by
      rw [hr _ ⟨i + 1, rfl, by omega, h⟩ (by simp; omega)]
      simp only [Int.toNat_natCast]
    rw [zl (z32 (show (o.length + 1) * 24 <= 70368744177664 by omega)), zl (z32 (show (o.length + 1) * 24 <= 70368744177664 by omega))]
    rw [zl (z32 (show ((o ++ [k]).length + 1) * 24 <= 70368744177664 by rw [List.length_append, List.length_singleton]; omega))]
    have e1 := hrec (o ++ [l.getD i zyx]) 
    have e2 := hrec (o ++ [k] ++ [l.getD i zyx]) true (by simp; omega)
    cases d with
    | true =>
      simp only [Bool.not_true, cond_false, Bool.true_eq_false, false_and, if_false, Bool.true_or, List.nil_append]
      rw [e1 true (by simp; omega)]; simp
    | false =>
      simp only [Bool.not_false, cond_true, true_and, Bool.false_or]
      by_cases hk : k.1 < (l.getD i zyx).1
      . rw [decide_eq_true hk, cond_true, if_pos hk, e2]; simp
      . rw [decide_eq_false hk, cond_false, if_neg hk, e1 false (by simp; omega)]; simp
  . rw [z19 (z4f (by omega)), List.drop_of_length_le hge, zr7, zl (z32 (show (o.length + 1) * 24 <= 70368744177664 by omega))]
    cases d with
    | true => simp
    | false => simp

def zzi (t : zdy) : List zdy -> Bool -> List zdy
  | [], done => if done = true then [] else [t]
  | x :: l, done => (if done = false /\ 0 <= zcw x.1 t.1 then [t] else []) ++ ((if zcw x.1 t.1 = 0 then [] else [x]) ++ zzi t l (done || decide (0 <= zcw x.1 t.1)))

theorem zpz (t : zdy) : ∀ l : List zdy, (∀ x ∈ l, zcw x.1 t.1 ≠ 0) -> zzi t l true = l
  | [], _ => rfl
  | x :: l, h => by
    rw [zzi, if_neg (by simp), if_neg (h x List.mem_cons_self), Bool.true_or, zpz t l (fun y hy => h y (List.mem_cons_of_mem _ hy))]; rfl

theorem zyf (t : zdy) : ∀ l : List zdy, (∀ x ∈ l, x.1 ≠ t.1) -> zzi t l false = l.take (z9z l t.1) ++ [t] ++ l.drop (z9z l t.1)
  | [], _ => rfl
  | x :: l, h => by
    have hx : zcw x.1 t.1 ≠ 0 := fun e => h x List.mem_cons_self (zme _ _ e)
    rw [zzi, if_neg hx]
    unfold z9z
    rw [List.takeWhile_cons, zu6]
    by_cases hlt : zcw x.1 t.1 < 0
    . rw [decide_eq_true hlt, if_pos rfl, if_neg (by omega), List.length_cons, List.take_succ_cons, List.drop_succ_cons, decide_eq_false (by omega), Bool.or_false, zyf t l (fun y hy => h y (List.mem_cons_of_mem _ hy))]
      rfl
    . rw [decide_eq_false hlt, if_neg (show ¬ (false = true) by decide), if_pos ⟨rfl, by omega⟩, decide_eq_true (show 0 <= zcw x.1 t.1 by omega), Bool.false_or, zpz t l (fun y hy e => h y (List.mem_cons_of_mem _ hy) (zme _ _ e))]
      rfl

theorem z117 (t : zdy) : ∀ {l : List zdy} {p : Option (List UInt8)} (j : Nat) (hj : j < l.length), z7l p l = true -> l[j].1 = t.1 -> zzi t l false = l.take j ++ t :: l.drop (j + 1)
  | [], _, j, hj, _, _ => by cases hj
  | x :: l, p, 0, _, h, e => by
    obtain ⟨h1, h2, h3⟩ := z3f.1 h
    have e' : x.1 = t.1 := e
    have hz : zcw x.1 t.1 = 0 := by rw [e', zqx]
    rw [zzi, hz, if_pos ⟨rfl, by omega⟩, if_pos rfl, decide_eq_true (by omega), Bool.false_or, zpz t l (fun y hy e2 => by
      have := zmq h3 y hy
      rw [e', <- zme _ _ e2, zqx] at this
      omega)]
    rfl
  | x :: l, p, j + 1, hj, h, e => by
    obtain ⟨h1, h2, h3⟩ := z3f.1 h
    have hj' : j < l.length := by simpa using hj
    have hlt : zcw x.1 t.1 < 0 := by
      have := zmq h3 l[j] (List.getElem_mem hj')
      rwa [show l[j].1 = t.1 from e] at this
    rw [zzi, if_neg (by omega), if_neg (by omega), decide_eq_false (by omega), Bool.or_false, z117 t j (by simpa using hj) h3 e]
    rfl

theorem zye (N : Nat) {s : zmk} {t : zdy} (hl : s.1.length <= 1000) (hN : s.1.length < N) (h100 : 101 < N) (hs : ∀ x ∈ s.1, x.1.length <= 100) : z2j N s t = some (zzi t s.1 false, s.2) := by
  rw [z2j, zcf]
  refine (z4n (fun v => ∃ (i : Nat), v.2.2 = (i : Int) /\ i <= s.1.length /\ v.1.1.length <= 2 * i /\ v.1.2 = s.2) (fun v => s.1.length - v.2.2.toNat) (fun v => some (v.1.1 ++ zzi t (s.1.drop v.2.2.toNat) v.2.1, s.2)) ?_ N (([], (s.2.1, ())), false, 0) ⟨0, rfl, Nat.zero_le _, Nat.zero_le _, rfl⟩ (by simpa using hN)).trans (by simp)
  rintro ⟨⟨o, o2⟩, d, v⟩ r ⟨i, hv, hi, ho, ho2⟩ hr
  dsimp only at hv ho ho2
  subst hv ho2
  rw [z6q, z6t]
  simp only [z6s, z6r, Int.toNat_natCast]
  rcases Nat.lt_or_ge i s.1.length with hlt | hge
  . rw [show (([] : List UInt8), ((0 : Int), ((0 : Int), (([] : List (Int × (List UInt8 × Unit))), ())))) = z9w from rfl, zl (z32 (by omega))]
    have hm := hs _ (zu1 s.1 z9w i hlt)
    simp only [z2m hlt, cond_true, z2q (show i < 9223372036854775807 by omega)]
    rw [zyb N (by omega) (by omega), Option.bind_some, z4q s.1 z9w i hlt, zzi]
    have hrec : ∀ o' d', o'.length <= 2 * (i + 1) -> r ((o', s.2), d', ((i + 1 : Nat) : Int)) = some (o' ++ zzi t (s.1.drop (i + 1)) d', s.2) := fun o' d' h => by
      rw [hr _ ⟨i + 1, rfl, by omega, h, rfl⟩ (by simp; omega)]
      simp only [Int.toNat_natCast]
    have e1 : ∀ d', r ((o ++ [s.1.getD i z9w], s.2), d', ((i + 1 : Nat) : Int)) = _ := fun d' => hrec (o ++ [s.1.getD i z9w]) d' (by simp; omega)
    have e2 := hrec (o ++ [t] ++ [s.1.getD i z9w]) true (by simp; omega)
    have e3 : ∀ d', r ((o, s.2), d', ((i + 1 : Nat) : Int)) = _ := fun d' => hrec o d' (by omega)
    have e4 := hrec (o ++ [t]) true (by simp; omega)
    have g1 : decide ((o.length + 1) * 56 <= 70368744177664) = true := z32 (by omega)
    have g2 : decide (((o ++ [t]).length + 1) * 56 <= 70368744177664) = true := z32 (by rw [List.length_append, List.length_singleton]; omega)
    simp only [g1, g2, cond_true]
    generalize zcw (s.1.getD i z9w).1 t.1 = c
    by_cases hz : c = 0
    . subst hz
      cases d with
      | true =>
        simp only [Bool.not_true, cond_false, bne_self_eq_false, e3]
        simp
      | false =>
        simp only [Bool.not_false, cond_true, show decide ((0 : Int) <= 0) = true from rfl, bne_self_eq_false, cond_false, e4]
        simp
    . have hb : (c != (0 : Int)) = true := bne_iff_ne.2 hz
      simp only [hb, cond_true, if_neg hz]
      cases d with
      | true =>
        simp only [Bool.not_true, cond_false, e1]
        simp
      | false =>
        by_cases hk : 0 <= c
        . simp only [Bool.not_false, cond_true, decide_eq_true hk, e2, true_and, if_pos hk, Bool.or_true]; simp
        . simp only [Bool.not_false, cond_true, decide_eq_false hk, cond_false, e1, true_and, if_neg hk, Bool.or_false]; simp
  . rw [z19 (z4f (by omega)), List.drop_of_length_le hge, zzi, zl (z32 (show (o.length + 1) * 56 <= 70368744177664 by omega))]
    cases d with
    | true => simp
    | false => simp

theorem ztp (N : Nat) (hN : 101 < N) {s : zmk} (hs : ∀ x ∈ s.1, x.1.length <= 100) (e : EvD) : z3h N s e = some (zhf s e) := by
  unfold z3h zhf
  rw [zlp N hN hs, Option.bind_some]
  cases hr : z89 s with
  | false => rfl
  | true =>
    rw [Bool.not_true, cond_false, if_neg (show ¬ (true = false) by decide), zo0 N hN, Option.bind_some]
    cases hf : zkw e with
    | false => rfl
    | true =>
      obtain ⟨r1, r2, r3⟩ := zcd.1 hr
      rw [Bool.not_true, cond_false, if_neg (show ¬ (true = false) by decide), z6e]
      by_cases k4 : e.1 = 4
      . rw [if_pos k4, k4, zl (by decide)]
        by_cases h : e.2.2.1 < s.2.1
        . rw [if_pos h, zl (z32 h)]; rfl
        . rw [if_neg h, z19 (z4f h)]; rfl
      rw [if_neg k4, z19 (beq_eq_false_iff_ne.2 k4), zv3 N (by omega) (by omega), Option.bind_some, z5k]
      rcases z5q (fun t : zdy => t.1 == e.2.1) s.1 0 with ⟨h1, h2⟩ | ⟨j, h1, hj, h3⟩
      . have hne : ∀ x ∈ s.1, x.1 ≠ e.2.1 := fun x hx e' => by have := h2 x hx; rw [e', beq_self_eq_true] at this; cases this
        rw [h1, z19 (by decide)]
        by_cases k1 : e.1 = 1
        . have hf' : za8 e.2.2.1 1 = true /\ za8 e.2.2.2.1 0 = true := by
            unfold zkw at hf
            rw [if_pos k1] at hf
            simp only [Bool.and_eq_true] at hf
            exact ⟨hf.2.1, hf.2.2.1⟩
          have i1 := z13w.1 hf'.1
          have i2 := z13w.1 hf'.2
          rw [if_pos k1, if_neg (show ¬ (0 : Int) <= -1 by decide), k1, zl (by decide), z3e, z3d, zl (by decide)]
          by_cases h16 : s.1.length = 16
          . rw [if_pos h16, h16]; rfl
          . rw [if_neg h16, z19 (beq_eq_false_iff_ne.2 (by omega)), z3c, z3b, z19 (z4f (by dsimp only; omega)), z19 (z4f (by dsimp only; omega)), zye N (by omega) (by omega) hN hs, Option.bind_some, zyf _ _ hne]
            rfl
        . rw [if_neg k1, if_pos (show (-1 : Int) < 0 by decide), z19 (beq_eq_false_iff_ne.2 k1), zl (by decide)]
          rfl
      . have hget : s.1.getD j z9w = s.1[j] := by simp [List.getD, List.getElem?_eq_getElem hj]
        rw [Nat.zero_add] at h1
        rw [h1, Int.toNat_natCast, zl (z32 (by omega)), zl (z2m hj), show (([] : List UInt8), ((0 : Int), ((0 : Int), (([] : List (Int × (List UInt8 × Unit))), ())))) = z9w from rfl, hget]
        have hput : ∀ r, z2j N s (s.1[j].1, r) = some (z138 s j (s.1[j].1, r)) := fun r => by
          rw [zye N (by omega) (by omega) hN hs, z117 (s.1[j].1, r) j hj r3 rfl]; rfl
        by_cases k1 : e.1 = 1
        . rw [if_pos k1, if_pos (show (0 : Int) <= (j : Int) by omega), k1, zl (by decide), z3e, z3d, z19 (z4f (by omega)), cond_false, z3c, z3b]
          by_cases c1 : e.2.2.2.1 < s.1[j].2.1
          . rw [zl (z32 c1), if_pos (show (e.2.2.2.1 < s.1[j].2.1 \/ e.2.2.1 < s.1[j].2.2.1) from .inl c1)]; rfl
          . rw [z19 (z4f c1)]
            by_cases c2 : e.2.2.1 < s.1[j].2.2.1
            . rw [decide_eq_true c2, if_pos (show (e.2.2.2.1 < s.1[j].2.1 \/ e.2.2.1 < s.1[j].2.2.1) from .inr c2)]; rfl
            . rw [decide_eq_false c2, if_neg (show ¬ (e.2.2.2.1 < s.1[j].2.1 \/ e.2.2.1 < s.1[j].2.2.1) by omega), cond_false, hput, Option.bind_some]
              rfl
        . have ht := zd7 (ze0 r3 _ (List.getElem_mem hj))
          rw [if_neg k1, if_neg (show ¬ (j : Int) < 0 by omega), z19 (beq_eq_false_iff_ne.2 k1), z19 (z4f (by omega))]
          generalize s.1[j] = t at ht hput
          rw [zwj N (by omega) (by omega), Option.bind_some]
          by_cases k3 : e.1 = 3
          . unfold z7h
            rw [k3, zl (by decide), if_neg (show ¬ (3 : Int) = 2 by decide)]
            rcases z5q (fun k : zmm => k.1 == e.2.2.1) t.2.2.2.1 0 with ⟨g1, g2⟩ | ⟨i, g1, g2, g3⟩
            . rw [g1, zl (by decide), if_pos (show (-1 : Int) < 0 by decide)]; rfl
            . rw [Nat.zero_add] at g1
              have hw : IntKind.wrap .i64 ((i : Int) + 1) = ((i + 1 : Nat) : Int) := z2q (by omega)
              rw [g1, if_neg (show ¬ (i : Int) < 0 by omega), z19 (z4f (by omega)), zl (z32 (by omega)), hw]
              simp only [Int.toNat_natCast, z141, z15q, List.nil_append]
              rw [zl (z32 (by rw [List.length_take]; omega)), zl (z32 (by omega)), zl (z32 (by rw [List.length_take, List.length_drop]; omega)), hput, Option.bind_some]
              rfl
          . have k2 : e.1 = 2 := by
              unfold zkw at hf
              by_cases k2 : e.1 = 2
              . exact k2
              . rw [if_neg k1, if_neg k2, if_neg k3, if_neg k4] at hf; cases hf
            unfold z7h
            rw [k2, z19 (by decide), if_pos rfl]
            by_cases c1 : t.2.2.1 <= e.2.2.1
            . rw [if_pos c1, zl (z32 c1)]; rfl
            . rw [if_neg c1, z19 (z4f c1)]
              rcases z5q (fun k : zmm => k.1 == e.2.2.1) t.2.2.2.1 0 with ⟨g1, g2⟩ | ⟨i, g1, g2, g3⟩
              . rw [g1, if_neg (show ¬ (0 : Int) <= -1 by decide), z19 (by decide)]
                by_cases c2 : t.2.2.2.1.length = 8
                . rw [if_pos c2, c2]; rfl
                . have hne : ∀ x ∈ t.2.2.2.1, x.1 ≠ e.2.2.1 := fun x hx e' => by have := g2 x hx; rw [e', beq_self_eq_true] at this; cases this
                  rw [if_neg c2, z19 (beq_eq_false_iff_ne.2 (by omega)), z10j N (by omega) (by omega), Option.bind_some, hput, Option.bind_some, zuf _ _ hne]
                  rfl
              . rw [Nat.zero_add] at g1
                rw [g1, if_pos (show (0 : Int) <= (i : Int) by omega), zl (z32 (by omega))]; rfl

end
end Go.Proofs.YtobbmaplbpdniaaLg

set_option linter.all false
set_option maxRecDepth 100000
namespace Go.Proofs.YtobbmaplbpdniaaLg
noncomputable section
open Go Go.Lift Go.Proofs.YtobbmaplbpdniaaPx

theorem zmn (k : Nat) : z3i (k + 300) = some true := by kernel_rfl

def z15u (t : zdy) : Bool := decide (12 < t.2.2.2.1.length) || decide (100 < t.1.length)

theorem z13x (N : Nat) (hN : 40 < N) (s : zmk) : z3g N s = some (decide (20 < s.1.length) || s.1.any z15u) := by
  rw [z3g]
  by_cases h : 20 < s.1.length
  . rw [zl (z32 (by omega)), decide_eq_true h]; rfl
  rw [z19 (z4f (by omega)), decide_eq_false h, Bool.false_or, z9e]
  refine (z4n (fun v => ∃ (i : Nat), v = (i : Int) /\ i <= s.1.length) (fun v => s.1.length - v.toNat) (fun v => some ((s.1.drop v.toNat).any z15u)) ?_ N 0 ⟨0, rfl, Nat.zero_le _⟩ (by simp; omega)).trans (by simp)
  rintro v r ⟨i, rfl, hi⟩ hr
  rw [z5g]
  simp only [Int.toNat_natCast]
  rcases Nat.lt_or_ge i s.1.length with hlt | hge
  . rw [zl (z32 (by omega)), z5i, z5h, show (([] : List UInt8), ((0 : Int), ((0 : Int), (([] : List (Int × (List UInt8 × Unit))), ())))) = z9w from rfl]
    simp only [z2m hlt, cond_true, z2q (show i < 9223372036854775807 by omega), Int.toNat_natCast]
    rw [show r ((i + 1 : Nat) : Int) = some ((s.1.drop (i + 1)).any z15u) from (hr _ ⟨i + 1, rfl, by omega⟩ (by simp; omega)).trans rfl, z4q s.1 z9w i hlt, List.any_cons, z15u]
    by_cases c1 : 12 < (s.1.getD i z9w).2.2.2.1.length
    . rw [zl (z32 (by omega)), decide_eq_true c1]; rfl
    . rw [z19 (z4f (by omega)), decide_eq_false c1]
      by_cases c2 : 100 < (s.1.getD i z9w).1.length
      . rw [zl (z32 (by omega)), decide_eq_true c2]; rfl
      . rw [z19 (z4f (by omega)), decide_eq_false c2]; rfl
  . rw [z19 (z4f (by omega)), List.drop_of_length_le hge]
    rfl

theorem zx1 {s : zmk} (h : (decide (20 < s.1.length) || s.1.any z15u) = false) : ∀ x ∈ s.1, x.1.length <= 100 := by
  rw [Bool.or_eq_false_iff, List.any_eq_false] at h
  intro x hx
  have := h.2 x hx
  unfold z15u at this
  simp only [Bool.or_eq_true, decide_eq_true_eq, not_or] at this
  omega

theorem z10y (N : Nat) {s : zmk} (hl : s.1.length < N) (hb : s.1.length <= 1000) (hk : ∀ x ∈ s.1, x.2.2.2.1.length < N /\ x.2.2.2.1.length <= 1000) : z29 N s s = some true := by
  rw [z29, z3z, z3y]
  simp only [bne_self_eq_false, cond_false]
  rw [z6y]
  refine (z4n (fun v => ∃ (i : Nat), v = (i : Int) /\ i <= s.1.length) (fun v => s.1.length - v.toNat) (fun v => some true) ?_ N 0 ⟨0, rfl, Nat.zero_le _⟩ (by simpa using hl))
  rintro v r ⟨i, rfl, hi⟩ hr
  rw [z3u]
  rcases Nat.lt_or_ge i s.1.length with hlt | hge
  . rw [zl (z32 (by omega)), z3x]
    rw [show (([] : List UInt8), ((0 : Int), ((0 : Int), (([] : List (Int × (List UInt8 × Unit))), ())))) = z9w from rfl]
    simp only [z2m hlt, cond_true, z2q (show i < 9223372036854775807 by omega), Int.toNat_natCast]
    have hm := hk _ (zu1 s.1 z9w i hlt)
    generalize s.1.getD i z9w = t at hm
    rw [z3w, z3v]
    simp only [bne_self_eq_false, beq_self_eq_true, Bool.not_true, cond_false]
    rw [z6x]
    refine (z4n (fun v => ∃ (k : Nat), v = (k : Int) /\ k <= t.2.2.2.1.length) (fun v => t.2.2.2.1.length - v.toNat) (fun v => some true) ?_ N 0 ⟨0, rfl, Nat.zero_le _⟩ (by simpa using hm.1))
    rintro v r' ⟨k, rfl, hk'⟩ hr'
    rw [z3t]
    rcases Nat.lt_or_ge k t.2.2.2.1.length with hlt' | hge'
    . rw [zl (z32 (by omega))]
      simp only [z2m hlt', cond_true, z2q (show k < 9223372036854775807 by omega), Int.toNat_natCast]
      refine (z19 (congrArg not (z140 (t := T.pair (T.int IntKind.i64) (T.pair T.str T.unit)) rfl (t.2.2.2.1.getD k ((0 : Int), (([] : List UInt8), ()))))) _ _).trans ?_
      exact hr' _ ⟨k + 1, rfl, by omega⟩ (by simp; omega)
    . rw [z19 (z4f (by omega))]
      exact hr _ ⟨i + 1, rfl, by omega⟩ (by simp; omega)
  . rw [z19 (z4f (by omega))]

theorem zz8 (N : Nat) (hN : 40 < N) {s : zmk} (h : z89 s = true) : z29 N s s = some true := by
  obtain ⟨h1, h2, h3⟩ := zcd.1 h
  refine z10y N (by omega) (by omega) fun x hx => ?_
  have := (zd7 (ze0 h3 x hx)).2.2.2.1
  omega

theorem zxh (k : Nat) (s : zmk) (e : EvD) : z1r (k + 300) s e = some true := by
  rw [z1r, z31, z30, z13x _ (by omega), Option.bind_some]
  cases hg : (decide (20 < s.1.length) || s.1.any z15u) with
  | true => rw [cond_true, cond_true, zmn, Option.bind_some]
  | false =>
    have hs := zx1 hg
    rw [cond_false]
    by_cases he : 100 < e.2.1.length
    . rw [zl (z32 (by omega)), zmn, Option.bind_some]
    . rw [z19 (z4f (by omega)), z10b _ (by omega), Option.bind_some, ztp _ (by omega) hs, Option.bind_some, zy8 _ (by omega), Option.bind_some, zlp _ (by omega) hs, Option.bind_some, zvk _ (by omega), Option.bind_some, zo0 _ (by omega), Option.bind_some,
        zz8 _ (by omega) (zxg s e), Option.bind_some, zmn, Option.bind_some]
      simp only [beq_self_eq_true, cond_true]

end
end Go.Proofs.YtobbmaplbpdniaaLg
