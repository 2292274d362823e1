import Derived.Test.YtlohplpnhopldaaLgPrPd5
import Derived.Laws.ResultCell
import Derived.WalkKit
import Derived.Tactics
import Derived.Tactics2
import Derived.Defers
import Derived.Lib.Hide
import Derived.Below
import Derived.WalkSmall
import Derived.LoopN
import Derived.Deep.RegionHeld3
import Derived.Deep.Cut
import Derived.KernelRfl
import Derived.Laws.Rows
import Derived.Test.YtlohplpnhopldaaLgPrPd2
import Derived.Test.YtlohplpnhopldaaChecked
import Derived.Test.YtlohplpnhopldaaLgPrPd1
import Derived.Test.YtlohplpnhopldaaLgPrPd3
set_option linter.all false
set_option maxRecDepth 100000
namespace Go.Proofs.YtlohplpnhopldaaLg
noncomputable section
open Go Go.Lift Go.Proofs

abbrev EvT : T := .pair (.int .i64) (.pair .str (.pair (.int .i64) (.pair (.int .i64) (.pair .str .unit))))

theorem zyy {S : Hp} {e : EvT.den} {v : Value} (h : VR S EvT e v) : v = evV e.1 e.2.1 e.2.2.1 e.2.2.2.1 e.2.2.2.2.1 := by
  obtain ⟨cs, rfl, d1, d2, q1, k1, d3, d4, q2, k2, d5, d6, q3, k3, d7, d8, q4, k4, d9, d10, q5, k5, k6⟩ := h
  have i1 : d1 = [.int .i64 e.1] := k1
  have i2 : d3 = [.string ⟨⟨e.2.1⟩⟩] := k2
  have i3 : d5 = [.int .i64 e.2.2.1] := k3
  have i4 : d7 = [.int .i64 e.2.2.2.1] := k4
  have i5 : d9 = [.string ⟨⟨e.2.2.2.2.1⟩⟩] := k5
  have i6 : d10 = [] := k6
  unfold evV
  congr 1
  apply Array.toList_inj.1
  rw [q1, q2, q3, q4, q5, i1, i2, i3, i4, i5, i6]
  rfl

theorem zvs (N : Nat) {W : World} {S : Hp} (hS : Lift.Sub S (hp W)) {s : StT.den} {v : Value} {y : Bool} (hv : VR S StT s v) (hy : z3h N s = some y) :
    Calls Go.Proofs.Try.prog 13 #[v] W fun r w' => r = .returned (.bool y) /\ W.grownBy w' none := by
  refine ((z55 N).2 W S _ _ _ (z2a [(.v StT s, v)] (fun p hp => by rw [List.mem_singleton.1 hp]; exact ⟨⟨hv, rfl⟩, rfl⟩)) hS (z6b S) _ hy).mono ?_
  intro e w' he
  obtain ⟨v, o, S', rfl, hr, hc⟩ := zhk he
  exact ⟨by rw [VR.bool_inv hr.1], hc⟩

theorem zyo (N : Nat) {W : World} {S : Hp} (hS : Lift.Sub S (hp W)) {e : EvT.den} {v : Value} {y : Bool} (hv : VR S EvT e v) (hy : z9p N e = some y) :
    Calls Go.Proofs.Try.prog 49 #[v] W fun r w' => r = .returned (.bool y) /\ W.grownBy w' none := by
  refine ((zrd N).2 W S _ _ _ (z2a [(.v EvT e, v)] (fun p hp => by rw [List.mem_singleton.1 hp]; exact ⟨⟨hv, rfl⟩, rfl⟩)) hS (z6b S) _ hy).mono ?_
  intro e w' he
  obtain ⟨v, o, S', rfl, hr, hc⟩ := zhk he
  exact ⟨by rw [VR.bool_inv hr.1], hc⟩

def z9q (N : Nat) (s : StT.den) (e : EvT.den) : Option (StT.den × (Int × Unit)) :=
 (z3h N s).bind fun r =>
 if r = false then some (([], (0, ())), (7, ()))
 else (z9p N e).bind fun f =>
 if f = false then some (([], (0, ())), (2, ()))
 else if s.1.length <= 16 /\ (s.1.all fun t => decide (t.2.2.2.1.length < 256)) = true then
 (zn5 N s e.1 e.2.1 e.2.2.1 e.2.2.2.1 e.2.2.2.2.1).bind fun y => if y.1 = 0 then some (y.2, (0, ())) else some (([], (0, ())), (y.1, ()))
 else none

def zex (N : Nat) : List A -> Res := z1z [(0, .v StT), (0, .v EvT)] (fun x => z9q N x.1 x.2.1) (z51 (.tup [StT, (.int .i64)]) 2)

theorem zxt {w w' : World} {S : Hp} {vals : List Value} {ob : Nat -> List Nat} {z : z2g [(0, .v StT), (0, .v EvT)]} {x : StT.den} {e : Int} {v : Value} (hS : Lift.Sub S (hp w)) (hob : ∀ i, ob i = []) (hwf : WF w (fun j => w.heap.size <= j) w')
    (hv : VR (fun k => if w.heap.size <= k then hp w' k else S k) StT x v) :
    Lift.Ends w S (mkS [(0, .v StT), (0, .v EvT)] 0 z) vals ob (z51 (.tup [StT, (.int .i64)]) 2 (x, (e, ()))).1 (z51 (.tup [StT, (.int .i64)]) 2 (x, (e, ()))).2 (.returned (.tuple #[v, .int .i64 e])) w' := by
  have hsome : ∀ k o, S k = some o -> k < w.heap.size := fun k o hk => (Array.getElem?_eq_some_iff.1 (show w.heap[k]? = some o from hS k o hk)).1
  have hSw : Lift.Sub S (hp w') := fun k o hk => by
    have h := hwf.same k (hsome k o hk) (by have := hsome k o hk; omega)
    simp only [hp]
    rw [h]
    exact hS k o hk
  refine ⟨_, fun k => if w.heap.size <= k then hp w' k else S k, [], ob, rfl, ⟨hwf.size, fun k hk _ => hwf.same k hk (by omega), hwf.tape, hwf.os, hwf.output⟩, fun k o hk => ?_, fun k o hk => ?_, fun k hk => ?_, ⟨⟨rfl, _, rfl, .cons hv (.cons VR.int .nil)⟩, rfl⟩, (fun k hk => by cases hk), .nil, ?_, ?_, ?_, ?_, fun i hi => hi⟩
  . dsimp only
    rw [if_neg (by have := hsome k o hk; omega)]
    exact hk
  . dsimp only at hk
    split at hk
    . exact hk
    . exact hSw k o hk
  . dsimp only at hk
    split at hk
    . exact .inr (.inr (by assumption))
    . exact .inl hk
  . intro i z hz hbx
    match i with
    | 0 => simp [mkS, z6c, AS.mk] at hz; subst hz; cases hbx
    | 1 => simp [mkS, z6c, AS.mk] at hz; subst hz; cases hbx
    | i + 2 => simp [mkS, z6c] at hz
  . intro i k hk
    rw [hob i] at hk; cases hk
  . intro i j k hi
    rw [hob i] at hi; cases hi
  . intro i
    rw [hob i]; exact .nil

theorem zsp (S : Hp) : VR S StT ([], (0, ())) (.agg #[.slice none 0 0, .int .i64 0]) := zl1 (VR.of_one rfl ⟨none, 0, rfl, Nat.le_refl _, .inl rfl⟩)

theorem zj3 {w W : World} {B : Nat -> Prop} {q : Nat} (h : WF w B W) (hq : B q) (i : Nat) (v : Value) : WF w B (W.setCell ⟨q, i, none⟩ v) := by
  have g := z1y (w := W) (g := q) (i := i) v
  exact ⟨Nat.le_trans h.size g.size, fun k hk hn => (g.block k (Nat.lt_of_lt_of_le hk h.size) (fun e => hn (by cases e; exact hq))).trans (h.same k hk hn), g.tape.trans h.tape, g.os.trans h.os, g.output.trans h.output⟩

theorem zho {W : World} {qr : Nat} {v : Value} {ser c : Int} {tmps : Array Value} (h4 : tmps.getD 4 undef = .pointer (some ⟨qr, 0, none⟩)) (h5 : tmps.getD 5 undef = .int .i64 c) (h : RowAt W qr [v, .int .i64 ser] 24) :
    (results Go.Proofs.Try.f33 tmps).run Go.Proofs.Try.prog W = .ok (.tuple #[.agg #[v, .int .i64 ser], .int .i64 c]) W := by
  have c0 := h.cell (i := 0) rfl
  have c1 := h.cell (i := 1) rfl
  rw [results_cell_tmp rfl, h4, h5]
  simp [asAddr, Go.loadVar, go_sem, c0, c1]

set_option maxHeartbeats 30000000 in
theorem zq3 (N : Nat) : Contract Go.Proofs.Try.prog zm 33 (zex N) := by
  refine Contract.hand ⟨_, Go.Proofs.Try.func33, by kernel_rfl, by decide⟩ ?_
  intro w S vals ob x y har hS hg hy
  obtain ⟨s, e, u⟩ := x
  cases u
  dsimp only at hy
  obtain ⟨⟨v0, hv0, hA0, ho0⟩, _⟩ := har.rel 0 _ rfl
  obtain ⟨⟨v1, hv1, hA1, ho1⟩, _⟩ := har.rel 1 _ rfl
  have hvals : vals = [v0, v1] := by
    match vals, har.len, hv0, hv1 with
    | [a, b], _, h1, h2 => simp at h1 h2; rw [h1, h2]
  subst hvals
  have hob : ∀ i, ob i = [] := by
    intro i
    match i with
    | 0 => exact ho0
    | 1 => exact ho1
    | i + 2 => exact har.out _ (by simp [mkS, z6c])
  suffices HX : ∀ R : Ending -> World -> Prop, Go.RowKit.Hid (∀ (st : StT.den) (c : Int) (v : Value) (w' : World), y = (st, (c, ())) -> WF w (fun j => w.heap.size <= j) w' -> VR (fun k => if w.heap.size <= k then hp w' k else S k) StT st v -> R (.returned (.tuple #[v, .int .i64 c])) w') -> Calls Go.Proofs.Try.prog 33 #[v0, v1] w R from
    HX _ (Go.Lib.hid (fun st c v w' h1 h2 h3 => by rw [h1]; exact zxt hS hob h2 h3))
  intro R HR
  unfold z9q at hy
  obtain ⟨r, hr, hy⟩ := Option.bind_eq_some_iff.1 hy
  have he := zyy hA1
  obtain ⟨ts, ser, u⟩ := s
  cases u
  obtain ⟨sv, rfl, hsv⟩ := zfi hA0
  have hev := hA1
  subst he
  unfold evV at hev ⊢
  have hcr := fun W (h : Lift.Sub S (hp W)) => zvs N (W := W) h hA0 hr
  have HC := Go.Lib.hid hcr
  clear har hv0 hv1 hcr
  go_enter Go.Proofs.Try.func33, Go.Proofs.Try.ntmps33
  go_upto_region 1 with (fail)
  have ha0 : RowAt (((w.alloc (Obj.cells #[sv, .int .i64 ser] 24)).alloc (Obj.cells #[.int .i64 e.1, .string ⟨⟨e.2.1⟩⟩, .int .i64 e.2.2.1, .int .i64 e.2.2.2.1, .string ⟨⟨e.2.2.2.2.1⟩⟩] 51)).alloc (Obj.cells #[.slice none 0 0, .int .i64 0] 24)) w.heap.size [sv, .int .i64 ser] 24 := ((RowAt.new w [sv, .int .i64 ser] 24).alloc _).alloc _
  have ha1 : RowAt (((w.alloc (Obj.cells #[sv, .int .i64 ser] 24)).alloc (Obj.cells #[.int .i64 e.1, .string ⟨⟨e.2.1⟩⟩, .int .i64 e.2.2.1, .int .i64 e.2.2.2.1, .string ⟨⟨e.2.2.2.2.1⟩⟩] 51)).alloc (Obj.cells #[.slice none 0 0, .int .i64 0] 24)) (w.heap.size + 1) [.int .i64 e.1, .string ⟨⟨e.2.1⟩⟩, .int .i64 e.2.2.1, .int .i64 e.2.2.2.1, .string ⟨⟨e.2.2.2.2.1⟩⟩] 51 := by
    have h := (RowAt.new (w.alloc (Obj.cells #[sv, .int .i64 ser] 24)) [.int .i64 e.1, .string ⟨⟨e.2.1⟩⟩, .int .i64 e.2.2.1, .int .i64 e.2.2.2.1, .string ⟨⟨e.2.2.2.2.1⟩⟩] 51).alloc (Obj.cells #[.slice none 0 0, .int .i64 0] 24)
    simpa using h
  have ha2 : RowAt (((w.alloc (Obj.cells #[sv, .int .i64 ser] 24)).alloc (Obj.cells #[.int .i64 e.1, .string ⟨⟨e.2.1⟩⟩, .int .i64 e.2.2.1, .int .i64 e.2.2.2.1, .string ⟨⟨e.2.2.2.2.1⟩⟩] 51)).alloc (Obj.cells #[.slice none 0 0, .int .i64 0] 24)) (w.heap.size + 1 + 1) [.slice none 0 0, .int .i64 0] 24 := by
    have h := RowAt.new ((w.alloc (Obj.cells #[sv, .int .i64 ser] 24)).alloc (Obj.cells #[.int .i64 e.1, .string ⟨⟨e.2.1⟩⟩, .int .i64 e.2.2.1, .int .i64 e.2.2.2.1, .string ⟨⟨e.2.2.2.2.1⟩⟩] 51)) [.slice none 0 0, .int .i64 0] 24
    simpa using h
  have hag : w.grownBy (((w.alloc (Obj.cells #[sv, .int .i64 ser] 24)).alloc (Obj.cells #[.int .i64 e.1, .string ⟨⟨e.2.1⟩⟩, .int .i64 e.2.2.1, .int .i64 e.2.2.2.1, .string ⟨⟨e.2.2.2.2.1⟩⟩] 51)).alloc (Obj.cells #[.slice none 0 0, .int .i64 0] 24)) none := ((World.grownBy_alloc w _ none).trans38 (World.grownBy_alloc _ _ none)).trans38 (World.grownBy_alloc _ _ none)
  obtain ⟨A3, hA3⟩ : ∃ A3, A3 = (((w.alloc (Obj.cells #[sv, .int .i64 ser] 24)).alloc (Obj.cells #[.int .i64 e.1, .string ⟨⟨e.2.1⟩⟩, .int .i64 e.2.2.1, .int .i64 e.2.2.2.1, .string ⟨⟨e.2.2.2.2.1⟩⟩] 51)).alloc (Obj.cells #[.slice none 0 0, .int .i64 0] 24)) := ⟨_, rfl⟩
  rw [<- hA3] at ha0 ha1 ha2 hag ⊢
  clear hA3
  obtain ⟨es, hes⟩ : ∃ es, es = w.heap.size + 1 := ⟨_, rfl⟩
  rw [<- hes] at ha1 ha2 ⊢
  obtain ⟨qr, hqr⟩ : ∃ qr, qr = es + 1 := ⟨_, rfl⟩
  rw [<- hqr] at ha2 ⊢
  obtain ⟨s0, hs0⟩ : ∃ s0, s0 = w.heap.size := ⟨_, rfl⟩
  rw [<- hs0] at ha0 ⊢
  have HSZ := Go.Lib.hid (And.intro hs0 (And.intro hes hqr))
  clear hs0 hes hqr
  have hcr := HC.out A3 (z4c hS hag)
  have k0 := ha0.cell (i := 0) rfl
  have k1 := ha0.cell (i := 1) rfl
  have HA0 := Go.Lib.hid ha0
  have HA1 := Go.Lib.hid ha1
  have HA2 := Go.Lib.hid ha2
  have HAG := Go.Lib.hid hag
  clear ha0 ha1 ha2 hag
  have hlr : w.heap.size <= qr := by have := HSZ.out; omega
  rcases r with _ | _
  . rw [if_pos rfl] at hy
    cases hy
    go_upto_region 2 with (go_at_call 13; refine hcr.mono ?_; rintro _ w1 ⟨rfl, g1⟩; have HG1 := Go.Lib.hid g1; clear g1 hcr)
    have hq1 := HA2.out.grown HG1.out (by simp)
    have r0 := hq1.cell (i := 0) rfl
    have r1 := hq1.cell (i := 1) rfl
    have f0 := hq1.free (i := 0)
    have f1 := hq1.free (i := 1)
    have hq2 := hq1.set 0 (.slice none 0 0)
    have r1' := hq2.cell (i := 1) rfl
    have f1' := hq2.free (i := 1)
    have hq3 := hq2.set 1 (.int .i64 0)
    have HQ3 := Go.Lib.hid hq3
    clear hq1 hq2 hq3
    go_wp2
    exact bodyPost_ret (zho rfl rfl HQ3.out) rfl (HR.out _ _ _ _ rfl (zj3 (zj3 (z4m (HAG.out.trans38 HG1.out) (by simp)) hlr 0 _) hlr 1 _) (zsp _))
  rw [if_neg (by decide)] at hy
  obtain ⟨f, hf, hy⟩ := Option.bind_eq_some_iff.1 hy
  go_upto_region 3 with (go_at_call 13; refine hcr.mono ?_; rintro _ w1 ⟨rfl, g1⟩; have HG1 := Go.Lib.hid g1; clear g1 hcr)
  have hk1 := HA1.out.grown HG1.out (by simp)
  have m0 := hk1.cell (i := 0) rfl
  have m1 := hk1.cell (i := 1) rfl
  have m2 := hk1.cell (i := 2) rfl
  have m3 := hk1.cell (i := 3) rfl
  have m4 := hk1.cell (i := 4) rfl
  have hcf := zyo N (W := w1) (z4c hS (HAG.out.trans38 HG1.out)) hev hf
  unfold evV at hcf
  have HK1 := Go.Lib.hid hk1
  clear hk1 k0 k1
  rcases f with _ | _
  . rw [if_pos rfl] at hy
    cases hy
    go_upto_region 4 with (go_at_call 49; refine hcf.mono ?_; rintro _ w2 ⟨rfl, g2⟩; have HG2 := Go.Lib.hid g2; clear g2 hcf)
    have hq1 := (HA2.out.grown HG1.out (by simp)).grown HG2.out (by simp)
    have r0 := hq1.cell (i := 0) rfl
    have r1 := hq1.cell (i := 1) rfl
    have f0 := hq1.free (i := 0)
    have f1 := hq1.free (i := 1)
    have hq2 := hq1.set 0 (.slice none 0 0)
    have r1' := hq2.cell (i := 1) rfl
    have f1' := hq2.free (i := 1)
    have hq3 := hq2.set 1 (.int .i64 0)
    have HQ3 := Go.Lib.hid hq3
    clear hq1 hq2 hq3
    go_wp2
    exact bodyPost_ret (zho rfl rfl HQ3.out) rfl (HR.out _ _ _ _ rfl (zj3 (zj3 (z4m ((HAG.out.trans38 HG1.out).trans38 HG2.out) (by simp)) hlr 0 _) hlr 1 _) (zsp _))
  rw [if_neg (by decide)] at hy
  by_cases hlim : ts.length <= 16 /\ (ts.all fun t => decide (t.2.2.2.1.length < 256)) = true
  case neg => rw [if_neg hlim] at hy; cases hy
  rw [if_pos hlim] at hy
  obtain ⟨z, hz, hy⟩ := Option.bind_eq_some_iff.1 hy
  have hk256 : ∀ t ∈ ts, t.2.2.2.1.length < 256 := fun t ht => by simpa using List.all_eq_true.1 hlim.2 t ht
  go_upto_region 5 with (go_at_call 49; refine hcf.mono ?_; rintro _ w2 ⟨rfl, g2⟩; have HG2 := Go.Lib.hid g2; clear g2 hcf)
  have hg2 : w.grownBy w2 none := (HAG.out.trans38 HG1.out).trans38 HG2.out
  have hcc := zpe (w := w2) (ser := ser) (z4c hS hg2) hsv (by omega) (fun t ht => by have := hk256 t ht; omega)
  have k2 := (HA0.out.grown HG1.out (by simp)).grown HG2.out (by simp)
  have k0 := k2.cell (i := 0) rfl
  have k1 := k2.cell (i := 1) rfl
  have HG3 := Go.Lib.hid hg2
  clear k2 hg2 m0 m1 m2 m3 m4
  go_upto_region 6 with (go_at_call 32; refine hcc.mono ?_; rintro _ w3 ⟨b, l, rfl, hl1, hl2, hl3⟩; have HL := Go.Lib.hid (And.intro hl1 (And.intro hl2 hl3)); clear hl1 hl2 hl3 hcc)
  obtain ⟨hl1, hl2, hl3⟩ := HL.out
  have hw23 := hl2.size
  have hbw : b < w3.heap.size := hl3.row.lt
  have hin : ∀ i, (h : i < l.length) -> l[i].1.2.2.2.1.length < 256 := fun i h => hk256 _ (by rw [<- hl1]; exact List.mem_map_of_mem (List.getElem_mem h))
  have HSt : St38 w2.heap.size (w3.alloc (Obj.cells #[.slice (some ⟨b, 0, none⟩) ts.length ts.length, .int .i64 ser] 24)) w3.heap.size b ts.length ser l :=
    ⟨RowAt.new w3 [.slice (some ⟨b, 0, none⟩) ts.length ts.length, .int .i64 ser] 24, hl3.row.alloc _, by rw [<- hl1, List.length_map], by omega, hl3.low, hw23, hlim.1, hin, fun i hi => by
      obtain ⟨kb, e1, e2, e3, e4⟩ := hl3.keys i hi
      exact ⟨kb, e1, e2, e3, by have := e4.lt; omega, e4.alloc _⟩, hl3.apart⟩
  have hch := ztw N HSt (y := z) (by rw [hl1]; exact hz)
  unfold evV at hch
  have hg36 : w2.grownBy (w3.alloc (Obj.cells #[.slice (some ⟨b, 0, none⟩) ts.length ts.length, .int .i64 ser] 24)) none := hl2.trans38 (World.grownBy_alloc w3 _ none)
  have hk6 := (HK1.out.grown HG2.out (by simp)).grown hg36 (by simp)
  have hq6 := ((HA2.out.grown HG1.out (by simp)).grown HG2.out (by simp)).grown hg36 (by simp)
  have hqlt := ((HA2.out.grown HG1.out (by simp)).grown HG2.out (by simp)).lt
  obtain ⟨A6, hA6⟩ : ∃ A6, A6 = w3.alloc (Obj.cells #[.slice (some ⟨b, 0, none⟩) ts.length ts.length, .int .i64 ser] 24) := ⟨_, rfl⟩
  rw [<- hA6] at hch hg36 hk6 hq6 HSt ⊢
  clear hA6
  obtain ⟨qa, hqa⟩ : ∃ qa, qa = w3.heap.size := ⟨_, rfl⟩
  rw [<- hqa] at hch HSt ⊢
  clear hqa
  have m0 := hk6.cell (i := 0) rfl
  have m1 := hk6.cell (i := 1) rfl
  have m2 := hk6.cell (i := 2) rfl
  have m3 := hk6.cell (i := 3) rfl
  have m4 := hk6.cell (i := 4) rfl
  have HQ6 := Go.Lib.hid hq6
  have HG6 := Go.Lib.hid (HG3.out.trans38 hg36)
  clear hq6 hk6 hg36 HSt hl1 hl2 hl3 hin k0 k1
  have hwle : w.heap.size <= w2.heap.size := HG3.out.size
  go_upto_region 7 with (go_at_call 50; refine hch.mono ?_; rintro _ w4 ⟨rfl, g4, q4⟩; have H4 := Go.Lib.hid (And.intro g4 q4); clear g4 q4 hch)
  obtain ⟨g4, q4⟩ := H4.out
  have hw4 : WF w (fun j => w.heap.size <= j) w4 := ⟨Nat.le_trans HG6.out.size g4.size, fun j hj hn => (g4.same j (Nat.lt_of_lt_of_le hj HG6.out.size) (by omega)).trans (HG6.out.block j hj (by simp)), g4.tape.trans HG6.out.tape, g4.os.trans HG6.out.os, g4.output.trans HG6.out.output⟩
  have hq1 : RowAt w4 qr [.slice none 0 0, .int .i64 0] 24 := by
    have h := HQ6.out
    unfold RowAt at *
    rw [g4.same qr (Array.getElem?_eq_some_iff.1 h).1 (by omega)]
    exact h
  have HW4 := Go.Lib.hid hw4
  have HQ4 := Go.Lib.hid q4
  clear g4 q4 hw4
  by_cases gz : z.1 = 0
  . rw [if_pos gz] at hy
    cases hy
    obtain ⟨v, v1, v2⟩ := HQ4.out gz
    obtain ⟨va, vc, _, rfl, _⟩ := z7q (v2 (hp w4) (fun _ _ => rfl))
    have n0 := v1.cell (i := 0) rfl
    have n1 := v1.cell (i := 1) rfl
    have r0 := hq1.cell (i := 0) rfl
    have r1 := hq1.cell (i := 1) rfl
    have f0 := hq1.free (i := 0)
    have f1 := hq1.free (i := 1)
    have hq2 := hq1.set 0 (.slice va z.2.1.length vc)
    have r1' := hq2.cell (i := 1) rfl
    have f1' := hq2.free (i := 1)
    have hq3 := hq2.set 1 (.int .i64 z.2.2.1)
    have HQ3 := Go.Lib.hid hq3
    have HV := Go.Lib.hid v2
    rw [gz] at *
    clear hq1 hq2 hq3 v1 v2 m0 m1 m2 m3 m4
    go_wp2
    refine bodyPost_ret (zho rfl rfl HQ3.out) rfl (HR.out _ _ _ _ rfl (zj3 (zj3 HW4.out hlr 0 _) hlr 1 _) (zl1 (HV.out _ (fun j hj => ?_))))
    rw [if_pos (by omega)]
    have hne : qr ≠ j := by omega
    simp only [hp]
    rw [heap_setCell_other _ ⟨qr, 1, none⟩ j _ (Ne.symm hne), heap_setCell_other _ ⟨qr, 0, none⟩ j _ (Ne.symm hne)]
  . rw [if_neg gz] at hy
    cases hy
    have r0 := hq1.cell (i := 0) rfl
    have r1 := hq1.cell (i := 1) rfl
    have f0 := hq1.free (i := 0)
    have f1 := hq1.free (i := 1)
    have hq2 := hq1.set 0 (.slice none 0 0)
    have r1' := hq2.cell (i := 1) rfl
    have f1' := hq2.free (i := 1)
    have hq3 := hq2.set 1 (.int .i64 0)
    have HQ3 := Go.Lib.hid hq3
    clear hq1 hq2 hq3 m0 m1 m2 m3 m4
    go_wp2
    exact bodyPost_ret (zho rfl rfl HQ3.out) rfl (HR.out _ _ _ _ rfl (zj3 (zj3 HW4.out hlr 0 _) hlr 1 _) (zsp _))

def z9o (N : Nat) (s : StT.den) : Option StT.den :=
 if s.1.length <= 1000 /\ (s.1.all fun t => decide (t.2.2.2.1.length <= 1000)) = true then some s else none

def zer (N : Nat) : List A -> Res := z1z [(0, .v StT)] (fun x => z9o N x.1) (z51 (.v StT) 1)

theorem zya {w w' : World} {b : Nat} {l : List (TenT.den × Value)} (h : Laid w w' b l) {S : Hp} (hS : ∀ j, w.heap.size <= j -> S j = w'.heap[j]?) : VR S (.sl TenT) (l.map (·.1)) (.slice (some ⟨b, 0, none⟩) l.length l.length) :=
  ze4 (lo := w.heap.size) (w := w') (sp := []) (by rw [List.append_nil]; exact h.row) h.low (Nat.le_refl _) (fun p hp => by
    obtain ⟨i, hi, rfl⟩ := List.getElem_of_mem hp
    obtain ⟨kb, e1, e2, e3, e4⟩ := h.keys i hi
    exact .inr ⟨kb, _, [], e1, Nat.le_refl _, e2, by rw [List.append_nil]; exact e4⟩) hS

theorem zps (N : Nat) : Contract Go.Proofs.Try.prog zm 32 (zer N) := by
  refine Contract.hand ⟨_, Go.Proofs.Try.func32, by kernel_rfl, by decide⟩ ?_
  intro w S vals ob x y har hS hg hy
  obtain ⟨s, u⟩ := x
  cases u
  dsimp only at hy
  obtain ⟨⟨v0, hv0, hA0, ho0⟩, _⟩ := har.rel 0 _ rfl
  have hvals : vals = [v0] := by
    match vals, har.len, hv0 with
    | [a], _, h1 => simp at h1; rw [h1]
  subst hvals
  have hob : ∀ i, ob i = [] := by
    intro i
    match i with
    | 0 => exact ho0
    | i + 1 => exact har.out _ (by simp [mkS, z6c])
  unfold z9o at hy
  by_cases hlim : s.1.length <= 1000 /\ (s.1.all fun t => decide (t.2.2.2.1.length <= 1000)) = true
  case neg => rw [if_neg hlim] at hy; cases hy
  rw [if_pos hlim] at hy
  obtain rfl : s = y := Option.some.inj hy
  obtain ⟨ts, ser, u⟩ := s
  cases u
  obtain ⟨sv, rfl, hsv⟩ := zfi hA0
  have hk : ∀ t ∈ ts, t.2.2.2.1.length <= 1000 := fun t ht => by simpa using List.all_eq_true.1 hlim.2 t ht
  refine (zpe (ser := ser) hS hsv hlim.1 hk).mono ?_
  rintro _ w' ⟨b, l, rfl, hl1, hl2, hl3⟩
  have hsome : ∀ k o, S k = some o -> k < w.heap.size := fun k o hk => (Array.getElem?_eq_some_iff.1 (show w.heap[k]? = some o from hS k o hk)).1
  have hSw := z4c hS hl2
  have hv : VR (fun k => if w.heap.size <= k then hp w' k else S k) StT (ts, (ser, ())) (.agg #[.slice (some ⟨b, 0, none⟩) ts.length ts.length, .int .i64 ser]) := by
    refine zl1 ?_
    have h := zya hl3 (S := fun k => if w.heap.size <= k then hp w' k else S k) (fun j hj => if_pos hj)
    have e : l.length = ts.length := by rw [<- hl1, List.length_map]
    rw [hl1, e] at h
    exact h
  refine ⟨_, fun k => if w.heap.size <= k then hp w' k else S k, [], ob, rfl, ⟨hl2.size, fun k hk _ => hl2.block k hk (by simp), hl2.tape, hl2.os, hl2.output⟩, fun k o hk => ?_, fun k o hk => ?_, fun k hk => ?_, ⟨⟨hv, rfl⟩, rfl⟩, (fun k hk => by cases hk), .nil, ?_, ?_, ?_, ?_, fun i hi => hi⟩
  . dsimp only
    rw [if_neg (by have := hsome k o hk; omega)]
    exact hk
  . dsimp only at hk
    split at hk
    . exact hk
    . exact hSw k o hk
  . dsimp only at hk
    split at hk
    . exact .inr (.inr (by assumption))
    . exact .inl hk
  . intro i z hz hbx
    match i with
    | 0 => simp [mkS, z6c, AS.mk] at hz; subst hz; cases hbx
    | i + 1 => simp [mkS, z6c] at hz
  . intro i k hk
    rw [hob i] at hk; cases hk
  . intro i j k hi
    rw [hob i] at hi; cases hi
  . intro i
    rw [hob i]; exact .nil

end
end Go.Proofs.YtlohplpnhopldaaLg

set_option linter.all false
set_option maxRecDepth 100000
namespace Go.Proofs.YtlohplpnhopldaaLg
noncomputable section
open Go Go.Lift

def zi1 : Code := (Go.Proofs.Try.f38.body).getD .skip

def zf0 : List (List Nat × List Nat) := [([0], [3, 2, 1]), ([0, 0, 1], [10, 2, 1]), ([1, 0, 1], [2, 1]), ([0, 0, 1, 0, 1], [6, 7]), ([1, 0, 1, 0, 1], [6, 7]), ([0, 0, 1, 1], [12, 2, 1]), ([1, 0, 1, 1], [1]), ([0, 0, 1, 0, 1, 1], [6, 7]), ([1, 0, 1, 0, 1, 1], [6, 7]), ([0, 1, 1, 1], [6, 7]), ([1, 1, 1, 1], [6, 7])]

def z97 (N : Nat) : Env := z45 tys zm [(13, z47 N)] [] [] [] false [] []

theorem zk7 (N : Nat) : EnvOk Go.Proofs.Try.prog (z97 N) := z16 mixed z28 (FnsOk.cons (z55 N) (FnsOk.nil)) (ItsOk.nil)

def z18 (N : Nat) (s : ((List ((List UInt8) × (Int × (Int × ((List (Int × ((List UInt8) × Unit))) × Unit))))) × (Int × Unit))) (l : (List (Int × ((List UInt8) × (Int × (Int × ((List UInt8) × Unit))))))) (e : Int) : Option ((List (Int × ((List UInt8) × (Int × (Int × ((List UInt8) × Unit)))))) × Int × Unit) :=
 (z3h N s).bind fun y =>
 cond (!y)
 (some (([] : List (Int × ((List UInt8) × (Int × (Int × ((List UInt8) × Unit)))))), ((7 : Int), ())))
 (cond (e != (0 : Int))
 (some (([] : List (Int × ((List UInt8) × (Int × (Int × ((List UInt8) × Unit)))))), (e, ())))
 (some (l, ((0 : Int), ()))))

def zez (N : Nat) : Tab ((List (Int × ((List UInt8) × (Int × (Int × ((List UInt8) × Unit)))))) × Int × Unit) := []

theorem zi0 (N : Nat) (x : z2g [(0, .v (.pair (.sl (.pair .str (.pair (.int .i64) (.pair (.int .i64) (.pair (.sl (.pair (.int .i64) (.pair .str .unit))) .unit))))) (.pair (.int .i64) .unit))), (0, .v (.sl (.pair (.int .i64) (.pair .str (.pair (.int .i64) (.pair (.int .i64) (.pair .str .unit))))))), (0, .v (.int .i64))]) : zc7 (z97 N) N (zez N) zf0 Go.Proofs.Try.f38 (mkS [(0, .v (.pair (.sl (.pair .str (.pair (.int .i64) (.pair (.int .i64) (.pair (.sl (.pair (.int .i64) (.pair .str .unit))) .unit))))) (.pair (.int .i64) .unit))), (0, .v (.sl (.pair (.int .i64) (.pair .str (.pair (.int .i64) (.pair (.int .i64) (.pair .str .unit))))))), (0, .v (.int .i64))] 0 x) (z6g (.tup [(.sl (.pair (.int .i64) (.pair .str (.pair (.int .i64) (.pair (.int .i64) (.pair .str .unit)))))), (.int .i64)]) 3) = z18 N x.1 x.2.1 x.2.2.1 := by kernel_rfl

def z2i (N : Nat) : List A -> Res := z1z [(0, .v (.pair (.sl (.pair .str (.pair (.int .i64) (.pair (.int .i64) (.pair (.sl (.pair (.int .i64) (.pair .str .unit))) .unit))))) (.pair (.int .i64) .unit))), (0, .v (.sl (.pair (.int .i64) (.pair .str (.pair (.int .i64) (.pair (.int .i64) (.pair .str .unit))))))), (0, .v (.int .i64))] (fun x => z18 N x.1 x.2.1 x.2.2.1) (z51 (.tup [(.sl (.pair (.int .i64) (.pair .str (.pair (.int .i64) (.pair (.int .i64) (.pair .str .unit)))))), (.int .i64)]) 3)

theorem z3o (N : Nat) : Contract Go.Proofs.Try.prog zm 38 (z2i N) :=
  Contract.of (E := z97 N) (H := zez N) (L := zf0) (N := N) (body := zi1) (K := (z6g (.tup [(.sl (.pair (.int .i64) (.pair .str (.pair (.int .i64) (.pair (.int .i64) (.pair .str .unit)))))), (.int .i64)]) 3)) (zk7 N) Go.Proofs.Try.func38 (by kernel_rfl) (by decide) (fun _ hb => TabOk.nil) (fun x y h => by rw [zi0]; exact h) (z20 (s := (.tup [(.sl (.pair (.int .i64) (.pair .str (.pair (.int .i64) (.pair (.int .i64) (.pair .str .unit)))))), (.int .i64)])) (m := 3))

def znu : Code := (Go.Proofs.Try.f39.body).getD .skip

def zm2 : List (List Nat × List Nat) := [([0], [2, 1, 4]), ([0, 1], [6, 4, 2]), ([0, 0, 1, 1], [11, 4, 2, 6]), ([1, 0, 1, 1], [2, 6, 4]), ([0, 0, 1, 0, 1, 1], [4, 5]), ([1, 0, 1, 0, 1, 1], [4, 5]), ([0, 1, 1, 1], [4, 5]), ([1, 1, 1, 1], [4, 5])]

def zfw (N : Nat) : Env := z45 tys zm [(16, z57 N)] [] [] [] false [] []

theorem zq7 (N : Nat) : EnvOk Go.Proofs.Try.prog (zfw N) := z16 mixed z28 (FnsOk.cons (z6k N) (FnsOk.nil)) (ItsOk.nil)

def z6n (N : Nat) (s : ((List ((List UInt8) × (Int × (Int × ((List (Int × ((List UInt8) × Unit))) × Unit))))) × (Int × Unit))) (tenant : (List UInt8)) : Option (((List UInt8) × (Int × (Int × ((List (Int × ((List UInt8) × Unit))) × Unit)))) × Bool × Unit) :=
 (z3m N s tenant).bind fun y =>
 cond (decide (y < (0 : Int)))
 (some ((([] : List UInt8), ((0 : Int), ((0 : Int), (([] : List (Int × ((List UInt8) × Unit))), ())))), (false, ())))
 (cond (Go.Lift.inR y (List.length s.1))
 (some ((List.getD s.1 (Int.toNat y) (([] : List UInt8), ((0 : Int), ((0 : Int), (([] : List (Int × ((List UInt8) × Unit))), ()))))), (true, ())))
 (none))

def zm1 (N : Nat) : Tab (((List UInt8) × (Int × (Int × ((List (Int × ((List UInt8) × Unit))) × Unit)))) × Bool × Unit) := []

theorem znt (N : Nat) (x : z2g [(0, .v (.pair (.sl (.pair .str (.pair (.int .i64) (.pair (.int .i64) (.pair (.sl (.pair (.int .i64) (.pair .str .unit))) .unit))))) (.pair (.int .i64) .unit))), (0, .v .str)]) : zc7 (zfw N) N (zm1 N) zm2 Go.Proofs.Try.f39 (mkS [(0, .v (.pair (.sl (.pair .str (.pair (.int .i64) (.pair (.int .i64) (.pair (.sl (.pair (.int .i64) (.pair .str .unit))) .unit))))) (.pair (.int .i64) .unit))), (0, .v .str)] 0 x) (z6g (.tup [(.pair .str (.pair (.int .i64) (.pair (.int .i64) (.pair (.sl (.pair (.int .i64) (.pair .str .unit))) .unit)))), .bool]) 2) = z6n N x.1 x.2.1 := by kernel_rfl

def zq6 (N : Nat) : List A -> Res := z1z [(0, .v (.pair (.sl (.pair .str (.pair (.int .i64) (.pair (.int .i64) (.pair (.sl (.pair (.int .i64) (.pair .str .unit))) .unit))))) (.pair (.int .i64) .unit))), (0, .v .str)] (fun x => z6n N x.1 x.2.1) (z51 (.tup [(.pair .str (.pair (.int .i64) (.pair (.int .i64) (.pair (.sl (.pair (.int .i64) (.pair .str .unit))) .unit)))), .bool]) 2)

theorem zrl (N : Nat) : Contract Go.Proofs.Try.prog zm 39 (zq6 N) :=
  Contract.of (E := zfw N) (H := zm1 N) (L := zm2) (N := N) (body := znu) (K := (z6g (.tup [(.pair .str (.pair (.int .i64) (.pair (.int .i64) (.pair (.sl (.pair (.int .i64) (.pair .str .unit))) .unit)))), .bool]) 2)) (zq7 N) Go.Proofs.Try.func39 (by kernel_rfl) (by decide) (fun _ hb => TabOk.nil) (fun x y h => by rw [znt]; exact h) (z20 (s := (.tup [(.pair .str (.pair (.int .i64) (.pair (.int .i64) (.pair (.sl (.pair (.int .i64) (.pair .str .unit))) .unit)))), .bool])) (m := 2))

def zi3 : Code := (Go.Proofs.Try.f37.body).getD .skip

def zf3 : List (List Nat × List Nat) := [([], [0, 1, 2])]

def z98 (N : Nat) : Env := z45 tys zm [(38, z2i N)] [] [] [0, 1, 2] false [] []

theorem zk8 (N : Nat) : EnvOk Go.Proofs.Try.prog (z98 N) := z16 mixed z28 (FnsOk.cons (z3o N) (FnsOk.nil)) (ItsOk.nil)

def z8s (N : Nat) (x0 : ((List ((List UInt8) × (Int × (Int × ((List (Int × ((List UInt8) × Unit))) × Unit))))) × (Int × Unit))) (x1 : (List (Int × ((List UInt8) × (Int × (Int × ((List UInt8) × Unit))))))) (x2 : Int) : Option ((Unit) × (((List ((List UInt8) × (Int × (Int × ((List (Int × ((List UInt8) × Unit))) × Unit))))) × (Int × Unit)) × (List (Int × ((List UInt8) × (Int × (Int × ((List UInt8) × Unit)))))) × Int × Unit)) :=
 (z18 N x0 x1 x2).bind fun y =>
 some ((), (x0, (y.1, (y.2.1, ()))))

def zf2 (N : Nat) : Tab ((Unit) × (((List ((List UInt8) × (Int × (Int × ((List (Int × ((List UInt8) × Unit))) × Unit))))) × (Int × Unit)) × (List (Int × ((List UInt8) × (Int × (Int × ((List UInt8) × Unit)))))) × Int × Unit)) := []

theorem zi2 (N : Nat) (x : z2g [(0, .box (.pair (.sl (.pair .str (.pair (.int .i64) (.pair (.int .i64) (.pair (.sl (.pair (.int .i64) (.pair .str .unit))) .unit))))) (.pair (.int .i64) .unit))), (0, .box (.sl (.pair (.int .i64) (.pair .str (.pair (.int .i64) (.pair (.int .i64) (.pair .str .unit))))))), (0, .box (.int .i64))]) : zc7 (z98 N) N (zf2 N) zf3 Go.Proofs.Try.f37 (mkS [(0, .box (.pair (.sl (.pair .str (.pair (.int .i64) (.pair (.int .i64) (.pair (.sl (.pair (.int .i64) (.pair .str .unit))) .unit))))) (.pair (.int .i64) .unit))), (0, .box (.sl (.pair (.int .i64) (.pair .str (.pair (.int .i64) (.pair (.int .i64) (.pair .str .unit))))))), (0, .box (.int .i64))] 0 x) (zhc (.tup []) [(0, .box (.pair (.sl (.pair .str (.pair (.int .i64) (.pair (.int .i64) (.pair (.sl (.pair (.int .i64) (.pair .str .unit))) .unit))))) (.pair (.int .i64) .unit))), (0, .box (.sl (.pair (.int .i64) (.pair .str (.pair (.int .i64) (.pair (.int .i64) (.pair .str .unit))))))), (0, .box (.int .i64))] 0) = z8s N x.1 x.2.1 x.2.2.1 := by kernel_rfl

def z49 (N : Nat) : List A -> Res := z1z [(0, .box (.pair (.sl (.pair .str (.pair (.int .i64) (.pair (.int .i64) (.pair (.sl (.pair (.int .i64) (.pair .str .unit))) .unit))))) (.pair (.int .i64) .unit))), (0, .box (.sl (.pair (.int .i64) (.pair .str (.pair (.int .i64) (.pair (.int .i64) (.pair .str .unit))))))), (0, .box (.int .i64))] (fun x => z8s N x.1 x.2.1 x.2.2.1) (zta (.tup []) [(0, .box (.pair (.sl (.pair .str (.pair (.int .i64) (.pair (.int .i64) (.pair (.sl (.pair (.int .i64) (.pair .str .unit))) .unit))))) (.pair (.int .i64) .unit))), (0, .box (.sl (.pair (.int .i64) (.pair .str (.pair (.int .i64) (.pair (.int .i64) (.pair .str .unit))))))), (0, .box (.int .i64))] 0)

theorem z3c (N : Nat) : ContractD Go.Proofs.Try.prog zm 37 (z49 N) :=
  ContractD.of (E := z98 N) (H := zf2 N) (L := zf3) (N := N) (body := zi3) (K := (zhc (.tup []) [(0, .box (.pair (.sl (.pair .str (.pair (.int .i64) (.pair (.int .i64) (.pair (.sl (.pair (.int .i64) (.pair .str .unit))) .unit))))) (.pair (.int .i64) .unit))), (0, .box (.sl (.pair (.int .i64) (.pair .str (.pair (.int .i64) (.pair (.int .i64) (.pair .str .unit))))))), (0, .box (.int .i64))] 0)) (zk8 N) Go.Proofs.Try.func37 (by kernel_rfl) (by decide) (fun _ hb => TabOk.nil) (fun x y h => by rw [zi2]; exact h) (ze2 (s := (.tup [])) (os := [(0, .box (.pair (.sl (.pair .str (.pair (.int .i64) (.pair (.int .i64) (.pair (.sl (.pair (.int .i64) (.pair .str .unit))) .unit))))) (.pair (.int .i64) .unit))), (0, .box (.sl (.pair (.int .i64) (.pair .str (.pair (.int .i64) (.pair (.int .i64) (.pair .str .unit))))))), (0, .box (.int .i64))]) (m := 0))

def zi5 : Code := (Go.Proofs.Try.f42.body).getD .skip

def zf5 : List (List Nat × List Nat) := [([], [0, 1, 2])]

def z99 (N : Nat) : Env := z45 tys zm [(38, z2i N)] [] [] [0, 1, 2] false [] []

theorem zka (N : Nat) : EnvOk Go.Proofs.Try.prog (z99 N) := z16 mixed z28 (FnsOk.cons (z3o N) (FnsOk.nil)) (ItsOk.nil)

def zji (N : Nat) (x0 : ((List ((List UInt8) × (Int × (Int × ((List (Int × ((List UInt8) × Unit))) × Unit))))) × (Int × Unit))) (x1 : (List (Int × ((List UInt8) × (Int × (Int × ((List UInt8) × Unit))))))) (x2 : Int) : Option ((Unit) × (((List ((List UInt8) × (Int × (Int × ((List (Int × ((List UInt8) × Unit))) × Unit))))) × (Int × Unit)) × (List (Int × ((List UInt8) × (Int × (Int × ((List UInt8) × Unit)))))) × Int × Unit)) :=
 (z18 N x0 x1 x2).bind fun y =>
 some ((), (x0, (y.1, (y.2.1, ()))))

def zf4 (N : Nat) : Tab ((Unit) × (((List ((List UInt8) × (Int × (Int × ((List (Int × ((List UInt8) × Unit))) × Unit))))) × (Int × Unit)) × (List (Int × ((List UInt8) × (Int × (Int × ((List UInt8) × Unit)))))) × Int × Unit)) := []

theorem zi4 (N : Nat) (x : z2g [(0, .box (.pair (.sl (.pair .str (.pair (.int .i64) (.pair (.int .i64) (.pair (.sl (.pair (.int .i64) (.pair .str .unit))) .unit))))) (.pair (.int .i64) .unit))), (0, .box (.sl (.pair (.int .i64) (.pair .str (.pair (.int .i64) (.pair (.int .i64) (.pair .str .unit))))))), (0, .box (.int .i64))]) : zc7 (z99 N) N (zf4 N) zf5 Go.Proofs.Try.f42 (mkS [(0, .box (.pair (.sl (.pair .str (.pair (.int .i64) (.pair (.int .i64) (.pair (.sl (.pair (.int .i64) (.pair .str .unit))) .unit))))) (.pair (.int .i64) .unit))), (0, .box (.sl (.pair (.int .i64) (.pair .str (.pair (.int .i64) (.pair (.int .i64) (.pair .str .unit))))))), (0, .box (.int .i64))] 0 x) (zhc (.tup []) [(0, .box (.pair (.sl (.pair .str (.pair (.int .i64) (.pair (.int .i64) (.pair (.sl (.pair (.int .i64) (.pair .str .unit))) .unit))))) (.pair (.int .i64) .unit))), (0, .box (.sl (.pair (.int .i64) (.pair .str (.pair (.int .i64) (.pair (.int .i64) (.pair .str .unit))))))), (0, .box (.int .i64))] 0) = zji N x.1 x.2.1 x.2.2.1 := by kernel_rfl

def zk9 (N : Nat) : List A -> Res := z1z [(0, .box (.pair (.sl (.pair .str (.pair (.int .i64) (.pair (.int .i64) (.pair (.sl (.pair (.int .i64) (.pair .str .unit))) .unit))))) (.pair (.int .i64) .unit))), (0, .box (.sl (.pair (.int .i64) (.pair .str (.pair (.int .i64) (.pair (.int .i64) (.pair .str .unit))))))), (0, .box (.int .i64))] (fun x => zji N x.1 x.2.1 x.2.2.1) (zta (.tup []) [(0, .box (.pair (.sl (.pair .str (.pair (.int .i64) (.pair (.int .i64) (.pair (.sl (.pair (.int .i64) (.pair .str .unit))) .unit))))) (.pair (.int .i64) .unit))), (0, .box (.sl (.pair (.int .i64) (.pair .str (.pair (.int .i64) (.pair (.int .i64) (.pair .str .unit))))))), (0, .box (.int .i64))] 0)

theorem z3d (N : Nat) : ContractD Go.Proofs.Try.prog zm 42 (zk9 N) :=
  ContractD.of (E := z99 N) (H := zf4 N) (L := zf5) (N := N) (body := zi5) (K := (zhc (.tup []) [(0, .box (.pair (.sl (.pair .str (.pair (.int .i64) (.pair (.int .i64) (.pair (.sl (.pair (.int .i64) (.pair .str .unit))) .unit))))) (.pair (.int .i64) .unit))), (0, .box (.sl (.pair (.int .i64) (.pair .str (.pair (.int .i64) (.pair (.int .i64) (.pair .str .unit))))))), (0, .box (.int .i64))] 0)) (zka N) Go.Proofs.Try.func42 (by kernel_rfl) (by decide) (fun _ hb => TabOk.nil) (fun x y h => by rw [zi4]; exact h) (ze2 (s := (.tup [])) (os := [(0, .box (.pair (.sl (.pair .str (.pair (.int .i64) (.pair (.int .i64) (.pair (.sl (.pair (.int .i64) (.pair .str .unit))) .unit))))) (.pair (.int .i64) .unit))), (0, .box (.sl (.pair (.int .i64) (.pair .str (.pair (.int .i64) (.pair (.int .i64) (.pair .str .unit))))))), (0, .box (.int .i64))]) (m := 0))

def zi9 : Code := (Go.Proofs.Try.f43.body).getD .skip

def zf9 : List (List Nat × List Nat) := [([], [0, 1, 2])]

def z9b (N : Nat) : Env := z45 tys zm [(38, z2i N)] [] [] [0, 1, 2] false [] []

theorem zke (N : Nat) : EnvOk Go.Proofs.Try.prog (z9b N) := z16 mixed z28 (FnsOk.cons (z3o N) (FnsOk.nil)) (ItsOk.nil)

def zjk (N : Nat) (x0 : ((List ((List UInt8) × (Int × (Int × ((List (Int × ((List UInt8) × Unit))) × Unit))))) × (Int × Unit))) (x1 : (List (Int × ((List UInt8) × (Int × (Int × ((List UInt8) × Unit))))))) (x2 : Int) : Option ((Unit) × (((List ((List UInt8) × (Int × (Int × ((List (Int × ((List UInt8) × Unit))) × Unit))))) × (Int × Unit)) × (List (Int × ((List UInt8) × (Int × (Int × ((List UInt8) × Unit)))))) × Int × Unit)) :=
 (z18 N x0 x1 x2).bind fun y =>
 some ((), (x0, (y.1, (y.2.1, ()))))

def zf8 (N : Nat) : Tab ((Unit) × (((List ((List UInt8) × (Int × (Int × ((List (Int × ((List UInt8) × Unit))) × Unit))))) × (Int × Unit)) × (List (Int × ((List UInt8) × (Int × (Int × ((List UInt8) × Unit)))))) × Int × Unit)) := []

theorem zi8 (N : Nat) (x : z2g [(0, .box (.pair (.sl (.pair .str (.pair (.int .i64) (.pair (.int .i64) (.pair (.sl (.pair (.int .i64) (.pair .str .unit))) .unit))))) (.pair (.int .i64) .unit))), (0, .box (.sl (.pair (.int .i64) (.pair .str (.pair (.int .i64) (.pair (.int .i64) (.pair .str .unit))))))), (0, .box (.int .i64))]) : zc7 (z9b N) N (zf8 N) zf9 Go.Proofs.Try.f43 (mkS [(0, .box (.pair (.sl (.pair .str (.pair (.int .i64) (.pair (.int .i64) (.pair (.sl (.pair (.int .i64) (.pair .str .unit))) .unit))))) (.pair (.int .i64) .unit))), (0, .box (.sl (.pair (.int .i64) (.pair .str (.pair (.int .i64) (.pair (.int .i64) (.pair .str .unit))))))), (0, .box (.int .i64))] 0 x) (zhc (.tup []) [(0, .box (.pair (.sl (.pair .str (.pair (.int .i64) (.pair (.int .i64) (.pair (.sl (.pair (.int .i64) (.pair .str .unit))) .unit))))) (.pair (.int .i64) .unit))), (0, .box (.sl (.pair (.int .i64) (.pair .str (.pair (.int .i64) (.pair (.int .i64) (.pair .str .unit))))))), (0, .box (.int .i64))] 0) = zjk N x.1 x.2.1 x.2.2.1 := by kernel_rfl

def zkd (N : Nat) : List A -> Res := z1z [(0, .box (.pair (.sl (.pair .str (.pair (.int .i64) (.pair (.int .i64) (.pair (.sl (.pair (.int .i64) (.pair .str .unit))) .unit))))) (.pair (.int .i64) .unit))), (0, .box (.sl (.pair (.int .i64) (.pair .str (.pair (.int .i64) (.pair (.int .i64) (.pair .str .unit))))))), (0, .box (.int .i64))] (fun x => zjk N x.1 x.2.1 x.2.2.1) (zta (.tup []) [(0, .box (.pair (.sl (.pair .str (.pair (.int .i64) (.pair (.int .i64) (.pair (.sl (.pair (.int .i64) (.pair .str .unit))) .unit))))) (.pair (.int .i64) .unit))), (0, .box (.sl (.pair (.int .i64) (.pair .str (.pair (.int .i64) (.pair (.int .i64) (.pair .str .unit))))))), (0, .box (.int .i64))] 0)

theorem z6x (N : Nat) : ContractD Go.Proofs.Try.prog zm 43 (zkd N) :=
  ContractD.of (E := z9b N) (H := zf8 N) (L := zf9) (N := N) (body := zi9) (K := (zhc (.tup []) [(0, .box (.pair (.sl (.pair .str (.pair (.int .i64) (.pair (.int .i64) (.pair (.sl (.pair (.int .i64) (.pair .str .unit))) .unit))))) (.pair (.int .i64) .unit))), (0, .box (.sl (.pair (.int .i64) (.pair .str (.pair (.int .i64) (.pair (.int .i64) (.pair .str .unit))))))), (0, .box (.int .i64))] 0)) (zke N) Go.Proofs.Try.func43 (by kernel_rfl) (by decide) (fun _ hb => TabOk.nil) (fun x y h => by rw [zi8]; exact h) (ze2 (s := (.tup [])) (os := [(0, .box (.pair (.sl (.pair .str (.pair (.int .i64) (.pair (.int .i64) (.pair (.sl (.pair (.int .i64) (.pair .str .unit))) .unit))))) (.pair (.int .i64) .unit))), (0, .box (.sl (.pair (.int .i64) (.pair .str (.pair (.int .i64) (.pair (.int .i64) (.pair .str .unit))))))), (0, .box (.int .i64))]) (m := 0))

def zi7 : Code := (Go.Proofs.Try.f44.body).getD .skip

def zf7 : List (List Nat × List Nat) := [([], [0, 1, 2])]

def z9a (N : Nat) : Env := z45 tys zm [(38, z2i N)] [] [] [0, 1, 2] false [] []

theorem zkc (N : Nat) : EnvOk Go.Proofs.Try.prog (z9a N) := z16 mixed z28 (FnsOk.cons (z3o N) (FnsOk.nil)) (ItsOk.nil)

def zjj (N : Nat) (x0 : ((List ((List UInt8) × (Int × (Int × ((List (Int × ((List UInt8) × Unit))) × Unit))))) × (Int × Unit))) (x1 : (List (Int × ((List UInt8) × (Int × (Int × ((List UInt8) × Unit))))))) (x2 : Int) : Option ((Unit) × (((List ((List UInt8) × (Int × (Int × ((List (Int × ((List UInt8) × Unit))) × Unit))))) × (Int × Unit)) × (List (Int × ((List UInt8) × (Int × (Int × ((List UInt8) × Unit)))))) × Int × Unit)) :=
 (z18 N x0 x1 x2).bind fun y =>
 some ((), (x0, (y.1, (y.2.1, ()))))

def zf6 (N : Nat) : Tab ((Unit) × (((List ((List UInt8) × (Int × (Int × ((List (Int × ((List UInt8) × Unit))) × Unit))))) × (Int × Unit)) × (List (Int × ((List UInt8) × (Int × (Int × ((List UInt8) × Unit)))))) × Int × Unit)) := []

theorem zi6 (N : Nat) (x : z2g [(0, .box (.pair (.sl (.pair .str (.pair (.int .i64) (.pair (.int .i64) (.pair (.sl (.pair (.int .i64) (.pair .str .unit))) .unit))))) (.pair (.int .i64) .unit))), (0, .box (.sl (.pair (.int .i64) (.pair .str (.pair (.int .i64) (.pair (.int .i64) (.pair .str .unit))))))), (0, .box (.int .i64))]) : zc7 (z9a N) N (zf6 N) zf7 Go.Proofs.Try.f44 (mkS [(0, .box (.pair (.sl (.pair .str (.pair (.int .i64) (.pair (.int .i64) (.pair (.sl (.pair (.int .i64) (.pair .str .unit))) .unit))))) (.pair (.int .i64) .unit))), (0, .box (.sl (.pair (.int .i64) (.pair .str (.pair (.int .i64) (.pair (.int .i64) (.pair .str .unit))))))), (0, .box (.int .i64))] 0 x) (zhc (.tup []) [(0, .box (.pair (.sl (.pair .str (.pair (.int .i64) (.pair (.int .i64) (.pair (.sl (.pair (.int .i64) (.pair .str .unit))) .unit))))) (.pair (.int .i64) .unit))), (0, .box (.sl (.pair (.int .i64) (.pair .str (.pair (.int .i64) (.pair (.int .i64) (.pair .str .unit))))))), (0, .box (.int .i64))] 0) = zjj N x.1 x.2.1 x.2.2.1 := by kernel_rfl

def zkb (N : Nat) : List A -> Res := z1z [(0, .box (.pair (.sl (.pair .str (.pair (.int .i64) (.pair (.int .i64) (.pair (.sl (.pair (.int .i64) (.pair .str .unit))) .unit))))) (.pair (.int .i64) .unit))), (0, .box (.sl (.pair (.int .i64) (.pair .str (.pair (.int .i64) (.pair (.int .i64) (.pair .str .unit))))))), (0, .box (.int .i64))] (fun x => zjj N x.1 x.2.1 x.2.2.1) (zta (.tup []) [(0, .box (.pair (.sl (.pair .str (.pair (.int .i64) (.pair (.int .i64) (.pair (.sl (.pair (.int .i64) (.pair .str .unit))) .unit))))) (.pair (.int .i64) .unit))), (0, .box (.sl (.pair (.int .i64) (.pair .str (.pair (.int .i64) (.pair (.int .i64) (.pair .str .unit))))))), (0, .box (.int .i64))] 0)

theorem z6w (N : Nat) : ContractD Go.Proofs.Try.prog zm 44 (zkb N) :=
  ContractD.of (E := z9a N) (H := zf6 N) (L := zf7) (N := N) (body := zi7) (K := (zhc (.tup []) [(0, .box (.pair (.sl (.pair .str (.pair (.int .i64) (.pair (.int .i64) (.pair (.sl (.pair (.int .i64) (.pair .str .unit))) .unit))))) (.pair (.int .i64) .unit))), (0, .box (.sl (.pair (.int .i64) (.pair .str (.pair (.int .i64) (.pair (.int .i64) (.pair .str .unit))))))), (0, .box (.int .i64))] 0)) (zkc N) Go.Proofs.Try.func44 (by kernel_rfl) (by decide) (fun _ hb => TabOk.nil) (fun x y h => by rw [zi6]; exact h) (ze2 (s := (.tup [])) (os := [(0, .box (.pair (.sl (.pair .str (.pair (.int .i64) (.pair (.int .i64) (.pair (.sl (.pair (.int .i64) (.pair .str .unit))) .unit))))) (.pair (.int .i64) .unit))), (0, .box (.sl (.pair (.int .i64) (.pair .str (.pair (.int .i64) (.pair (.int .i64) (.pair .str .unit))))))), (0, .box (.int .i64))]) (m := 0))

def zm4 : Code := (Go.Proofs.Try.f41.body).getD .skip

def zjn : List (List Nat × List Nat) := [([], [0, 1, 2])]

def zd9 (N : Nat) : Env := z45 tys zm [(38, z2i N)] [] [] [0, 1, 2] false [] []

theorem znz (N : Nat) : EnvOk Go.Proofs.Try.prog (zd9 N) := z16 mixed z28 (FnsOk.cons (z3o N) (FnsOk.nil)) (ItsOk.nil)

def zos (N : Nat) (x0 : ((List ((List UInt8) × (Int × (Int × ((List (Int × ((List UInt8) × Unit))) × Unit))))) × (Int × Unit))) (x1 : (List (Int × ((List UInt8) × (Int × (Int × ((List UInt8) × Unit))))))) (x2 : Int) : Option ((Unit) × (((List ((List UInt8) × (Int × (Int × ((List (Int × ((List UInt8) × Unit))) × Unit))))) × (Int × Unit)) × (List (Int × ((List UInt8) × (Int × (Int × ((List UInt8) × Unit)))))) × Int × Unit)) :=
 (z18 N x0 x1 x2).bind fun y =>
 some ((), (x0, (y.1, (y.2.1, ()))))

def zjm (N : Nat) : Tab ((Unit) × (((List ((List UInt8) × (Int × (Int × ((List (Int × ((List UInt8) × Unit))) × Unit))))) × (Int × Unit)) × (List (Int × ((List UInt8) × (Int × (Int × ((List UInt8) × Unit)))))) × Int × Unit)) := []

theorem zm3 (N : Nat) (x : z2g [(0, .box (.pair (.sl (.pair .str (.pair (.int .i64) (.pair (.int .i64) (.pair (.sl (.pair (.int .i64) (.pair .str .unit))) .unit))))) (.pair (.int .i64) .unit))), (0, .box (.sl (.pair (.int .i64) (.pair .str (.pair (.int .i64) (.pair (.int .i64) (.pair .str .unit))))))), (0, .box (.int .i64))]) : zc7 (zd9 N) N (zjm N) zjn Go.Proofs.Try.f41 (mkS [(0, .box (.pair (.sl (.pair .str (.pair (.int .i64) (.pair (.int .i64) (.pair (.sl (.pair (.int .i64) (.pair .str .unit))) .unit))))) (.pair (.int .i64) .unit))), (0, .box (.sl (.pair (.int .i64) (.pair .str (.pair (.int .i64) (.pair (.int .i64) (.pair .str .unit))))))), (0, .box (.int .i64))] 0 x) (zhc (.tup []) [(0, .box (.pair (.sl (.pair .str (.pair (.int .i64) (.pair (.int .i64) (.pair (.sl (.pair (.int .i64) (.pair .str .unit))) .unit))))) (.pair (.int .i64) .unit))), (0, .box (.sl (.pair (.int .i64) (.pair .str (.pair (.int .i64) (.pair (.int .i64) (.pair .str .unit))))))), (0, .box (.int .i64))] 0) = zos N x.1 x.2.1 x.2.2.1 := by kernel_rfl

def zny (N : Nat) : List A -> Res := z1z [(0, .box (.pair (.sl (.pair .str (.pair (.int .i64) (.pair (.int .i64) (.pair (.sl (.pair (.int .i64) (.pair .str .unit))) .unit))))) (.pair (.int .i64) .unit))), (0, .box (.sl (.pair (.int .i64) (.pair .str (.pair (.int .i64) (.pair (.int .i64) (.pair .str .unit))))))), (0, .box (.int .i64))] (fun x => zos N x.1 x.2.1 x.2.2.1) (zta (.tup []) [(0, .box (.pair (.sl (.pair .str (.pair (.int .i64) (.pair (.int .i64) (.pair (.sl (.pair (.int .i64) (.pair .str .unit))) .unit))))) (.pair (.int .i64) .unit))), (0, .box (.sl (.pair (.int .i64) (.pair .str (.pair (.int .i64) (.pair (.int .i64) (.pair .str .unit))))))), (0, .box (.int .i64))] 0)

theorem z9c (N : Nat) : ContractD Go.Proofs.Try.prog zm 41 (zny N) :=
  ContractD.of (E := zd9 N) (H := zjm N) (L := zjn) (N := N) (body := zm4) (K := (zhc (.tup []) [(0, .box (.pair (.sl (.pair .str (.pair (.int .i64) (.pair (.int .i64) (.pair (.sl (.pair (.int .i64) (.pair .str .unit))) .unit))))) (.pair (.int .i64) .unit))), (0, .box (.sl (.pair (.int .i64) (.pair .str (.pair (.int .i64) (.pair (.int .i64) (.pair .str .unit))))))), (0, .box (.int .i64))] 0)) (znz N) Go.Proofs.Try.func41 (by kernel_rfl) (by decide) (fun _ hb => TabOk.nil) (fun x y h => by rw [zm3]; exact h) (ze2 (s := (.tup [])) (os := [(0, .box (.pair (.sl (.pair .str (.pair (.int .i64) (.pair (.int .i64) (.pair (.sl (.pair (.int .i64) (.pair .str .unit))) .unit))))) (.pair (.int .i64) .unit))), (0, .box (.sl (.pair (.int .i64) (.pair .str (.pair (.int .i64) (.pair (.int .i64) (.pair .str .unit))))))), (0, .box (.int .i64))]) (m := 0))

def z3p : Code := (Go.Proofs.Try.f11.body).getD .skip

def z8t : List (List Nat × List Nat) := [([0], [1]), ([0, 0, 1], [10, 1]), ([1, 0, 1], [1]), ([0, 0, 1, 0, 1], [2]), ([1, 0, 1, 0, 1], [2]), ([0, 1, 1], [1, 3]), ([0, 0, 1, 1, 1], [14, 13, 12, 3, 1]), ([0, 1, 0, 1, 1, 1], [14, 13, 12, 3, 1]), ([0, 0, 0, 1, 0, 1, 1, 1], [15, 12, 14, 3, 13, 1]), ([0, 1, 0, 0, 1, 0, 1, 1, 1], [12, 14, 3, 13, 1]), ([1, 0, 1, 0, 0, 1, 0, 1, 1, 1], [3, 1]), ([0, 0, 0, 1, 1, 0, 0, 1, 0, 1, 1, 1], [3, 5, 14, 13, 12, 1]), ([0, 1, 0, 0, 1, 1, 0, 0, 1, 0, 1, 1, 1], [5, 3, 14, 13, 12, 1]), ([0, 1, 1, 0, 0, 1, 1, 0, 0, 1, 0, 1, 1, 1], [31, 30, 29, 3, 5, 14, 13, 12, 1]), ([0, 1, 1, 1, 0, 0, 1, 1, 0, 0, 1, 0, 1, 1, 1], [31, 30, 29, 3, 5, 14, 13, 12, 1]), ([0, 0, 0, 1, 1, 1, 0, 0, 1, 1, 0, 0, 1, 0, 1, 1, 1], [32, 29, 31, 3, 5, 30, 14, 13, 12, 1]), ([0, 1, 0, 0, 1, 1, 1, 0, 0, 1, 1, 0, 0, 1, 0, 1, 1, 1], [29, 31, 3, 5, 30, 14, 13, 12, 1]), ([1, 0, 1, 0, 0, 1, 1, 1, 0, 0, 1, 1, 0, 0, 1, 0, 1, 1, 1], [14, 13, 12, 3, 1]), ([0, 0, 0, 1, 1, 0, 0, 1, 1, 1, 0, 0, 1, 1, 0, 0, 1, 0, 1, 1, 1], [3, 5, 7, 31, 30, 29, 14, 13, 12, 1]), ([1, 0, 0, 1, 1, 0, 0, 1, 1, 1, 0, 0, 1, 1, 0, 0, 1, 0, 1, 1, 1], [31, 30, 29, 3, 5, 14, 13, 12, 1]), ([0, 1, 1, 0, 0, 1, 1, 1, 0, 0, 1, 1, 0, 0, 1, 0, 1, 1, 1], [31, 30, 29, 3, 5, 14, 13, 12, 1]), ([1, 1, 1, 0, 0, 1, 1, 1, 0, 0, 1, 1, 0, 0, 1, 0, 1, 1, 1], [31, 30, 29, 3, 5, 14, 13, 12, 1]), ([1, 1, 1, 0, 0, 1, 1, 0, 0, 1, 0, 1, 1, 1], [14, 13, 12, 3, 1]), ([0, 1, 1, 0, 0, 1, 0, 1, 1, 1], [14, 13, 12, 3, 1]), ([1, 1, 1, 0, 0, 1, 0, 1, 1, 1], [14, 13, 12, 3, 1]), ([1, 0, 1, 1, 1], [3, 1]), ([0, 1, 1, 1, 1], [2]), ([1, 1, 1, 1, 1], [2])]

def z6o (N : Nat) : Env := z45 tys zm [(13, z47 N), (28, z7d N), (29, za8 N)] [(3, (.pair (.int .i64) (.pair .str (.pair (.int .i64) (.pair (.int .i64) (.pair .str .unit)))))), (2, (.pair (.int .i64) (.pair .str (.pair (.int .i64) (.pair (.int .i64) (.pair .str .unit))))))] [] [] false [] []

theorem zo2 (N : Nat) : EnvOk Go.Proofs.Try.prog (z6o N) := z16 mixed z28 (FnsOk.cons (z55 N) (FnsOk.cons (z86 N) (FnsOk.cons (zbu N) (FnsOk.nil)))) (ItsOk.nil)

def zgy (N : Nat) (s : ((List ((List UInt8) × (Int × (Int × ((List (Int × ((List UInt8) × Unit))) × Unit))))) × (Int × Unit))) (t : ((List UInt8) × (Int × (Int × ((List (Int × ((List UInt8) × Unit))) × Unit))))) (x12 : (List ((List UInt8) × (Int × (Int × ((List (Int × ((List UInt8) × Unit))) × Unit)))))) (x13 : Int) (x14 : Int) (x29 : (List (Int × ((List UInt8) × Unit)))) (x30 : Int) (l : (List (Int × ((List UInt8) × (Int × (Int × ((List UInt8) × Unit))))))) (x31 : Int) (rec : (List (Int × ((List UInt8) × (Int × (Int × ((List UInt8) × Unit)))))) -> Int -> Option (List (Int × ((List UInt8) × (Int × (Int × ((List UInt8) × Unit))))))) (k0 : (List (Int × ((List UInt8) × (Int × (Int × ((List UInt8) × Unit)))))) -> Option (List (Int × ((List UInt8) × (Int × (Int × ((List UInt8) × Unit))))))) : Option (List (Int × ((List UInt8) × (Int × (Int × ((List UInt8) × Unit)))))) :=
 cond (decide (x31 < x30))
 (cond (Go.Lift.inR x31 (List.length x29))
 (cond (decide ((((List.length l) + 1) * 56) <= 70368744177664))
 (rec (l ++ ([((2 : Int), (t.1, ((List.getD x29 (Int.toNat x31) ((0 : Int), (([] : List UInt8), ()))).1, ((0 : Int), ((List.getD x29 (Int.toNat x31) ((0 : Int), (([] : List UInt8), ()))).2.1, ())))))] : List (Int × ((List UInt8) × (Int × (Int × ((List UInt8) × Unit))))))) (Go.IntKind.wrap Go.IntKind.i64 (x31 + (1 : Int))))
 (none))
 (none))
 (k0 l)

def zqa (N : Nat) (s : ((List ((List UInt8) × (Int × (Int × ((List (Int × ((List UInt8) × Unit))) × Unit))))) × (Int × Unit))) (l : (List (Int × ((List UInt8) × (Int × (Int × ((List UInt8) × Unit))))))) (t : ((List UInt8) × (Int × (Int × ((List (Int × ((List UInt8) × Unit))) × Unit))))) (x12 : (List ((List UInt8) × (Int × (Int × ((List (Int × ((List UInt8) × Unit))) × Unit)))))) (x13 : Int) (x14 : Int) (x29 : (List (Int × ((List UInt8) × Unit)))) (x30 : Int) (x31 : Int) (k0 : (List (Int × ((List UInt8) × (Int × (Int × ((List UInt8) × Unit)))))) -> Option (List (Int × ((List UInt8) × (Int × (Int × ((List UInt8) × Unit))))))) : Option (List (Int × ((List UInt8) × (Int × (Int × ((List UInt8) × Unit)))))) :=
 iter (fun (v : ((List (Int × ((List UInt8) × (Int × (Int × ((List UInt8) × Unit)))))) × Int)) r => zgy N s t x12 x13 x14 x29 x30 v.1 v.2 (fun l x31 => (r (l, x31))) k0) N (l, x31)

def zh2 (N : Nat) (i : (((List ((List UInt8) × (Int × (Int × ((List (Int × ((List UInt8) × Unit))) × Unit))))) × (Int × Unit)) × ((List UInt8) × (Int × (Int × ((List (Int × ((List UInt8) × Unit))) × Unit)))) × (List ((List UInt8) × (Int × (Int × ((List (Int × ((List UInt8) × Unit))) × Unit))))) × Int × Int × (List (Int × ((List UInt8) × Unit))) × Int)) (v : ((List (Int × ((List UInt8) × (Int × (Int × ((List UInt8) × Unit)))))) × Int)) (r : ((List (Int × ((List UInt8) × (Int × (Int × ((List UInt8) × Unit)))))) × Int) -> Option (List (Int × ((List UInt8) × (Int × (Int × ((List UInt8) × Unit))))))) (K : Ex -> List A -> Option (List (Int × ((List UInt8) × (Int × (Int × ((List UInt8) × Unit))))))) : Option (List (Int × ((List UInt8) × (Int × (Int × ((List UInt8) × Unit)))))) :=
 zgy N i.1 i.2.1 i.2.2.1 i.2.2.2.1 i.2.2.2.2.1 i.2.2.2.2.2.1 i.2.2.2.2.2.2 v.1 v.2 (fun l x31 => (r (l, x31))) (fun a1 => (K (.exit 2) (mkS [(1, .box (.pair (.sl (.pair .str (.pair (.int .i64) (.pair (.int .i64) (.pair (.sl (.pair (.int .i64) (.pair .str .unit))) .unit))))) (.pair (.int .i64) .unit))), (1, .row (.pair (.int .i64) (.pair .str (.pair (.int .i64) (.pair (.int .i64) (.pair .str .unit)))))), (8, .v (.sl (.pair .str (.pair (.int .i64) (.pair (.int .i64) (.pair (.sl (.pair (.int .i64) (.pair .str .unit))) .unit)))))), (0, .v (.int .i64)), (0, .v (.int .i64))] 38 (i.1, a1, i.2.2.1, i.2.2.2.1, i.2.2.2.2.1, ()))))

def zh0 (N : Nat) : Hd (List (Int × ((List UInt8) × (Int × (Int × ((List UInt8) × Unit)))))) := fun st K => (unS [(1, .box (.pair (.sl (.pair .str (.pair (.int .i64) (.pair (.int .i64) (.pair (.sl (.pair (.int .i64) (.pair .str .unit))) .unit))))) (.pair (.int .i64) .unit))), (1, .row (.pair (.int .i64) (.pair .str (.pair (.int .i64) (.pair (.int .i64) (.pair .str .unit)))))), (1, .box (.pair .str (.pair (.int .i64) (.pair (.int .i64) (.pair (.sl (.pair (.int .i64) (.pair .str .unit))) .unit))))), (6, .v (.sl (.pair .str (.pair (.int .i64) (.pair (.int .i64) (.pair (.sl (.pair (.int .i64) (.pair .str .unit))) .unit)))))), (0, .v (.int .i64)), (0, .v (.int .i64)), (14, .v (.sl (.pair (.int .i64) (.pair .str .unit)))), (0, .v (.int .i64)), (0, .v (.int .i64))] 21 (restr [31, 30, 29, 3, 5, 14, 13, 12, 1] 0 st)).bind fun x => iter (fun v r => zh2 N ((fun x => (x.1, x.2.2.1, x.2.2.2.1, x.2.2.2.2.1, x.2.2.2.2.2.1, x.2.2.2.2.2.2.1, x.2.2.2.2.2.2.2.1)) x) v r K) N ((fun x => (x.2.1, x.2.2.2.2.2.2.2.2.1)) x)

def zq8 (N : Nat) : Tab (List (Int × ((List UInt8) × (Int × (Int × ((List UInt8) × Unit)))))) := []

theorem zo0 {N : Nat} {c : Ctx} (hb : Base Go.Proofs.Try.prog (z6o N) c) : z1b Go.Proofs.Try.prog c (zp z3p [0, 1, 1, 1, 0, 0, 1, 1, 0, 0, 1, 0, 1, 1, 1]) (zh0 N) :=
  z9d (s := [(1, .box (.pair (.sl (.pair .str (.pair (.int .i64) (.pair (.int .i64) (.pair (.sl (.pair (.int .i64) (.pair .str .unit))) .unit))))) (.pair (.int .i64) .unit))), (1, .row (.pair (.int .i64) (.pair .str (.pair (.int .i64) (.pair (.int .i64) (.pair .str .unit)))))), (1, .box (.pair .str (.pair (.int .i64) (.pair (.int .i64) (.pair (.sl (.pair (.int .i64) (.pair .str .unit))) .unit))))), (6, .v (.sl (.pair .str (.pair (.int .i64) (.pair (.int .i64) (.pair (.sl (.pair (.int .i64) (.pair .str .unit))) .unit)))))), (0, .v (.int .i64)), (0, .v (.int .i64)), (14, .v (.sl (.pair (.int .i64) (.pair .str .unit)))), (0, .v (.int .i64)), (0, .v (.int .i64))]) (m := 21) (zh2 N) [31, 30, 29, 3, 5, 14, 13, 12, 1] N (fun x => (x.1, x.2.2.1, x.2.2.2.1, x.2.2.2.2.1, x.2.2.2.2.2.1, x.2.2.2.2.2.2.1, x.2.2.2.2.2.2.2.1)) (fun x => (x.2.1, x.2.2.2.2.2.2.2.2.1)) (fun i v => (i.1, v.1, i.2.1, i.2.2.1, i.2.2.2.1, i.2.2.2.2.1, i.2.2.2.2.2.1, i.2.2.2.2.2.2, v.2, ())) (fun _ => rfl) (zo hb N (zq8 N) z8t z3p TabOk.nil [0, 0, 1, 1, 1, 0, 0, 1, 1, 0, 0, 1, 0, 1, 1, 1] _ rfl) (fun i v r K => by kernel_rfl)

def zgz (N : Nat) (s : ((List ((List UInt8) × (Int × (Int × ((List (Int × ((List UInt8) × Unit))) × Unit))))) × (Int × Unit))) (x12 : (List ((List UInt8) × (Int × (Int × ((List (Int × ((List UInt8) × Unit))) × Unit)))))) (x13 : Int) (l : (List (Int × ((List UInt8) × (Int × (Int × ((List UInt8) × Unit))))))) (x14 : Int) (rec : (List (Int × ((List UInt8) × (Int × (Int × ((List UInt8) × Unit)))))) -> Int -> Option (List (Int × ((List UInt8) × (Int × (Int × ((List UInt8) × Unit))))))) (k0 : (List (Int × ((List UInt8) × (Int × (Int × ((List UInt8) × Unit)))))) -> Option (List (Int × ((List UInt8) × (Int × (Int × ((List UInt8) × Unit))))))) : Option (List (Int × ((List UInt8) × (Int × (Int × ((List UInt8) × Unit)))))) :=
 cond (decide (x14 < x13))
 (cond (Go.Lift.inR x14 (List.length x12))
 (cond (decide ((((List.length l) + 1) * 56) <= 70368744177664))
 (zqa N s (l ++ ([((1 : Int), ((List.getD x12 (Int.toNat x14) (([] : List UInt8), ((0 : Int), ((0 : Int), (([] : List (Int × ((List UInt8) × Unit))), ()))))).1, ((List.getD x12 (Int.toNat x14) (([] : List UInt8), ((0 : Int), ((0 : Int), (([] : List (Int × ((List UInt8) × Unit))), ()))))).2.2.1, ((List.getD x12 (Int.toNat x14) (([] : List UInt8), ((0 : Int), ((0 : Int), (([] : List (Int × ((List UInt8) × Unit))), ()))))).2.1, (([] : List UInt8), ())))))] : List (Int × ((List UInt8) × (Int × (Int × ((List UInt8) × Unit))))))) (List.getD x12 (Int.toNat x14) (([] : List UInt8), ((0 : Int), ((0 : Int), (([] : List (Int × ((List UInt8) × Unit))), ()))))) x12 x13 x14 (List.getD x12 (Int.toNat x14) (([] : List UInt8), ((0 : Int), ((0 : Int), (([] : List (Int × ((List UInt8) × Unit))), ()))))).2.2.2.1 (((List.length (List.getD x12 (Int.toNat x14) (([] : List UInt8), ((0 : Int), ((0 : Int), (([] : List (Int × ((List UInt8) × Unit))), ()))))).2.2.2.1) : Nat) : Int) (0 : Int)
 (fun l1 => rec l1 (Go.IntKind.wrap Go.IntKind.i64 (x14 + (1 : Int)))))
 (none))
 (none))
 (k0 l)

def zqb (N : Nat) (s : ((List ((List UInt8) × (Int × (Int × ((List (Int × ((List UInt8) × Unit))) × Unit))))) × (Int × Unit))) (l : (List (Int × ((List UInt8) × (Int × (Int × ((List UInt8) × Unit))))))) (x12 : (List ((List UInt8) × (Int × (Int × ((List (Int × ((List UInt8) × Unit))) × Unit)))))) (x13 : Int) (x14 : Int) (k0 : (List (Int × ((List UInt8) × (Int × (Int × ((List UInt8) × Unit)))))) -> Option (List (Int × ((List UInt8) × (Int × (Int × ((List UInt8) × Unit))))))) : Option (List (Int × ((List UInt8) × (Int × (Int × ((List UInt8) × Unit)))))) :=
 iter (fun (v : ((List (Int × ((List UInt8) × (Int × (Int × ((List UInt8) × Unit)))))) × Int)) r => zgz N s x12 x13 v.1 v.2 (fun l x14 => (r (l, x14))) k0) N (l, x14)

def zh3 (N : Nat) (i : (((List ((List UInt8) × (Int × (Int × ((List (Int × ((List UInt8) × Unit))) × Unit))))) × (Int × Unit)) × (List ((List UInt8) × (Int × (Int × ((List (Int × ((List UInt8) × Unit))) × Unit))))) × Int)) (v : ((List (Int × ((List UInt8) × (Int × (Int × ((List UInt8) × Unit)))))) × Int)) (r : ((List (Int × ((List UInt8) × (Int × (Int × ((List UInt8) × Unit)))))) × Int) -> Option (List (Int × ((List UInt8) × (Int × (Int × ((List UInt8) × Unit))))))) (K : Ex -> List A -> Option (List (Int × ((List UInt8) × (Int × (Int × ((List UInt8) × Unit))))))) : Option (List (Int × ((List UInt8) × (Int × (Int × ((List UInt8) × Unit)))))) :=
 zgz N i.1 i.2.1 i.2.2 v.1 v.2 (fun l x14 => (r (l, x14))) (fun a1 => (K (.exit 0) (mkS [(1, .box (.pair (.sl (.pair .str (.pair (.int .i64) (.pair (.int .i64) (.pair (.sl (.pair (.int .i64) (.pair .str .unit))) .unit))))) (.pair (.int .i64) .unit))), (1, .row (.pair (.int .i64) (.pair .str (.pair (.int .i64) (.pair (.int .i64) (.pair .str .unit))))))] 49 (i.1, a1, ()))))

def zh1 (N : Nat) : Hd (List (Int × ((List UInt8) × (Int × (Int × ((List UInt8) × Unit)))))) := fun st K => (unS [(1, .box (.pair (.sl (.pair .str (.pair (.int .i64) (.pair (.int .i64) (.pair (.sl (.pair (.int .i64) (.pair .str .unit))) .unit))))) (.pair (.int .i64) .unit))), (1, .row (.pair (.int .i64) (.pair .str (.pair (.int .i64) (.pair (.int .i64) (.pair .str .unit)))))), (8, .v (.sl (.pair .str (.pair (.int .i64) (.pair (.int .i64) (.pair (.sl (.pair (.int .i64) (.pair .str .unit))) .unit)))))), (0, .v (.int .i64)), (0, .v (.int .i64))] 38 (restr [14, 13, 12, 3, 1] 0 st)).bind fun x => iter (fun v r => zh3 N ((fun x => (x.1, x.2.2.1, x.2.2.2.1)) x) v r K) N ((fun x => (x.2.1, x.2.2.2.2.1)) x)

def zq9 (N : Nat) : Tab (List (Int × ((List UInt8) × (Int × (Int × ((List UInt8) × Unit)))))) := [([0, 1, 1, 1, 0, 0, 1, 1, 0, 0, 1, 0, 1, 1, 1], zh0 N)]

theorem zo1 {N : Nat} {c : Ctx} (hb : Base Go.Proofs.Try.prog (z6o N) c) : z1b Go.Proofs.Try.prog c (zp z3p [0, 1, 0, 1, 1, 1]) (zh1 N) :=
  z9d (s := [(1, .box (.pair (.sl (.pair .str (.pair (.int .i64) (.pair (.int .i64) (.pair (.sl (.pair (.int .i64) (.pair .str .unit))) .unit))))) (.pair (.int .i64) .unit))), (1, .row (.pair (.int .i64) (.pair .str (.pair (.int .i64) (.pair (.int .i64) (.pair .str .unit)))))), (8, .v (.sl (.pair .str (.pair (.int .i64) (.pair (.int .i64) (.pair (.sl (.pair (.int .i64) (.pair .str .unit))) .unit)))))), (0, .v (.int .i64)), (0, .v (.int .i64))]) (m := 38) (zh3 N) [14, 13, 12, 3, 1] N (fun x => (x.1, x.2.2.1, x.2.2.2.1)) (fun x => (x.2.1, x.2.2.2.2.1)) (fun i v => (i.1, v.1, i.2.1, i.2.2, v.2, ())) (fun _ => rfl) (zo hb N (zq9 N) z8t z3p (TabOk.cons (zo0 hb) TabOk.nil) [0, 0, 1, 0, 1, 1, 1] _ rfl) (fun i v r K => by kernel_rfl)

def zia (N : Nat) (s : ((List ((List UInt8) × (Int × (Int × ((List (Int × ((List UInt8) × Unit))) × Unit))))) × (Int × Unit))) : Option (List (Int × ((List UInt8) × (Int × (Int × ((List UInt8) × Unit)))))) :=
 (z3h N s).bind fun y =>
 cond (!y)
 (some ([] : List (Int × ((List UInt8) × (Int × (Int × ((List UInt8) × Unit)))))))
 (zqb N s ([] : List (Int × ((List UInt8) × (Int × (Int × ((List UInt8) × Unit)))))) s.1 (((List.length s.1) : Nat) : Int) (0 : Int)
 (fun l => cond (decide ((((List.length l) + 1) * 56) <= 70368744177664))
 (some (l ++ ([((4 : Int), (([] : List UInt8), (s.2.1, ((0 : Int), (([] : List UInt8), ())))))] : List (Int × ((List UInt8) × (Int × (Int × ((List UInt8) × Unit))))))))
 (none)))

def zjo (N : Nat) : Tab (List (Int × ((List UInt8) × (Int × (Int × ((List UInt8) × Unit)))))) := [([0, 1, 0, 1, 1, 1], zh1 N)]

theorem zm5 (N : Nat) (x : z2g [(0, .v (.pair (.sl (.pair .str (.pair (.int .i64) (.pair (.int .i64) (.pair (.sl (.pair (.int .i64) (.pair .str .unit))) .unit))))) (.pair (.int .i64) .unit)))]) : zc7 (z6o N) N (zjo N) z8t Go.Proofs.Try.f11 (mkS [(0, .v (.pair (.sl (.pair .str (.pair (.int .i64) (.pair (.int .i64) (.pair (.sl (.pair (.int .i64) (.pair .str .unit))) .unit))))) (.pair (.int .i64) .unit)))] 0 x) (z6g (.v (.sl (.pair (.int .i64) (.pair .str (.pair (.int .i64) (.pair (.int .i64) (.pair .str .unit))))))) 1) = zia N x.1 := by kernel_rfl

def zfa (N : Nat) : List A -> Res := z1z [(0, .v (.pair (.sl (.pair .str (.pair (.int .i64) (.pair (.int .i64) (.pair (.sl (.pair (.int .i64) (.pair .str .unit))) .unit))))) (.pair (.int .i64) .unit)))] (fun x => zia N x.1) (z51 (.v (.sl (.pair (.int .i64) (.pair .str (.pair (.int .i64) (.pair (.int .i64) (.pair .str .unit))))))) 1)

theorem zqc (N : Nat) : Contract Go.Proofs.Try.prog zm 11 (zfa N) :=
  Contract.of (E := z6o N) (H := zjo N) (L := z8t) (N := N) (body := z3p) (K := (z6g (.v (.sl (.pair (.int .i64) (.pair .str (.pair (.int .i64) (.pair (.int .i64) (.pair .str .unit))))))) 1)) (zo2 N) Go.Proofs.Try.func11 (by kernel_rfl) (by decide) (fun _ hb => (TabOk.cons (zo1 hb) TabOk.nil)) (fun x y h => by rw [zm5]; exact h) (z20 (s := (.v (.sl (.pair (.int .i64) (.pair .str (.pair (.int .i64) (.pair (.int .i64) (.pair .str .unit)))))))) (m := 1))

end
end Go.Proofs.YtlohplpnhopldaaLg

set_option linter.all false
set_option maxRecDepth 100000
namespace Go.Lift
noncomputable section

structure NSt (w0 : World) (S0 : Hp) (w : World) (S : Hp) (L : List (Nat × Array Value × Nat)) : Prop where
  wf : WF w0 (fun _ => False) w
  sub : Sub S0 S
  inw : Sub S (hp w)
  new : ∀ k, S k ≠ none -> S0 k ≠ none \/ w0.heap.size <= k
  own : ∀ p ∈ L, S p.1 = none /\ w0.heap.size <= p.1 /\ w.heap[p.1]? = some (.cells p.2.1 p.2.2 (0, 0))

variable {P : Program} {glob : Nat -> Option Dat} {w0 w : World} {S0 S : Hp} {L : List (Nat × Array Value × Nat)}

theorem NSt.start (hS : Sub S0 (hp w)) : NSt w S0 w S0 [] := ⟨WF.refl _ _, Sub.refl _, hS, fun _ h => .inl h, fun p hp => by cases hp⟩

theorem NSt.lt (h : NSt w0 S0 w S L) : ∀ p ∈ L, p.1 < w.heap.size := fun p hp => (Array.getElem?_eq_some_iff.1 (h.own p hp).2.2).1

theorem NSt.drew (h : NSt w0 S0 w S L) : NSt w0 S0 w.drew S L := ⟨⟨h.wf.size, h.wf.same, h.wf.tape, h.wf.os, h.wf.output⟩, h.sub, h.inw, h.new, h.own⟩

theorem NSt.swap {L' : List (Nat × Array Value × Nat)} (h : NSt w0 S0 w S L) (hm : ∀ p ∈ L', p ∈ L) : NSt w0 S0 w S L' := ⟨h.wf, h.sub, h.inw, h.new, fun p hp => h.own p (hm p hp)⟩

theorem NSt.cell (h : NSt w0 S0 w S L) {p : Nat} {cs : Array Value} {E i : Nat} {v : Value} (hm : (p, cs, E) ∈ L) (hi : cs[i]? = some v) : w.cell? ⟨p, i, none⟩ = some v := by
  have := (h.own _ hm).2.2
  simp only at this
  simp [World.cell?, this, hi]

theorem NSt.free (h : NSt w0 S0 w S L) {p : Nat} {cs : Array Value} {E i : Nat} (hm : (p, cs, E) ∈ L) : w.frozen? ⟨p, i, none⟩ = false := by
  have := (h.own _ hm).2.2
  simp only at this
  simp [World.frozen?, this]

theorem NSt.alloc (h : NSt w0 S0 w S L) (cs : Array Value) (E : Nat) : NSt w0 S0 (w.alloc (.cells cs E)) S ((w.heap.size, cs, E) :: L) := by
  have hlt := h.lt
  have hh : (w.alloc (.cells cs E)).heap = w.heap.push (.cells cs E (0, 0)) := rfl
  have hk : ∀ k, k < w.heap.size -> (w.alloc (.cells cs E)).heap[k]? = w.heap[k]? := fun k hk => by
    rw [hh, Array.getElem?_push, if_neg (by omega)]
  refine ⟨⟨by rw [hh, Array.size_push]; have := h.wf.size; omega, fun k h1' h2' => by rw [hk k (by have := h.wf.size; omega)]; exact h.wf.same k h1' h2', h.wf.tape, h.wf.os, h.wf.output⟩, h.sub, fun k q ho => ?_, h.new, fun p hpm => ?_⟩
  . have := h.inw k q ho
    simp only [hp] at this ⊢
    rw [hk k (Array.getElem?_eq_some_iff.1 this).1]
    exact this
  . rcases List.mem_cons.1 hpm with rfl | hpm
    . refine ⟨?_, h.wf.size, ?_⟩
      . cases hs : S w.heap.size with
        | none => rfl
        | some q =>
          have := h.inw _ _ hs
          simp only [hp] at this
          have := (Array.getElem?_eq_some_iff.1 this).1
          omega
      . simp only
        rw [hh, Array.getElem?_push, if_pos rfl]
    . obtain ⟨p1, p3, p4⟩ := h.own p hpm
      exact ⟨p1, p3, by rw [hk p.1 (hlt p hpm)]; exact p4⟩

theorem zsu (w : World) (o : Obj) : w.heap.size + 1 = (w.alloc o).heap.size := by
  show _ = (w.heap.push _).size
  rw [Array.size_push]

theorem NSt.new' (h : NSt w0 S0 w S L) {p : Nat} (hp : p = w.heap.size) (cs : Array Value) (E : Nat) : NSt w0 S0 (w.alloc (.cells cs E)) S ((p, cs, E) :: L) := by
  subst hp; exact h.alloc cs E

theorem NSt.set {p : Nat} {cs : Array Value} {E : Nat} (h : NSt w0 S0 w S ((p, cs, E) :: L)) (hd : ∀ q ∈ L, q.1 ≠ p) (i : Nat) (v : Value) :
    NSt w0 S0 (w.setCell ⟨p, i, none⟩ v) S ((p, cs.setIfInBounds i v, E) :: L) := by
  obtain ⟨q1, q3, q4⟩ := h.own (p, cs, E) (List.mem_cons_self ..)
  simp only at q1 q3 q4
  have hw := zhv (off := i) v (show hp w p = some (.cells cs E (0, 0)) from q4)
  obtain ⟨w', hw'⟩ : ∃ w', w' = w.setCell ⟨p, i, none⟩ v := ⟨_, rfl⟩
  rw [<- hw'] at hw ⊢
  have hne : ∀ k, k ≠ p -> w'.heap[k]? = w.heap[k]? := fun k hk => by
    have := zl (w := w) (o := .cells (cs.setIfInBounds i v) E (0, 0)) hk
    rw [hw]; exact this
  have hsz : w'.heap.size = w.heap.size := by rw [hw]; simp [z15]
  refine ⟨⟨by rw [hsz]; exact h.wf.size, fun k h1' h2' => by rw [hne k (by omega)]; exact h.wf.same k h1' h2', by rw [hw]; exact h.wf.tape, by rw [hw]; exact h.wf.os, by rw [hw]; exact h.wf.output⟩, h.sub, fun k q ho => ?_, h.new, fun u hu => ?_⟩
  . have hk : k ≠ p := fun e => by rw [e, q1] at ho; cases ho
    have := h.inw k q ho
    simp only [hp] at this ⊢
    rw [hne k hk]
    exact this
  . rcases List.mem_cons.1 hu with rfl | hu
    . refine ⟨q1, q3, ?_⟩
      rw [hw]
      exact z1n q4
    . obtain ⟨p1, p3, p4⟩ := h.own u (List.mem_cons_of_mem _ hu)
      exact ⟨p1, p3, by rw [hne u.1 (hd u hu)]; exact p4⟩

theorem NSt.give {p : Nat} {cs : Array Value} {E : Nat} (h : NSt w0 S0 w S ((p, cs, E) :: L)) (hd : ∀ q ∈ L, q.1 ≠ p) :
    NSt w0 S0 w (fun k => if k = p then some (.cells cs E (0, 0)) else S k) L /\ Sub S (fun k => if k = p then some (.cells cs E (0, 0)) else S k) := by
  obtain ⟨q1, q3, q4⟩ := h.own (p, cs, E) (List.mem_cons_self ..)
  simp only at q1 q3 q4
  have hs : Sub S (fun k => if k = p then some (.cells cs E (0, 0)) else S k) := fun k o hk => by
    refine (if_neg (fun e => ?_)).trans hk
    rw [e, q1] at hk; cases hk
  refine ⟨⟨h.wf, h.sub.trans hs, fun k o hk => ?_, fun k hk => ?_, fun u hu => ?_⟩, hs⟩
  . split at hk
    . subst_vars
      simp only [hp]
      rw [q4]; exact hk
    . exact h.inw k o hk
  . split at hk
    . subst_vars; exact .inr q3
    . exact h.new k hk
  . obtain ⟨p1, p3, p4⟩ := h.own u (List.mem_cons_of_mem _ hu)
    exact ⟨by rw [if_neg (hd u hu)]; exact p1, p3, p4⟩

theorem NSt.plain {f : FuncId} {g : List A -> Res} (ct : Contract P glob f g) (hg : GlobOk glob S) (h : NSt w0 S0 w S L) {args : List A} {vals : List Value}
    (hrel : ArgsRel (hp w) S args vals (fun _ => [])) {y : (g args).X} (hy : (g args).val = some y) :
    Calls P f vals.toArray w fun e w' => ∃ v S' o', e = .returned v /\ ARel (hp w') S' (fun _ => undef) ((g args).out y).1 v o' /\ Sub S S' /\ NSt w0 S0 w' S' L := by
  refine ((ct.2 w S args vals _ hrel h.inw hg y hy)).mono ?_
  rintro e w' ⟨v, S', q, ob', rfl, hwf, hSS, hSw, hnew, ⟨hr, _⟩, _⟩
  refine ⟨v, S', q, rfl, hr, hSS, ?_⟩
  have hwf' : WF w (fun _ => False) w' := ⟨hwf.size, fun k hk _ => hwf.same k hk (by rintro ⟨i, hi⟩; cases hi), hwf.tape, hwf.os, hwf.output⟩
  have hnw : ∀ k, k < w.heap.size -> S' k ≠ none -> S k ≠ none := fun k hk hs => by
    rcases hnew k hs with h | ⟨i, hi⟩ | h
    . exact h
    . cases hi
    . omega
  refine ⟨h.wf.trans hwf' (fun _ h => h.elim), h.sub.trans hSS, hSw, fun k hk => ?_, fun p hp => ?_⟩
  . rcases hnew k hk with h' | ⟨i, hi⟩ | h'
    . exact h.new k h'
    . cases hi
    . exact .inr (Nat.le_trans h.wf.size h')
  . obtain ⟨p1, p3, p4⟩ := h.own p hp
    have hl := (Array.getElem?_eq_some_iff.1 p4).1
    refine ⟨?_, p3, ?_⟩
    . cases hs : S' p.1 with
      | none => rfl
      | some q => exact absurd p1 (hnw _ hl (by rw [hs]; simp))
    . rw [hwf'.same p.1 hl (fun h => h)]; exact p4

theorem NSt.ends {args outs : List A} {vals : List Value} {ob : Nat -> List Nat} {r : A} {v : Value} (h : NSt w0 S0 w S L) (hob : ∀ i, ob i = []) (hargs : ∀ y ∈ args, z41 y = false)
    (hr : ARel (hp w) S (fun _ => undef) r v []) (hrr : r.refs = []) : Ends w0 S0 args vals ob r outs (.returned v) w := by
  refine ⟨v, S, [], fun _ => [], rfl, ⟨h.wf.size, fun k hk _ => h.wf.same k hk (fun h => h), h.wf.tape, h.wf.os, h.wf.output⟩, h.sub, h.inw, fun k hk => ?_, ⟨hr, hrr⟩, (fun k hk => by cases hk), .nil, fun i y hy hbx => ?_, (fun i k hk => by cases hk), (fun i j k hi => by cases hi), fun i => .nil, fun i hi => rfl⟩
  . rcases h.new k hk with h | h
    . exact .inl h
    . exact .inr (.inr h)
  . have := hargs y (List.mem_of_getElem? hy)
    rw [hbx] at this; cases this

theorem NSt.lend3 {f : FuncId} {g : List A -> Res} (ct : ContractD P glob f g) (hg : GlobOk glob S) {t0 t1 t2 : T} {x0 : t0.den} {x1 : t1.den} {x2 : t2.den} {p0 p1 p2 E0 E1 E2 : Nat} {c0 c1 c2 : Array Value}
    (h : NSt w0 S0 w S ((p0, c0, E0) :: (p1, c1, E1) :: (p2, c2, E2) :: L)) (h01 : p0 ≠ p1) (h02 : p0 ≠ p2) (h12 : p1 ≠ p2) (r0 : Rd S t0 x0 c0.toList) (r1 : Rd S t1 x1 c1.toList) (r2 : Rd S t2 x2 c2.toList)
    (n0 : noOwn t0 = true) (n1 : noOwn t1 = true) (n2 : noOwn t2 = true) {y : (g [.box t0 x0, .box t1 x1, .box t2 x2]).X} (hy : (g [.box t0 x0, .box t1 x1, .box t2 x2]).val = some y) {y0 : t0.den} {y1 : t1.den} {y2 : t2.den}
    (ho : ((g [.box t0 x0, .box t1 x1, .box t2 x2]).out y).2 = [.box t0 y0, .box t1 y1, .box t2 y2]) :
    CallsD P f #[.pointer (some ⟨p0, 0, none⟩), .pointer (some ⟨p1, 0, none⟩), .pointer (some ⟨p2, 0, none⟩)] .returning w fun e u w' => (∃ v, e = .returned v) /\ u = .returning /\ ∃ S' d1 d2 F1 F2 q1 q2, Sub S S' /\ NSt w0 S0 w' S' [] ∧
      w'.heap[p1]? = some (.cells d1 F1 q1) /\ w'.heap[p2]? = some (.cells d2 F2 q2) /\ Rd S' t1 y1 d1.toList /\ Rd S' t2 y2 d2.toList := by
  obtain ⟨a1, a3, a4⟩ := h.own (p0, c0, E0) (by simp)
  obtain ⟨b1, b3, b4⟩ := h.own (p1, c1, E1) (by simp)
  obtain ⟨e1, e3, e4⟩ := h.own (p2, c2, E2) (by simp)
  simp only at a1 a3 a4 b1 b3 b4 e1 e3 e4
  have har : ArgsRel (hp w) S [.box t0 x0, .box t1 x1, .box t2 x2] [.pointer (some ⟨p0, 0, none⟩), .pointer (some ⟨p1, 0, none⟩), .pointer (some ⟨p2, 0, none⟩)] (fun i => match i with | 0 => [p0] | 1 => [p1] | 2 => [p2] | _ => []) := by
    refine ⟨rfl, fun i x hx => ?_, fun i hi => ?_, fun i j b hi hj => ?_, fun i => ?_, fun i b hb => ?_⟩
    . match i with
      | 0 => simp at hx; subst hx; exact ⟨⟨_, rfl, ⟨p0, c0, E0, (0, 0), [], rfl, rfl, a4, z8g _, RdO.of_rd t0 x0 _ r0⟩⟩, rfl⟩
      | 1 => simp at hx; subst hx; exact ⟨⟨_, rfl, ⟨p1, c1, E1, (0, 0), [], rfl, rfl, b4, z8g _, RdO.of_rd t1 x1 _ r1⟩⟩, rfl⟩
      | 2 => simp at hx; subst hx; exact ⟨⟨_, rfl, ⟨p2, c2, E2, (0, 0), [], rfl, rfl, e4, z8g _, RdO.of_rd t2 x2 _ r2⟩⟩, rfl⟩
      | i + 3 => simp at hx
    . match i with
      | 0 => simp at hi
      | 1 => simp at hi
      | 2 => simp at hi
      | i + 3 => rfl
    . match i, j with
      | 0, 0 => rfl
      | 1, 1 => rfl
      | 2, 2 => rfl
      | i + 3, _ => cases hi
      | 0, 1 => simp at hi hj; omega
      | 0, 2 => simp at hi hj; omega
      | 1, 0 => simp at hi hj; omega
      | 1, 2 => simp at hi hj; omega
      | 2, 0 => simp at hi hj; omega
      | 2, 1 => simp at hi hj; omega
      | 0, j + 3 => cases hj
      | 1, j + 3 => cases hj
      | 2, j + 3 => cases hj
    . match i with
      | 0 => simp
      | 1 => simp
      | 2 => simp
      | i + 3 => exact .nil
    . match i with
      | 0 => simp at hb; subst hb; exact a1
      | 1 => simp at hb; subst hb; exact b1
      | 2 => simp at hb; subst hb; exact e1
      | i + 3 => cases hb
  have hbl : ∀ b, (∃ i, b ∈ (fun i => match i with | 0 => [p0] | 1 => [p1] | 2 => [p2] | _ => [] : Nat -> List Nat) i) -> w0.heap.size <= b := by
    rintro b ⟨i, hi⟩
    match i with
    | 0 => simp at hi; omega
    | 1 => simp at hi; omega
    | 2 => simp at hi; omega
    | i + 3 => simp at hi
  refine CallsD.mono (ct w S _ _ _ har h.inw hg y hy) ?_
  rintro e u w' ⟨rfl, v, S', q, ob', rfl, hwf, hSS, hSw, hnew, _, _, _, houts, _⟩
  refine ⟨⟨v, rfl⟩, rfl, S', ?_⟩
  rw [ho] at houts
  obtain ⟨z1, v1, hz1, hv1, _, hA1⟩ := houts 1 _ rfl rfl
  obtain ⟨z2, v2, hz2, hv2, _, hA2⟩ := houts 2 _ rfl rfl
  simp at hz1 hv1 hz2 hv2
  subst hz1; subst hv1; subst hz2; subst hv2
  obtain ⟨b1', d1, F1, q1, bs1, _, g1, hb1, _, hr1⟩ := hA1
  obtain ⟨b2', d2, F2, q2, bs2, _, g2, hb2, _, hr2⟩ := hA2
  cases g1; cases g2
  refine ⟨d1, d2, F1, F2, q1, q2, hSS, ⟨⟨by have := h.wf.size; have := hwf.size; omega, fun k hk _ => ?_, hwf.tape.trans h.wf.tape, hwf.os.trans h.wf.os, hwf.output.trans h.wf.output⟩, h.sub.trans hSS, hSw, fun k hk => ?_, fun p hp => by cases hp⟩, hb1, hb2, (RdO.rd t1 y1 _ _ n1 hr1).2, (RdO.rd t2 y2 _ _ n2 hr2).2⟩
  . rw [hwf.same k (Nat.lt_of_lt_of_le hk h.wf.size) (fun hh => by have := hbl k hh; omega)]
    exact h.wf.same k hk (fun h => h)
  . rcases hnew k hk with h' | h' | h'
    . exact h.new k h'
    . exact .inr (hbl k h')
    . exact .inr (Nat.le_trans h.wf.size h')

end
end Go.Lift

set_option linter.all false
set_option maxRecDepth 100000
namespace Go.Proofs.YtlohplpnhopldaaLg
noncomputable section
open Go Go.Lift Go.Proofs

def zix (l : List EvT.den) : List Value := l.flatMap fun e => [.int .i64 e.1, .string ⟨⟨e.2.1⟩⟩, .int .i64 e.2.2.1, .int .i64 e.2.2.2.1, .string ⟨⟨e.2.2.2.2.1⟩⟩]

theorem z11b {S : Hp} : ∀ (l : List EvT.den), All (Rd S EvT) l (zix l)
  | [] => rfl
  | e :: l => ⟨[.int .i64 e.1, .string ⟨⟨e.2.1⟩⟩, .int .i64 e.2.2.1, .int .i64 e.2.2.2.1, .string ⟨⟨e.2.2.2.2.1⟩⟩], zix l, rfl, ⟨[_], [_, _, _, _], rfl, rfl, [_], [_, _, _], rfl, rfl, [_], [_, _], rfl, rfl, [_], [_], rfl, rfl, [_], [], rfl, rfl, rfl⟩, z11b l⟩

theorem z10i {S : Hp} {b n : Nat} {l : List EvT.den} {cs : Array Value} {E : Nat} {fr : Nat × Nat} (hS : S b = some (.cells cs E fr)) (hc : cs.toList = zix l) (hn : n = l.length) : VR S (.sl EvT) l (.slice (some ⟨b, 0, none⟩) n n) := by
  subst hn
  exact VR.of_one rfl ⟨_, l.length, rfl, Nat.le_refl _, .inr ⟨b, 0, zix l, rfl, ⟨_, _, _, [], [], hS, by simp [hc], rfl⟩, z11b l⟩⟩

abbrev PlT : List T := [.sl EvT, .int .i64]

theorem zxl (N : Nat) {f : FuncId} (ct : ContractD Go.Proofs.Try.prog zm f (z49 N)) {w0 w : World} {S0 S : Hp} {L : List (Nat × Array Value × Nat)} {ts : List TenT.den} {sv : Value} {ser : Int} {l : List EvT.den} {lv : Value} {c : Int} {z : List EvT.den × (Int × Unit)} {p0 p1 p2 : Nat}
    (h : NSt w0 S0 w S ((p0, #[sv, .int .i64 ser], 24) :: (p1, #[lv], 28) :: (p2, #[.int .i64 c], 29) :: L)) (h01 : p0 ≠ p1) (h02 : p0 ≠ p2) (h12 : p1 ≠ p2)
    (hs : VR S (.sl TenT) ts sv) (hl : VR S (.sl EvT) l lv) (hz : z18 N (ts, (ser, ())) l c = some z) {vals : List Value} {ob : Nat -> List Nat} {args : List A} (hob : ∀ i, ob i = []) (hargs : ∀ y ∈ args, z41 y = false) :
    CallsD Go.Proofs.Try.prog f #[.pointer (some ⟨p0, 0, none⟩), .pointer (some ⟨p1, 0, none⟩), .pointer (some ⟨p2, 0, none⟩)] .returning w fun r u w7 => (∃ v, r = .returned v) /\ u = .returning /\ ∃ q : Value, w7.cell? ⟨p1, 0, none⟩ = some q /\ w7.cell? ⟨p2, 0, none⟩ = some (.int .i64 z.2.1) ∧
      Lift.Ends w0 S0 args vals ob (z51 (.tup PlT) 2 z).1 (z51 (.tup PlT) 2 z).2 (.returned (.tuple #[q, .int .i64 z.2.1])) w7 := by
  have r0 : Rd S StT (ts, (ser, ())) #[sv, .int .i64 ser].toList := ⟨[sv], [.int .i64 ser], rfl, hs, [.int .i64 ser], [], rfl, rfl, rfl⟩
  have hy : (z49 N [.box StT (ts, (ser, ())), .box (.sl EvT) l, .box (.int .i64) c]).val = some ((), ((ts, (ser, ())), (z.1, (z.2.1, ())))) := by
    show z8s N (ts, (ser, ())) l c = some _
    rw [z8s, hz]; rfl
  have hb := NSt.lend3 ct (z6b S) (t0 := StT) (t1 := .sl EvT) (t2 := .int .i64) (x0 := (ts, (ser, ()))) (x1 := l) (x2 := c) (y0 := (ts, (ser, ()))) (y1 := z.1) (y2 := z.2.1) h h01 h02 h12 r0 hl rfl rfl rfl rfl hy rfl
  refine CallsD.mono hb ?_
  rintro r u w7 ⟨hr, rfl, S', d1, d2, F1, F2, q1, q2, hSS, hN, g1, g2, k1, k2⟩
  have k2' : d2.toList = [.int .i64 z.2.1] := k2
  have e2 : d2 = #[.int .i64 z.2.1] := by apply Array.toList_inj.1; rw [k2']
  subst e2
  have hlen := k1.length
  obtain ⟨q, hq⟩ := List.length_eq_one_iff.1 (hlen.trans rfl)
  have e1 : d1 = #[q] := by apply Array.toList_inj.1; rw [hq]
  subst e1
  refine ⟨hr, rfl, q, by simp [World.cell?, g1], by simp [World.cell?, g2], hN.ends hob hargs ⟨rfl, _, rfl, .cons k1 (.cons VR.int .nil)⟩ rfl⟩

structure PSt (w : World) (S0 : Hp) (W : World) (S : Hp) (p0 p1 p2 : Nat) (sv : Value) (ser : Int) (lv : Value) (c : Int) (L : List (Nat × Array Value × Nat)) : Prop where
  st : NSt w S0 W S ((p0, #[sv, .int .i64 ser], 24) :: (p1, #[lv], 28) :: (p2, #[.int .i64 c], 29) :: L)
  d01 : p0 ≠ p1
  d02 : p0 ≠ p2
  d12 : p1 ≠ p2
  far : ∀ q ∈ L, q.1 ≠ p0 /\ q.1 ≠ p1 /\ q.1 ≠ p2

section
variable {w W : World} {S0 S : Hp} {p0 p1 p2 : Nat} {sv lv : Value} {ser c : Int} {L : List (Nat × Array Value × Nat)}

theorem PSt.gser (h : PSt w S0 W S p0 p1 p2 sv ser lv c L) : W.cell? ⟨p0, 1, none⟩ = some (.int .i64 ser) := h.st.cell (.head _) rfl
theorem PSt.gsv (h : PSt w S0 W S p0 p1 p2 sv ser lv c L) : W.cell? ⟨p0, 0, none⟩ = some sv := h.st.cell (.head _) rfl
theorem PSt.glv (h : PSt w S0 W S p0 p1 p2 sv ser lv c L) : W.cell? ⟨p1, 0, none⟩ = some lv := h.st.cell (.tail _ (.head _)) rfl
theorem PSt.glf (h : PSt w S0 W S p0 p1 p2 sv ser lv c L) : W.frozen? ⟨p1, 0, none⟩ = false := h.st.free (.tail _ (.head _))
theorem PSt.gcv (h : PSt w S0 W S p0 p1 p2 sv ser lv c L) : W.cell? ⟨p2, 0, none⟩ = some (.int .i64 c) := h.st.cell (.tail _ (.tail _ (.head _))) rfl
theorem PSt.gcf (h : PSt w S0 W S p0 p1 p2 sv ser lv c L) : W.frozen? ⟨p2, 0, none⟩ = false := h.st.free (.tail _ (.tail _ (.head _)))

theorem PSt.start (hS : Lift.Sub S0 (hp w)) (sv : Value) (ser : Int) : PSt w S0 (((w.alloc (Obj.cells #[sv, .int .i64 ser] 24)).alloc (Obj.cells #[.slice none 0 0] 28)).alloc (Obj.cells #[.int .i64 0] 29)) S0 w.heap.size (w.heap.size + 1) (w.heap.size + 1 + 1) sv ser (.slice none 0 0) 0 [] :=
  ⟨((((NSt.start hS).new' (p := w.heap.size) rfl #[sv, .int .i64 ser] 24).new' (p := w.heap.size + 1) (zsu _ _) #[.slice none 0 0] 28).new' (p := w.heap.size + 1 + 1) ((congrArg (· + 1) (zsu _ _)).trans (zsu _ _)) #[.int .i64 0] 29).swap (by
    intro q hq
    simp only [List.mem_cons, List.not_mem_nil, or_false] at hq ⊢
    rcases hq with rfl | rfl | rfl <;> simp), by omega, by omega, by omega, fun q hq => by cases hq⟩

theorem PSt.alloc (h : PSt w S0 W S p0 p1 p2 sv ser lv c L) (cs : Array Value) (E : Nat) : PSt w S0 (W.alloc (.cells cs E)) S p0 p1 p2 sv ser lv c ((W.heap.size, cs, E) :: L) := by
  have hlt := h.st.lt
  refine ⟨(h.st.alloc cs E).swap (by intro q hq; simp only [List.mem_cons] at hq ⊢; rcases hq with h | h | h | h | h <;> simp [h]), h.d01, h.d02, h.d12, fun q hq => ?_⟩
  rcases List.mem_cons.1 hq with rfl | hq
  . have a := hlt _ (.head _)
    have b := hlt _ (.tail _ (.head _))
    have d := hlt _ (.tail _ (.tail _ (.head _)))
    dsimp only at a b d ⊢
    omega
  . exact h.far q hq

theorem PSt.putL (h : PSt w S0 W S p0 p1 p2 sv ser lv c L) (u : Value) : PSt w S0 (W.setCell ⟨p1, 0, none⟩ u) S p0 p1 p2 sv ser u c L := by
  have d1 := h.d01
  have d2 := h.d12
  refine ⟨((h.st.swap (L' := (p1, #[lv], 28) :: (p0, #[sv, .int .i64 ser], 24) :: (p2, #[.int .i64 c], 29) :: L) (by intro q hq; simp only [List.mem_cons] at hq ⊢; rcases hq with h | h | h | h <;> simp [h])).set (fun q hq => ?_) 0 u).swap (by intro q hq; simp only [List.mem_cons] at hq ⊢; rcases hq with h | h | h | h <;> simp [h]), h.d01, h.d02, h.d12, h.far⟩
  simp only [List.mem_cons] at hq
  rcases hq with rfl | rfl | hq
  . exact d1
  . exact Ne.symm d2
  . exact (h.far q hq).2.1

theorem PSt.putC (h : PSt w S0 W S p0 p1 p2 sv ser lv c L) (u : Int) : PSt w S0 (W.setCell ⟨p2, 0, none⟩ (.int .i64 u)) S p0 p1 p2 sv ser lv u L := by
  have d1 := h.d02
  have d2 := h.d12
  refine ⟨((h.st.swap (L' := (p2, #[.int .i64 c], 29) :: (p0, #[sv, .int .i64 ser], 24) :: (p1, #[lv], 28) :: L) (by intro q hq; simp only [List.mem_cons] at hq ⊢; rcases hq with h | h | h | h <;> simp [h])).set (fun q hq => ?_) 0 (.int .i64 u)).swap (by intro q hq; simp only [List.mem_cons] at hq ⊢; rcases hq with h | h | h | h <;> simp [h]), h.d01, h.d02, h.d12, h.far⟩
  simp only [List.mem_cons] at hq
  rcases hq with rfl | rfl | hq
  . exact d1
  . exact d2
  . exact (h.far q hq).2.2

theorem PSt.row {b E : Nat} {cs : Array Value} (h : PSt w S0 W S p0 p1 p2 sv ser lv c ((b, cs, E) :: L)) (hb : ∀ q ∈ L, q.1 ≠ b) {l : List EvT.den} {n : Nat} (hc : cs.toList = zix l) (hn : n = l.length) :
    ∃ S', Lift.Sub S S' /\ VR S' (.sl EvT) l (.slice (some ⟨b, 0, none⟩) n n) /\ PSt w S0 W S' p0 p1 p2 sv ser lv c L := by
  have hf := h.far _ (.head _)
  dsimp only at hf
  have hg := (h.st.swap (L' := (b, cs, E) :: (p0, #[sv, .int .i64 ser], 24) :: (p1, #[lv], 28) :: (p2, #[.int .i64 c], 29) :: L) (by intro q hq; simp only [List.mem_cons] at hq ⊢; rcases hq with h | h | h | h | h <;> simp [h])).give (fun q hq => by
    simp only [List.mem_cons] at hq
    rcases hq with rfl | rfl | rfl | hq
    . exact Ne.symm hf.1
    . exact Ne.symm hf.2.1
    . exact Ne.symm hf.2.2
    . exact hb q hq)
  exact ⟨_, hg.2, z10i (if_pos rfl) hc hn, hg.1, h.d01, h.d02, h.d12, fun q hq => h.far q (.tail _ hq)⟩

theorem PSt.build (h : PSt w S0 W S p0 p1 p2 sv ser lv c L) {cs : Array Value} {E n : Nat} {l : List EvT.den} (hc : cs.toList = zix l) (hn : n = l.length) :
    ∃ S', Lift.Sub S S' /\ VR S' (.sl EvT) l (.slice (some ⟨W.heap.size, 0, none⟩) n n) /\ PSt w S0 ((W.alloc (.cells cs E)).setCell ⟨p1, 0, none⟩ (.slice (some ⟨W.heap.size, 0, none⟩) n n)) S' p0 p1 p2 sv ser (.slice (some ⟨W.heap.size, 0, none⟩) n n) c L := by
  have hlt := h.st.lt
  obtain ⟨S', h1, h2, h3⟩ := (h.alloc cs E).row (fun q hq => by have := hlt q (.tail _ (.tail _ (.tail _ hq))); omega) hc hn
  exact ⟨S', h1, h2, h3.putL _⟩

theorem PSt.plain {f : FuncId} {g : List A -> Res} (ct : Contract Go.Proofs.Try.prog zm f g) (h : PSt w S0 W S p0 p1 p2 sv ser lv c L) {args : List A} {vals : List Value}
    (hrel : ArgsRel (hp W) S args vals (fun _ => [])) {y : (g args).X} (hy : (g args).val = some y) :
    Calls Go.Proofs.Try.prog f vals.toArray W fun e w' => ∃ v S' o', e = .returned v /\ ARel (hp w') S' (fun _ => undef) ((g args).out y).1 v o' /\ Lift.Sub S S' /\ PSt w S0 w' S' p0 p1 p2 sv ser lv c L := by
  refine (h.st.plain ct (z6b S) hrel hy).mono ?_
  rintro e w' ⟨v, S', o', h1, h2, h3, h4⟩
  exact ⟨v, S', o', h1, h2, h3, h4, h.d01, h.d02, h.d12, h.far⟩

theorem PSt.out (h : PSt w S0 W S p0 p1 p2 sv ser lv c L) (N : Nat) {f : FuncId} (ct : ContractD Go.Proofs.Try.prog zm f (z49 N)) {ts : List TenT.den} {l : List EvT.den} {z : List EvT.den × (Int × Unit)}
    (hs : VR S (.sl TenT) ts sv) (hl : VR S (.sl EvT) l lv) (hz : z18 N (ts, (ser, ())) l c = some z) {vals : List Value} {ob : Nat -> List Nat} {args : List A} (hob : ∀ i, ob i = []) (hargs : ∀ y ∈ args, z41 y = false) :
    CallsD Go.Proofs.Try.prog f #[.pointer (some ⟨p0, 0, none⟩), .pointer (some ⟨p1, 0, none⟩), .pointer (some ⟨p2, 0, none⟩)] .returning W fun r u w7 => (∃ v, r = .returned v) /\ u = .returning /\ ∃ q : Value, w7.cell? ⟨p1, 0, none⟩ = some q /\ w7.cell? ⟨p2, 0, none⟩ = some (.int .i64 z.2.1) ∧
      Lift.Ends w S0 args vals ob (z51 (.tup PlT) 2 z).1 (z51 (.tup PlT) 2 z).2 (.returned (.tuple #[q, .int .i64 z.2.1])) w7 := zxl N ct h.st h.d01 h.d02 h.d12 hs hl hz hob hargs

theorem PSt.putTop {b E : Nat} {cs : Array Value} (h : PSt w S0 W S p0 p1 p2 sv ser lv c ((b, cs, E) :: L)) (hb : ∀ q ∈ L, q.1 ≠ b) (i : Nat) (u : Value) : PSt w S0 (W.setCell ⟨b, i, none⟩ u) S p0 p1 p2 sv ser lv c ((b, cs.setIfInBounds i u, E) :: L) := by
  have hf := h.far _ (.head _)
  dsimp only at hf
  refine ⟨((h.st.swap (L' := (b, cs, E) :: (p0, #[sv, .int .i64 ser], 24) :: (p1, #[lv], 28) :: (p2, #[.int .i64 c], 29) :: L) (by intro q hq; simp only [List.mem_cons] at hq ⊢; rcases hq with h | h | h | h | h <;> simp [h])).set (fun q hq => ?_) i u).swap (by intro q hq; simp only [List.mem_cons] at hq ⊢; rcases hq with h | h | h | h | h <;> simp [h]), h.d01, h.d02, h.d12, fun q hq => ?_⟩
  . simp only [List.mem_cons] at hq
    rcases hq with rfl | rfl | rfl | hq
    . exact Ne.symm hf.1
    . exact Ne.symm hf.2.1
    . exact Ne.symm hf.2.2
    . exact hb q hq
  . rcases List.mem_cons.1 hq with rfl | hq
    . exact hf
    . exact h.far q (.tail _ hq)

theorem PSt.topLt (h : PSt w S0 W S p0 p1 p2 sv ser lv c L) : ∀ q ∈ L, q.1 ≠ W.heap.size := fun q hq => by
  have := h.st.lt q (.tail _ (.tail _ (.tail _ hq)))
  omega

theorem PSt.topCell {b E i : Nat} {cs : Array Value} {v : Value} (h : PSt w S0 W S p0 p1 p2 sv ser lv c ((b, cs, E) :: L)) (hv : cs[i]? = some v) : W.cell? ⟨b, i, none⟩ = some v := h.st.cell (.tail _ (.tail _ (.tail _ (.head _)))) hv
theorem PSt.key (h : PSt w S0 W S p0 p1 p2 sv ser lv c []) (a b : Value) (cs : Array Value) (hcs : cs.size = 2) (E : Nat) : PSt w S0 (((W.alloc (.cells cs E)).setCell ⟨W.heap.size, 0, none⟩ a).setCell ⟨W.heap.size, 1, none⟩ b) S p0 p1 p2 sv ser lv c [(W.heap.size, #[a, b], E)] := by
  have h1 := ((h.alloc cs E).putTop h.topLt 0 a).putTop h.topLt 1 b
  have e : (cs.setIfInBounds 0 a).setIfInBounds 1 b = #[a, b] := by
    match cs, hcs with
    | ⟨[x, y]⟩, _ => rfl
  rwa [e] at h1

end

theorem z12c {S : Hp} {k : KeyT.den} {v : Value} (h : VR S KeyT k v) : v = .agg #[.int .i64 k.1, .string ⟨⟨k.2.1⟩⟩] := by
  obtain ⟨cs, rfl, d1, d2, q1, k1, d3, d4, q2, k2, k3⟩ := h
  have i1 : d1 = [.int .i64 k.1] := k1
  have i2 : d3 = [.string ⟨⟨k.2.1⟩⟩] := k2
  have i3 : d4 = [] := k3
  congr 1
  apply Array.toList_inj.1
  rw [q1, q2, i1, i2, i3]
  rfl

theorem zmf (N : Nat) {w W : World} {S0 S : Hp} {p0 p1 p2 : Nat} {sv lv : Value} {ser c : Int} {L : List (Nat × Array Value × Nat)} (h : PSt w S0 W S p0 p1 p2 sv ser lv c L) {ts : List TenT.den} (hv : VR S (.sl TenT) ts sv) {tn : List UInt8} {y : KeyT.den × (Bool × Unit)} (hy : z3l N (ts, (ser, ())) tn = some y) :
    Calls Go.Proofs.Try.prog 17 #[.agg #[sv, .int .i64 ser], .string ⟨⟨tn⟩⟩] W fun e w' => ∃ S', e = .returned (.tuple #[.agg #[.int .i64 y.1.1, .string ⟨⟨y.1.2.1⟩⟩], .bool y.2.1]) /\ Lift.Sub S S' /\ PSt w S0 w' S' p0 p1 p2 sv ser lv c L := by
  refine (h.plain (zew N) (z2a [(.v StT (ts, (ser, ())), .agg #[sv, .int .i64 ser]), (.v .str tn, .string ⟨⟨tn⟩⟩)] (fun p hp => by
    rcases List.mem_cons.1 hp with rfl | hp
    . exact ⟨⟨zl1 hv, rfl⟩, rfl⟩
    . rw [List.mem_singleton.1 hp]; exact ⟨⟨VR.str, rfl⟩, rfl⟩)) (y := y) hy).mono ?_
  rintro e w' ⟨v, S', o', rfl, hr, h2, h3⟩
  obtain ⟨_, ⟨vs⟩, rfl, hvs⟩ := hr
  dsimp only at hvs
  cases hvs with
  | cons a1 hvs =>
    cases hvs with
    | cons a2 hvs =>
      cases hvs
      exact ⟨S', by rw [z12c a1, VR.bool_inv a2], h2, h3⟩

theorem z11z {S : Hp} {t : TenT.den} {v : Value} (h : VR S TenT t v) : ∃ ka kc, v = .agg #[.string ⟨⟨t.1⟩⟩, .int .i64 t.2.1, .int .i64 t.2.2.1, .slice ka t.2.2.2.1.length kc] := by
  obtain ⟨cs, rfl, d1, d2, e1, k1, d3, d4, e2, k2, d5, d6, e3, k3, d7, d8, e4, ⟨a, cap, k4, hcap, hk⟩, k5⟩ := h
  have i1 : d1 = [.string ⟨⟨t.1⟩⟩] := k1
  have i3 : d3 = [.int .i64 t.2.1] := k2
  have i5 : d5 = [.int .i64 t.2.2.1] := k3
  have i8 : d8 = [] := k5
  refine ⟨a, cap, ?_⟩
  congr 1
  apply Array.toList_inj.1
  rw [e1, e2, e3, e4, i1, i3, i5, k4, i8]
  rfl

section
variable {w W : World} {S0 S : Hp} {p0 p1 p2 : Nat} {sv lv : Value} {ser c : Int} {L : List (Nat × Array Value × Nat)}

theorem zg3 (N : Nat) (h : PSt w S0 W S p0 p1 p2 sv ser lv c L) {ts : List TenT.den} (hv : VR S (.sl TenT) ts sv) {tn : List UInt8} {y : TenT.den × (Bool × Unit)} (hy : z6n N (ts, (ser, ())) tn = some y) :
    Calls Go.Proofs.Try.prog 39 #[.agg #[sv, .int .i64 ser], .string ⟨⟨tn⟩⟩] W fun e w' => ∃ ka kc S', e = .returned (.tuple #[.agg #[.string ⟨⟨y.1.1⟩⟩, .int .i64 y.1.2.1, .int .i64 y.1.2.2.1, .slice ka y.1.2.2.2.1.length kc], .bool y.2.1]) /\ Lift.Sub S S' /\ PSt w S0 w' S' p0 p1 p2 sv ser lv c L := by
  refine (h.plain (zrl N) (z2a [(.v StT (ts, (ser, ())), .agg #[sv, .int .i64 ser]), (.v .str tn, .string ⟨⟨tn⟩⟩)] (fun p hp => by
    rcases List.mem_cons.1 hp with rfl | hp
    . exact ⟨⟨zl1 hv, rfl⟩, rfl⟩
    . rw [List.mem_singleton.1 hp]; exact ⟨⟨VR.str, rfl⟩, rfl⟩)) (y := y) hy).mono ?_
  rintro e w' ⟨v, S', o', rfl, hr, h2, h3⟩
  obtain ⟨_, ⟨vs⟩, rfl, hvs⟩ := hr
  dsimp only at hvs
  cases hvs with
  | cons a1 hvs =>
    cases hvs with
    | cons a2 hvs =>
      cases hvs
      obtain ⟨ka, kc, e1⟩ := z11z a1
      exact ⟨ka, kc, S', by rw [e1, VR.bool_inv a2], h2, h3⟩

theorem zwc (N : Nat) (h : PSt w S0 W S p0 p1 p2 sv ser lv c L) {ts : List TenT.den} (hv : VR S (.sl TenT) ts sv) {tn : List UInt8} {num : Int} {y : List UInt8 × (Bool × Unit)} (hy : zau N (ts, (ser, ())) tn num = some y) :
    Calls Go.Proofs.Try.prog 18 #[.agg #[sv, .int .i64 ser], .string ⟨⟨tn⟩⟩, .int .i64 num] W fun e w' => ∃ S', e = .returned (.tuple #[.string ⟨⟨y.1⟩⟩, .bool y.2.1]) /\ Lift.Sub S S' /\ PSt w S0 w' S' p0 p1 p2 sv ser lv c L := by
  refine (h.plain (zln N) (z2a [(.v StT (ts, (ser, ())), .agg #[sv, .int .i64 ser]), (.v .str tn, .string ⟨⟨tn⟩⟩), (.v (.int .i64) num, .int .i64 num)] (fun p hp => by
    rcases List.mem_cons.1 hp with rfl | hp
    . exact ⟨⟨zl1 hv, rfl⟩, rfl⟩
    . rcases List.mem_cons.1 hp with rfl | hp
      . exact ⟨⟨VR.str, rfl⟩, rfl⟩
      . rw [List.mem_singleton.1 hp]; exact ⟨⟨VR.int, rfl⟩, rfl⟩)) (y := y) hy).mono ?_
  rintro e w' ⟨v, S', o', rfl, hr, h2, h3⟩
  obtain ⟨_, ⟨vs⟩, rfl, hvs⟩ := hr
  dsimp only at hvs
  cases hvs with
  | cons a1 hvs =>
    cases hvs with
    | cons a2 hvs =>
      cases hvs
      exact ⟨S', by rw [VR.str_inv a1, VR.bool_inv a2], h2, h3⟩

theorem zss (N : Nat) (h : PSt w S0 W S p0 p1 p2 sv ser lv c L) {tn : List UInt8} {y : Bool} (hy : z6p N tn = some y) :
    Calls Go.Proofs.Try.prog 40 #[.string ⟨⟨tn⟩⟩] W fun e w' => ∃ S', e = .returned (.bool y) /\ Lift.Sub S S' /\ PSt w S0 w' S' p0 p1 p2 sv ser lv c L := by
  refine (h.plain (zdf N) (z2a [(.v .str tn, .string ⟨⟨tn⟩⟩)] (fun p hp => by
    rw [List.mem_singleton.1 hp]; exact ⟨⟨VR.str, rfl⟩, rfl⟩)) (y := y) hy).mono ?_
  rintro e w' ⟨v, S', o', rfl, hr, h2, h3⟩
  exact ⟨S', by rw [VR.bool_inv hr.1], h2, h3⟩

theorem zht (N : Nat) (h : PSt w S0 W S p0 p1 p2 sv ser lv c L) (tn : List UInt8) (ep nx : Int) :
    Calls Go.Proofs.Try.prog 28 #[.string ⟨⟨tn⟩⟩, .int .i64 ep, .int .i64 nx] W fun e w' => ∃ S', e = .returned (evV 1 tn nx ep []) /\ Lift.Sub S S' /\ PSt w S0 w' S' p0 p1 p2 sv ser lv c L := by
  refine (h.plain (z86 N) (z2a [(.v .str tn, .string ⟨⟨tn⟩⟩), (.v (.int .i64) ep, .int .i64 ep), (.v (.int .i64) nx, .int .i64 nx)] (fun p hp => by
    rcases List.mem_cons.1 hp with rfl | hp
    . exact ⟨⟨VR.str, rfl⟩, rfl⟩
    . rcases List.mem_cons.1 hp with rfl | hp
      . exact ⟨⟨VR.int, rfl⟩, rfl⟩
      . rw [List.mem_singleton.1 hp]; exact ⟨⟨VR.int, rfl⟩, rfl⟩)) (y := ((1 : Int), (tn, (nx, (ep, (([] : List UInt8), ())))))) rfl).mono ?_
  rintro e w' ⟨v, S', o', rfl, hr, h2, h3⟩
  exact ⟨S', by rw [zyy hr.1], h2, h3⟩

theorem zp2 (N : Nat) (h : PSt w S0 W S p0 p1 p2 sv ser lv c L) (tn : List UInt8) (nu : Int) (tx : List UInt8) :
    Calls Go.Proofs.Try.prog 29 #[.string ⟨⟨tn⟩⟩, .int .i64 nu, .string ⟨⟨tx⟩⟩] W fun e w' => ∃ S', e = .returned (evV 2 tn nu 0 tx) /\ Lift.Sub S S' /\ PSt w S0 w' S' p0 p1 p2 sv ser lv c L := by
  refine (h.plain (zbu N) (z2a [(.v .str tn, .string ⟨⟨tn⟩⟩), (.v (.int .i64) nu, .int .i64 nu), (.v .str tx, .string ⟨⟨tx⟩⟩)] (fun p hp => by
    rcases List.mem_cons.1 hp with rfl | hp
    . exact ⟨⟨VR.str, rfl⟩, rfl⟩
    . rcases List.mem_cons.1 hp with rfl | hp
      . exact ⟨⟨VR.int, rfl⟩, rfl⟩
      . rw [List.mem_singleton.1 hp]; exact ⟨⟨VR.str, rfl⟩, rfl⟩)) (y := ((2 : Int), (tn, (nu, ((0 : Int), (tx, ())))))) rfl).mono ?_
  rintro e w' ⟨v, S', o', rfl, hr, h2, h3⟩
  exact ⟨S', by rw [zyy hr.1], h2, h3⟩
end

end
end Go.Proofs.YtlohplpnhopldaaLg

set_option linter.all false
set_option maxRecDepth 100000
namespace Go.Proofs.YtlohplpnhopldaaLg
noncomputable section
open Go Go.Lift Go.Proofs

def zda (N : Nat) (s : StT.den) (tn : List UInt8) : Option (List EvT.den × (Int × Unit)) :=
 (z3l N s tn).bind fun f => z18 N s [((4 : Int), (([] : List UInt8), (Go.RowKit.wrap64 (s.2.1 + 1), ((0 : Int), (([] : List UInt8), ())))))] (if f.2.1 = false then 6 else if 1099511627776 <= s.2.1 then 3 else 0)

def zba (N : Nat) : List A -> Res := z1z [(0, .v StT), (0, .v .str)] (fun x => zda N x.1 x.2.1) (z51 (.tup PlT) 2)

set_option maxHeartbeats 30000000 in
theorem zjl (N : Nat) : Contract Go.Proofs.Try.prog zm 20 (zba N) := by
  refine Contract.hand ⟨_, Go.Proofs.Try.func20, by kernel_rfl, by decide⟩ ?_
  intro w S vals ob x y har hS hg hy
  obtain ⟨⟨ts, ser, u0⟩, tn, u⟩ := x
  cases u; cases u0
  dsimp only at hy
  obtain ⟨⟨v0, hv0, hA0, ho0⟩, _⟩ := har.rel 0 _ rfl
  obtain ⟨⟨v1, hv1, hA1, ho1⟩, _⟩ := har.rel 1 _ rfl
  have hvals : vals = [v0, v1] := by
    match vals, har.len, hv0, hv1 with
    | [a0, a1], _, h0, h1 => simp at h0 h1; rw [h0, h1]
  subst hvals
  have hob : ∀ i, ob i = [] := by
    intro i
    match i with
    | 0 => exact ho0
    | 1 => exact ho1
    | i + 2 => exact har.out _ (by simp [mkS, z6c])
  have hargs : ∀ y ∈ mkS [(0, .v StT), (0, .v .str)] 0 ((ts, (ser, ())), (tn, ())), z41 y = false := by
    intro y hy
    simp [mkS, z6c, AS.mk] at hy
    rcases hy with rfl | rfl <;> rfl
  have e1 := hA1.str_inv
  subst e1
  obtain ⟨sv, rfl, hsv⟩ := zfi hA0
  obtain ⟨sa, scap, _, hsl, _, _, _⟩ := z7q hsv
  unfold zda at hy
  try dsimp only at hy
  suffices HX : ∀ R : Ending -> World -> Prop, Go.RowKit.Hid (∀ q w', Lift.Ends w S (mkS [(0, .v StT), (0, .v .str)] 0 ((ts, (ser, ())), (tn, ()))) [.agg #[sv, .int .i64 ser], .string ⟨⟨tn⟩⟩] ob (z51 (.tup PlT) 2 y).1 (z51 (.tup PlT) 2 y).2 (.returned (.tuple #[q, .int .i64 y.2.1])) w' -> R (.returned (.tuple #[q, .int .i64 y.2.1])) w') -> Calls Go.Proofs.Try.prog 20 #[.agg #[sv, .int .i64 ser], .string ⟨⟨tn⟩⟩] w R from
    (HX (fun r w' => Lift.Ends w S (mkS [(0, .v StT), (0, .v .str)] 0 ((ts, (ser, ())), (tn, ()))) [.agg #[sv, .int .i64 ser], .string ⟨⟨tn⟩⟩] ob (z51 (.tup PlT) 2 y).1 (z51 (.tup PlT) 2 y).2 r w') (Go.Lib.hid (fun q w' h => h)))
  intro R HR
  have h3 := PSt.start hS sv ser
  subst hsl
  clear har hv0 hA0 hv1 hA1
  obtain ⟨sn, hsn⟩ : ∃ n, n = ts.length := ⟨_, rfl⟩
  rw [<- hsn] at h3 HR hsv ⊢
  have HSN := Go.Lib.hid hsn
  clear hsn
  go_enter_defers Go.Proofs.Try.func20, Go.Proofs.Try.ntmps20
  go_upto_region 2 with (fail)
  obtain ⟨A3, hA3⟩ : ∃ A3, A3 = (((w.alloc (Obj.cells #[.slice sa sn scap, .int .i64 ser] 24)).alloc (Obj.cells #[.slice none 0 0] 28)).alloc (Obj.cells #[.int .i64 0] 29)) := ⟨_, rfl⟩
  obtain ⟨p2, hp2⟩ : ∃ p, p = w.heap.size + 1 + 1 := ⟨_, rfl⟩
  obtain ⟨p1, hp1⟩ : ∃ p, p = w.heap.size + 1 := ⟨_, rfl⟩
  obtain ⟨p0, hp0⟩ : ∃ p, p = w.heap.size := ⟨_, rfl⟩
  rw [<- hA3, <- hp2, <- hp1, <- hp0] at h3 ⊢
  clear hA3 hp0 hp1 hp2
  obtain ⟨f, hf, hz⟩ := Option.bind_eq_some_iff.1 hy
  clear hy
  have k1 := h3.gser
  have f1 := fun cs E => (h3.alloc cs E).glf
  have c1 := fun cs E => (h3.alloc cs E).glv
  obtain ⟨S5, s5, v5, h5⟩ := h3.build (E := 51) (cs := #[.int .i64 4, .string ⟨#[]⟩, .int .i64 (Go.RowKit.wrap64 (ser + 1)), .int .i64 0, .string ⟨#[]⟩]) (n := 1) (l := [((4 : Int), (([] : List UInt8), (Go.RowKit.wrap64 (ser + 1), ((0 : Int), (([] : List UInt8), ())))))]) rfl rfl
  have H5 := Go.Lib.hid h5
  clear h3 h5
  go_upto_region 3 with (fail)
  have h5 := H5.out
  obtain ⟨A5, hA5⟩ : ∃ A5, A5 = (A3.alloc (Obj.cells #[.int .i64 4, .string ⟨#[]⟩, .int .i64 (Go.RowKit.wrap64 (ser + 1)), .int .i64 0, .string ⟨#[]⟩] 51)).setCell ⟨p1, 0, none⟩ (.slice (some ⟨A3.heap.size, 0, none⟩) 1 1) := ⟨_, rfl⟩
  obtain ⟨lb, hlb⟩ : ∃ lb, lb = A3.heap.size := ⟨_, rfl⟩
  rw [<- hA5] at h5 ⊢
  rw [<- hlb] at h5 v5 ⊢
  clear hA5 hlb H5 f1 c1
  clear k1
  have k0 := h5.gsv
  have k1 := h5.gser
  have hcn := zmf N h5 (hsv.mono s5) hf
  obtain ⟨⟨fk, ft, u1⟩, fb, u2⟩ := f
  cases u1; cases u2
  clear h5
  go_upto_region 4 with (go_at_call 17; refine hcn.mono ?_; rintro _ w6 ⟨S6, rfl, s6, h6⟩; have H6 := Go.Lib.hid h6; have s6' := s6; clear h6 s6 hcn)
  have h7 := H6.out.alloc #[.int .i64 fk, .string ⟨⟨ft⟩⟩] 43
  obtain ⟨A7, hA7⟩ : ∃ A7, A7 = w6.alloc (Obj.cells #[.int .i64 fk, .string ⟨⟨ft⟩⟩] 43) := ⟨_, rfl⟩
  rw [<- hA7] at h7 ⊢
  clear hA7
  have l1 := h7.glv
  have l2 := h7.glf
  have l3 := (h7.putL (.slice (some ⟨lb, 0, none⟩) 1 1)).gcv
  have l4 := (h7.putL (.slice (some ⟨lb, 0, none⟩) 1 1)).gcf
  have k1 := h7.gser
  have H7 := Go.Lib.hid h7
  clear h7 k0
  rcases fb with _ | _
  . rw [if_pos rfl] at hz
    go_wp2
    refine leaves_cons (f := 41) (args := #[.pointer (some ⟨p0, 0, none⟩), .pointer (some ⟨p1, 0, none⟩), .pointer (some ⟨p2, 0, none⟩)]) (by simp) (by simp [go_sem]) ?_
    refine (((H7.out.putL (.slice (some ⟨lb, 0, none⟩) 1 1)).putC 6).out N (z9c N) (vals := [.agg #[.slice sa sn scap, .int .i64 ser], .string ⟨⟨tn⟩⟩]) (hsv.mono (s5.trans s6')) (v5.mono s6') hz hob hargs).mono ?_
    rintro r u w7 ⟨⟨v, rfl⟩, rfl, q, c1, c2, hend⟩
    refine ⟨_, ?_, HR.out _ _ hend⟩
    simp [results, Go.Proofs.Try.results20, go_sem, c1, c2]
  . rw [if_neg (by decide)] at hz
    by_cases hlim : 1099511627776 <= ser
    . rw [if_pos hlim] at hz
      go_wp2
      refine leaves_cons (f := 41) (args := #[.pointer (some ⟨p0, 0, none⟩), .pointer (some ⟨p1, 0, none⟩), .pointer (some ⟨p2, 0, none⟩)]) (by simp) (by simp [go_sem]) ?_
      refine (((H7.out.putL (.slice (some ⟨lb, 0, none⟩) 1 1)).putC 3).out N (z9c N) (vals := [.agg #[.slice sa sn scap, .int .i64 ser], .string ⟨⟨tn⟩⟩]) (hsv.mono (s5.trans s6')) (v5.mono s6') hz hob hargs).mono ?_
      rintro r u w7 ⟨⟨v, rfl⟩, rfl, q, c1, c2, hend⟩
      refine ⟨_, ?_, HR.out _ _ hend⟩
      simp [results, Go.Proofs.Try.results20, go_sem, c1, c2]
    . rw [if_neg hlim] at hz
      go_wp2
      refine leaves_cons (f := 41) (args := #[.pointer (some ⟨p0, 0, none⟩), .pointer (some ⟨p1, 0, none⟩), .pointer (some ⟨p2, 0, none⟩)]) (by simp) (by simp [go_sem]) ?_
      refine (((H7.out.putL (.slice (some ⟨lb, 0, none⟩) 1 1)).putC 0).out N (z9c N) (vals := [.agg #[.slice sa sn scap, .int .i64 ser], .string ⟨⟨tn⟩⟩]) (hsv.mono (s5.trans s6')) (v5.mono s6') hz hob hargs).mono ?_
      rintro r u w7 ⟨⟨v, rfl⟩, rfl, q, c1, c2, hend⟩
      refine ⟨_, ?_, HR.out _ _ hend⟩
      simp [results, Go.Proofs.Try.results20, go_sem, c1, c2]

end
end Go.Proofs.YtlohplpnhopldaaLg

set_option linter.all false
set_option maxRecDepth 100000
namespace Go.Proofs.YtlohplpnhopldaaLg
noncomputable section
open Go Go.Lift Go.Proofs

def zb8 (N : Nat) (s : StT.den) (tn : List UInt8) : Option (List EvT.den × (Int × Unit)) :=
 (z6n N s tn).bind fun f => z18 N s [((1 : Int), (tn, (f.1.2.2.1, (Go.RowKit.wrap64 (f.1.2.1 + 1), (([] : List UInt8), ())))))] (if f.2.1 = false then 6 else if 1099511627776 <= f.1.2.1 then 3 else 0)

def zd7 (N : Nat) : List A -> Res := z1z [(0, .v StT), (0, .v .str)] (fun x => zb8 N x.1 x.2.1) (z51 (.tup PlT) 2)

set_option maxHeartbeats 30000000 in
theorem znw (N : Nat) : Contract Go.Proofs.Try.prog zm 23 (zd7 N) := by
  refine Contract.hand ⟨_, Go.Proofs.Try.func23, by kernel_rfl, by decide⟩ ?_
  intro w S vals ob x y har hS hg hy
  obtain ⟨⟨ts, ser, u0⟩, tn, u⟩ := x
  cases u; cases u0
  dsimp only at hy
  obtain ⟨⟨v0, hv0, hA0, ho0⟩, _⟩ := har.rel 0 _ rfl
  obtain ⟨⟨v1, hv1, hA1, ho1⟩, _⟩ := har.rel 1 _ rfl
  have hvals : vals = [v0, v1] := by
    match vals, har.len, hv0, hv1 with
    | [a0, a1], _, h0, h1 => simp at h0 h1; rw [h0, h1]
  subst hvals
  have hob : ∀ i, ob i = [] := by
    intro i
    match i with
    | 0 => exact ho0
    | 1 => exact ho1
    | i + 2 => exact har.out _ (by simp [mkS, z6c])
  have hargs : ∀ y ∈ mkS [(0, .v StT), (0, .v .str)] 0 ((ts, (ser, ())), (tn, ())), z41 y = false := by
    intro y hy
    simp [mkS, z6c, AS.mk] at hy
    rcases hy with rfl | rfl <;> rfl
  have e1 := hA1.str_inv
  subst e1
  obtain ⟨sv, rfl, hsv⟩ := zfi hA0
  obtain ⟨sa, scap, _, hsl, _, _, _⟩ := z7q hsv
  unfold zb8 at hy
  try dsimp only at hy
  suffices HX : ∀ R : Ending -> World -> Prop, Go.RowKit.Hid (∀ q w', Lift.Ends w S (mkS [(0, .v StT), (0, .v .str)] 0 ((ts, (ser, ())), (tn, ()))) [.agg #[sv, .int .i64 ser], .string ⟨⟨tn⟩⟩] ob (z51 (.tup PlT) 2 y).1 (z51 (.tup PlT) 2 y).2 (.returned (.tuple #[q, .int .i64 y.2.1])) w' -> R (.returned (.tuple #[q, .int .i64 y.2.1])) w') -> Calls Go.Proofs.Try.prog 23 #[.agg #[sv, .int .i64 ser], .string ⟨⟨tn⟩⟩] w R from
    (HX (fun r w' => Lift.Ends w S (mkS [(0, .v StT), (0, .v .str)] 0 ((ts, (ser, ())), (tn, ()))) [.agg #[sv, .int .i64 ser], .string ⟨⟨tn⟩⟩] ob (z51 (.tup PlT) 2 y).1 (z51 (.tup PlT) 2 y).2 r w') (Go.Lib.hid (fun q w' h => h)))
  intro R HR
  have h3 := PSt.start hS sv ser
  subst hsl
  clear har hv0 hA0 hv1 hA1
  obtain ⟨sn, hsn⟩ : ∃ n, n = ts.length := ⟨_, rfl⟩
  rw [<- hsn] at h3 HR hsv ⊢
  have HSN := Go.Lib.hid hsn
  clear hsn
  go_enter_defers Go.Proofs.Try.func23, Go.Proofs.Try.ntmps23
  go_upto_region 2 with (fail)
  obtain ⟨A3, hA3⟩ : ∃ A3, A3 = (((w.alloc (Obj.cells #[.slice sa sn scap, .int .i64 ser] 24)).alloc (Obj.cells #[.slice none 0 0] 28)).alloc (Obj.cells #[.int .i64 0] 29)) := ⟨_, rfl⟩
  obtain ⟨p2, hp2⟩ : ∃ p, p = w.heap.size + 1 + 1 := ⟨_, rfl⟩
  obtain ⟨p1, hp1⟩ : ∃ p, p = w.heap.size + 1 := ⟨_, rfl⟩
  obtain ⟨p0, hp0⟩ : ∃ p, p = w.heap.size := ⟨_, rfl⟩
  rw [<- hA3, <- hp2, <- hp1, <- hp0] at h3 ⊢
  clear hA3 hp0 hp1 hp2
  obtain ⟨f, hf, hz⟩ := Option.bind_eq_some_iff.1 hy
  clear hy
  have k0 := h3.gsv
  have k1 := h3.gser
  have hcf := zg3 N h3 hsv hf
  obtain ⟨⟨fn, fe, fx, fks, u1⟩, fb, u2⟩ := f
  cases u1; cases u2
  try dsimp only at hz
  try dsimp only at hcf
  obtain ⟨fl, hfl⟩ : ∃ n, n = fks.length := ⟨_, rfl⟩
  rw [<- hfl] at hcf
  clear h3 hfl
  go_upto_region 3 with (go_at_call 39; refine hcf.mono ?_; rintro _ w4 ⟨ka, kc, S4, rfl, s4, h4⟩; have H4 := Go.Lib.hid h4; have s4' := s4; clear h4 s4 hcf)
  have h4 := H4.out.alloc #[.string ⟨⟨fn⟩⟩, .int .i64 fe, .int .i64 fx, .slice ka fl kc] 41
  obtain ⟨A4, hA4⟩ : ∃ A4, A4 = w4.alloc (Obj.cells #[.string ⟨⟨fn⟩⟩, .int .i64 fe, .int .i64 fx, .slice ka fl kc] 41) := ⟨_, rfl⟩
  obtain ⟨tb, htb⟩ : ∃ b, b = w4.heap.size := ⟨_, rfl⟩
  rw [<- hA4, <- htb] at h4 ⊢
  clear hA4 htb H4 k0 k1
  have m1 : A4.cell? ⟨tb, 1, none⟩ = some (.int .i64 fe) := h4.topCell rfl
  have m2 : A4.cell? ⟨tb, 2, none⟩ = some (.int .i64 fx) := h4.topCell rfl
  have hce := zht N h4 tn (Go.RowKit.wrap64 (fe + 1)) fx
  unfold evV at hce
  clear h4
  go_upto_region 4 with (go_at_call 28; refine hce.mono ?_; rintro _ w5 ⟨S5, rfl, s5, h5⟩; have H5 := Go.Lib.hid h5; have s5' := s5; have f1 := fun cs E => (h5.alloc cs E).glf; have c1 := fun cs E => (h5.alloc cs E).glv; clear h5 s5 hce)
  obtain ⟨S6, s6, v6, h6⟩ := H5.out.build (E := 51) (cs := #[.int .i64 1, .string ⟨⟨tn⟩⟩, .int .i64 fx, .int .i64 (Go.RowKit.wrap64 (fe + 1)), .string ⟨#[]⟩]) (n := 1) (l := [((1 : Int), (tn, (fx, (Go.RowKit.wrap64 (fe + 1), (([] : List UInt8), ())))))]) rfl rfl
  obtain ⟨A6, hA6⟩ : ∃ A6, A6 = (w5.alloc (Obj.cells #[.int .i64 1, .string ⟨⟨tn⟩⟩, .int .i64 fx, .int .i64 (Go.RowKit.wrap64 (fe + 1)), .string ⟨#[]⟩] 51)).setCell ⟨p1, 0, none⟩ (.slice (some ⟨w5.heap.size, 0, none⟩) 1 1) := ⟨_, rfl⟩
  obtain ⟨lb, hlb⟩ : ∃ lb, lb = w5.heap.size := ⟨_, rfl⟩
  rw [<- hA6] at h6 ⊢
  rw [<- hlb] at h6 v6 ⊢
  clear hA6 hlb H5 f1 c1 m1 m2
  have m1 : A6.cell? ⟨tb, 1, none⟩ = some (.int .i64 fe) := h6.topCell rfl
  have l1 := h6.glv
  have l2 := h6.glf
  have l3 := (h6.putL (.slice (some ⟨lb, 0, none⟩) 1 1)).gcv
  have l4 := (h6.putL (.slice (some ⟨lb, 0, none⟩) 1 1)).gcf
  have H6 := Go.Lib.hid h6
  clear h6
  rcases fb with _ | _
  . rw [if_pos rfl] at hz
    go_wp2
    refine leaves_cons (f := 44) (args := #[.pointer (some ⟨p0, 0, none⟩), .pointer (some ⟨p1, 0, none⟩), .pointer (some ⟨p2, 0, none⟩)]) (by simp) (by simp [go_sem]) ?_
    refine (((H6.out.putL (.slice (some ⟨lb, 0, none⟩) 1 1)).putC 6).out N (z6w N) (vals := [.agg #[.slice sa sn scap, .int .i64 ser], .string ⟨⟨tn⟩⟩]) (hsv.mono (s4'.trans (s5'.trans s6))) v6 hz hob hargs).mono ?_
    rintro r u w7 ⟨⟨v, rfl⟩, rfl, q, c1, c2, hend⟩
    refine ⟨_, ?_, HR.out _ _ hend⟩
    simp [results, Go.Proofs.Try.results23, go_sem, c1, c2]
  . rw [if_neg (by decide)] at hz
    by_cases hlim : 1099511627776 <= fe
    . rw [if_pos hlim] at hz
      go_wp2
      refine leaves_cons (f := 44) (args := #[.pointer (some ⟨p0, 0, none⟩), .pointer (some ⟨p1, 0, none⟩), .pointer (some ⟨p2, 0, none⟩)]) (by simp) (by simp [go_sem]) ?_
      refine (((H6.out.putL (.slice (some ⟨lb, 0, none⟩) 1 1)).putC 3).out N (z6w N) (vals := [.agg #[.slice sa sn scap, .int .i64 ser], .string ⟨⟨tn⟩⟩]) (hsv.mono (s4'.trans (s5'.trans s6))) v6 hz hob hargs).mono ?_
      rintro r u w7 ⟨⟨v, rfl⟩, rfl, q, c1, c2, hend⟩
      refine ⟨_, ?_, HR.out _ _ hend⟩
      simp [results, Go.Proofs.Try.results23, go_sem, c1, c2]
    . rw [if_neg hlim] at hz
      go_wp2
      refine leaves_cons (f := 44) (args := #[.pointer (some ⟨p0, 0, none⟩), .pointer (some ⟨p1, 0, none⟩), .pointer (some ⟨p2, 0, none⟩)]) (by simp) (by simp [go_sem]) ?_
      refine (((H6.out.putL (.slice (some ⟨lb, 0, none⟩) 1 1)).putC 0).out N (z6w N) (vals := [.agg #[.slice sa sn scap, .int .i64 ser], .string ⟨⟨tn⟩⟩]) (hsv.mono (s4'.trans (s5'.trans s6))) v6 hz hob hargs).mono ?_
      rintro r u w7 ⟨⟨v, rfl⟩, rfl, q, c1, c2, hend⟩
      refine ⟨_, ?_, HR.out _ _ hend⟩
      simp [results, Go.Proofs.Try.results23, go_sem, c1, c2]

end
end Go.Proofs.YtlohplpnhopldaaLg

set_option linter.all false
set_option maxRecDepth 100000
namespace Go.Proofs.YtlohplpnhopldaaLg
noncomputable section
open Go Go.Lift Go.Proofs

def zb9 (N : Nat) (s : StT.den) (tn : List UInt8) (num : Int) : Option (List EvT.den × (Int × Unit)) :=
 (zau N s tn num).bind fun f => if f.2.1 = false then z18 N s [((3 : Int), (tn, (num, ((0 : Int), (([] : List UInt8), ())))))] 6 else (z3l N s tn).bind fun g => z18 N s [((3 : Int), (tn, (num, ((0 : Int), (([] : List UInt8), ())))))] (if g.1.1 = num then 7 else 0)

def zd8 (N : Nat) : List A -> Res := z1z [(0, .v StT), (0, .v .str), (0, .v (.int .i64))] (fun x => zb9 N x.1 x.2.1 x.2.2.1) (z51 (.tup PlT) 2)

set_option maxHeartbeats 30000000 in
theorem znx (N : Nat) : Contract Go.Proofs.Try.prog zm 22 (zd8 N) := by
  refine Contract.hand ⟨_, Go.Proofs.Try.func22, by kernel_rfl, by decide⟩ ?_
  intro w S vals ob x y har hS hg hy
  obtain ⟨⟨ts, ser, u0⟩, tn, num, u⟩ := x
  cases u; cases u0
  dsimp only at hy
  obtain ⟨⟨v0, hv0, hA0, ho0⟩, _⟩ := har.rel 0 _ rfl
  obtain ⟨⟨v1, hv1, hA1, ho1⟩, _⟩ := har.rel 1 _ rfl
  obtain ⟨⟨v2, hv2, hA2, ho2⟩, _⟩ := har.rel 2 _ rfl
  have hvals : vals = [v0, v1, v2] := by
    match vals, har.len, hv0, hv1, hv2 with
    | [a0, a1, a2], _, h0, h1, h2 => simp at h0 h1 h2; rw [h0, h1, h2]
  subst hvals
  have hob : ∀ i, ob i = [] := by
    intro i
    match i with
    | 0 => exact ho0
    | 1 => exact ho1
    | 2 => exact ho2
    | i + 3 => exact har.out _ (by simp [mkS, z6c])
  have hargs : ∀ y ∈ mkS [(0, .v StT), (0, .v .str), (0, .v (.int .i64))] 0 ((ts, (ser, ())), (tn, (num, ()))), z41 y = false := by
    intro y hy
    simp [mkS, z6c, AS.mk] at hy
    rcases hy with rfl | rfl | rfl <;> rfl
  have e1 := hA1.str_inv
  subst e1
  have e2 := VR.int_inv hA2
  subst e2
  obtain ⟨sv, rfl, hsv⟩ := zfi hA0
  obtain ⟨sa, scap, _, hsl, _, _, _⟩ := z7q hsv
  unfold zb9 at hy
  try dsimp only at hy
  suffices HX : ∀ R : Ending -> World -> Prop, Go.RowKit.Hid (∀ q w', Lift.Ends w S (mkS [(0, .v StT), (0, .v .str), (0, .v (.int .i64))] 0 ((ts, (ser, ())), (tn, (num, ())))) [.agg #[sv, .int .i64 ser], .string ⟨⟨tn⟩⟩, .int .i64 num] ob (z51 (.tup PlT) 2 y).1 (z51 (.tup PlT) 2 y).2 (.returned (.tuple #[q, .int .i64 y.2.1])) w' -> R (.returned (.tuple #[q, .int .i64 y.2.1])) w') -> Calls Go.Proofs.Try.prog 22 #[.agg #[sv, .int .i64 ser], .string ⟨⟨tn⟩⟩, .int .i64 num] w R from
    (HX (fun r w' => Lift.Ends w S (mkS [(0, .v StT), (0, .v .str), (0, .v (.int .i64))] 0 ((ts, (ser, ())), (tn, (num, ())))) [.agg #[sv, .int .i64 ser], .string ⟨⟨tn⟩⟩, .int .i64 num] ob (z51 (.tup PlT) 2 y).1 (z51 (.tup PlT) 2 y).2 r w') (Go.Lib.hid (fun q w' h => h)))
  intro R HR
  have h3 := PSt.start hS sv ser
  subst hsl
  clear har hv0 hA0 hv1 hA1 hv2 hA2
  obtain ⟨sn, hsn⟩ : ∃ n, n = ts.length := ⟨_, rfl⟩
  rw [<- hsn] at h3 HR hsv ⊢
  have HSN := Go.Lib.hid hsn
  clear hsn
  go_enter_defers Go.Proofs.Try.func22, Go.Proofs.Try.ntmps22
  go_upto_region 2 with (fail)
  obtain ⟨A3, hA3⟩ : ∃ A3, A3 = (((w.alloc (Obj.cells #[.slice sa sn scap, .int .i64 ser] 24)).alloc (Obj.cells #[.slice none 0 0] 28)).alloc (Obj.cells #[.int .i64 0] 29)) := ⟨_, rfl⟩
  obtain ⟨p2, hp2⟩ : ∃ p, p = w.heap.size + 1 + 1 := ⟨_, rfl⟩
  obtain ⟨p1, hp1⟩ : ∃ p, p = w.heap.size + 1 := ⟨_, rfl⟩
  obtain ⟨p0, hp0⟩ : ∃ p, p = w.heap.size := ⟨_, rfl⟩
  rw [<- hA3, <- hp2, <- hp1, <- hp0] at h3 ⊢
  clear hA3 hp0 hp1 hp2
  obtain ⟨f, hf, hz⟩ := Option.bind_eq_some_iff.1 hy
  clear hy
  have f1 := fun cs E => (h3.alloc cs E).glf
  have c1 := fun cs E => (h3.alloc cs E).glv
  obtain ⟨S5, s5, v5, h5⟩ := h3.build (E := 51) (cs := #[.int .i64 3, .string ⟨⟨tn⟩⟩, .int .i64 num, .int .i64 0, .string ⟨#[]⟩]) (n := 1) (l := [((3 : Int), (tn, (num, ((0 : Int), (([] : List UInt8), ())))))]) rfl rfl
  have H5 := Go.Lib.hid h5
  clear h3 h5
  go_upto_region 3 with (fail)
  have h5 := H5.out
  obtain ⟨A5, hA5⟩ : ∃ A5, A5 = (A3.alloc (Obj.cells #[.int .i64 3, .string ⟨⟨tn⟩⟩, .int .i64 num, .int .i64 0, .string ⟨#[]⟩] 51)).setCell ⟨p1, 0, none⟩ (.slice (some ⟨A3.heap.size, 0, none⟩) 1 1) := ⟨_, rfl⟩
  obtain ⟨lb, hlb⟩ : ∃ lb, lb = A3.heap.size := ⟨_, rfl⟩
  rw [<- hA5] at h5 ⊢
  rw [<- hlb] at h5 v5 ⊢
  clear hA5 hlb H5 f1 c1
  have k0 := h5.gsv
  have k1 := h5.gser
  have hcn := zwc N h5 (hsv.mono s5) hf
  obtain ⟨ft, fb, u2⟩ := f
  cases u2
  clear h5
  go_upto_region 4 with (go_at_call 18; refine hcn.mono ?_; rintro _ w6 ⟨S6, rfl, s6, h6⟩; have H6 := Go.Lib.hid h6; have s6' := s6; clear h6 s6 hcn)
  have h7 := H6.out
  clear k0 k1 H6
  have l1 := h7.glv
  have l2 := h7.glf
  have l3 := (h7.putL (.slice (some ⟨lb, 0, none⟩) 1 1)).gcv
  have l4 := (h7.putL (.slice (some ⟨lb, 0, none⟩) 1 1)).gcf
  have k0 := h7.gsv
  have k1 := h7.gser
  have H7 := Go.Lib.hid h7
  clear h7
  rcases fb with _ | _
  . rw [if_pos rfl] at hz
    go_wp2
    refine leaves_cons (f := 43) (args := #[.pointer (some ⟨p0, 0, none⟩), .pointer (some ⟨p1, 0, none⟩), .pointer (some ⟨p2, 0, none⟩)]) (by simp) (by simp [go_sem]) ?_
    refine (((H7.out.putL (.slice (some ⟨lb, 0, none⟩) 1 1)).putC 6).out N (z6x N) (vals := [.agg #[.slice sa sn scap, .int .i64 ser], .string ⟨⟨tn⟩⟩, .int .i64 num]) (hsv.mono (s5.trans s6')) (v5.mono s6') hz hob hargs).mono ?_
    rintro r u w7 ⟨⟨v, rfl⟩, rfl, q, c1, c2, hend⟩
    refine ⟨_, ?_, HR.out _ _ hend⟩
    simp [results, Go.Proofs.Try.results22, go_sem, c1, c2]
  . rw [if_neg (by decide)] at hz
    obtain ⟨g, hg2, hz⟩ := Option.bind_eq_some_iff.1 hz
    have hcm := zmf N H7.out (hsv.mono (s5.trans s6')) hg2
    obtain ⟨⟨gk, gt, u1⟩, gb, u2⟩ := g
    cases u1; cases u2
    clear l1 l2 l3 l4
    go_upto_region 7 with (go_at_call 17; refine hcm.mono ?_; rintro _ w8 ⟨S8, rfl, s8, h8⟩; have H8 := Go.Lib.hid h8; have s8' := s8; clear h8 s8 hcm)
    have h9 := H8.out.alloc #[.int .i64 gk, .string ⟨⟨gt⟩⟩] 43
    obtain ⟨A9, hA9⟩ : ∃ A9, A9 = w8.alloc (Obj.cells #[.int .i64 gk, .string ⟨⟨gt⟩⟩] 43) := ⟨_, rfl⟩
    obtain ⟨tb, htb⟩ : ∃ b, b = w8.heap.size := ⟨_, rfl⟩
    rw [<- hA9, <- htb] at h9 ⊢
    clear hA9 htb H8 k0 k1
    have m1 : A9.cell? ⟨tb, 0, none⟩ = some (.int .i64 gk) := h9.topCell rfl
    have l1 := h9.glv
    have l2 := h9.glf
    have l3 := (h9.putL (.slice (some ⟨lb, 0, none⟩) 1 1)).gcv
    have l4 := (h9.putL (.slice (some ⟨lb, 0, none⟩) 1 1)).gcf
    have H9 := Go.Lib.hid h9
    clear h9
    by_cases hlim : gk = num
    . rw [if_pos hlim] at hz
      go_wp2
      refine leaves_cons (f := 43) (args := #[.pointer (some ⟨p0, 0, none⟩), .pointer (some ⟨p1, 0, none⟩), .pointer (some ⟨p2, 0, none⟩)]) (by simp) (by simp [go_sem]) ?_
      refine (((H9.out.putL (.slice (some ⟨lb, 0, none⟩) 1 1)).putC 7).out N (z6x N) (vals := [.agg #[.slice sa sn scap, .int .i64 ser], .string ⟨⟨tn⟩⟩, .int .i64 num]) (hsv.mono (s5.trans (s6'.trans s8'))) (v5.mono (s6'.trans s8')) hz hob hargs).mono ?_
      rintro r u w7 ⟨⟨v, rfl⟩, rfl, q, c1, c2, hend⟩
      refine ⟨_, ?_, HR.out _ _ hend⟩
      simp [results, Go.Proofs.Try.results22, go_sem, c1, c2]
    . rw [if_neg hlim] at hz
      go_wp2
      refine leaves_cons (f := 43) (args := #[.pointer (some ⟨p0, 0, none⟩), .pointer (some ⟨p1, 0, none⟩), .pointer (some ⟨p2, 0, none⟩)]) (by simp) (by simp [go_sem]) ?_
      refine (((H9.out.putL (.slice (some ⟨lb, 0, none⟩) 1 1)).putC 0).out N (z6x N) (vals := [.agg #[.slice sa sn scap, .int .i64 ser], .string ⟨⟨tn⟩⟩, .int .i64 num]) (hsv.mono (s5.trans (s6'.trans s8'))) (v5.mono (s6'.trans s8')) hz hob hargs).mono ?_
      rintro r u w7 ⟨⟨v, rfl⟩, rfl, q, c1, c2, hend⟩
      refine ⟨_, ?_, HR.out _ _ hend⟩
      simp [results, Go.Proofs.Try.results22, go_sem, c1, c2]

end
end Go.Proofs.YtlohplpnhopldaaLg

set_option linter.all false
set_option maxRecDepth 100000
namespace Go.Proofs.YtlohplpnhopldaaLg
noncomputable section
open Go Go.Lift Go.Proofs

def z89 (N : Nat) (s : StT.den) (tn : List UInt8) (key : List UInt8) : Option (List EvT.den × (Int × Unit)) :=
 (z6n N s tn).bind fun f => (z6p N tn).bind fun g => z18 N s [((1 : Int), (tn, ((2 : Int), ((0 : Int), (([] : List UInt8), ()))))), ((2 : Int), (tn, ((1 : Int), ((0 : Int), (key, ())))))] (if g = false then 4 else if key.length ≠ 32 then 7 else if f.2.1 = true then 5 else if 16 <= s.1.length then 3 else 0)

def z88 (N : Nat) : List A -> Res := z1z [(0, .v StT), (0, .v .str), (0, .v .str)] (fun x => z89 N x.1 x.2.1 x.2.2.1) (z51 (.tup PlT) 2)

set_option maxHeartbeats 30000000 in
theorem zf1 (N : Nat) : Contract Go.Proofs.Try.prog zm 19 (z88 N) := by
  refine Contract.hand ⟨_, Go.Proofs.Try.func19, by kernel_rfl, by decide⟩ ?_
  intro w S vals ob x y har hS hg hy
  obtain ⟨⟨ts, ser, u0⟩, tn, key, u⟩ := x
  cases u; cases u0
  dsimp only at hy
  obtain ⟨⟨v0, hv0, hA0, ho0⟩, _⟩ := har.rel 0 _ rfl
  obtain ⟨⟨v1, hv1, hA1, ho1⟩, _⟩ := har.rel 1 _ rfl
  obtain ⟨⟨v2, hv2, hA2, ho2⟩, _⟩ := har.rel 2 _ rfl
  have hvals : vals = [v0, v1, v2] := by
    match vals, har.len, hv0, hv1, hv2 with
    | [a0, a1, a2], _, h0, h1, h2 => simp at h0 h1 h2; rw [h0, h1, h2]
  subst hvals
  have hob : ∀ i, ob i = [] := by
    intro i
    match i with
    | 0 => exact ho0
    | 1 => exact ho1
    | 2 => exact ho2
    | i + 3 => exact har.out _ (by simp [mkS, z6c])
  have hargs : ∀ y ∈ mkS [(0, .v StT), (0, .v .str), (0, .v .str)] 0 ((ts, (ser, ())), (tn, (key, ()))), z41 y = false := by
    intro y hy
    simp [mkS, z6c, AS.mk] at hy
    rcases hy with rfl | rfl | rfl <;> rfl
  have e1 := hA1.str_inv
  subst e1
  have e2 := hA2.str_inv
  subst e2
  obtain ⟨sv, rfl, hsv⟩ := zfi hA0
  obtain ⟨sa, scap, _, hsl, _, _, _⟩ := z7q hsv
  unfold z89 at hy
  try dsimp only at hy
  suffices HX : ∀ R : Ending -> World -> Prop, Go.RowKit.Hid (∀ q w', Lift.Ends w S (mkS [(0, .v StT), (0, .v .str), (0, .v .str)] 0 ((ts, (ser, ())), (tn, (key, ())))) [.agg #[sv, .int .i64 ser], .string ⟨⟨tn⟩⟩, .string ⟨⟨key⟩⟩] ob (z51 (.tup PlT) 2 y).1 (z51 (.tup PlT) 2 y).2 (.returned (.tuple #[q, .int .i64 y.2.1])) w' -> R (.returned (.tuple #[q, .int .i64 y.2.1])) w') -> Calls Go.Proofs.Try.prog 19 #[.agg #[sv, .int .i64 ser], .string ⟨⟨tn⟩⟩, .string ⟨⟨key⟩⟩] w R from
    (HX (fun r w' => Lift.Ends w S (mkS [(0, .v StT), (0, .v .str), (0, .v .str)] 0 ((ts, (ser, ())), (tn, (key, ())))) [.agg #[sv, .int .i64 ser], .string ⟨⟨tn⟩⟩, .string ⟨⟨key⟩⟩] ob (z51 (.tup PlT) 2 y).1 (z51 (.tup PlT) 2 y).2 r w') (Go.Lib.hid (fun q w' h => h)))
  intro R HR
  have h3 := PSt.start hS sv ser
  subst hsl
  clear har hv0 hA0 hv1 hA1 hv2 hA2
  obtain ⟨sn, hsn⟩ : ∃ n, n = ts.length := ⟨_, rfl⟩
  rw [<- hsn] at h3 HR hsv ⊢
  have HSN := Go.Lib.hid hsn
  clear hsn
  go_enter_defers Go.Proofs.Try.func19, Go.Proofs.Try.ntmps19
  go_upto_region 2 with (fail)
  obtain ⟨A3, hA3⟩ : ∃ A3, A3 = (((w.alloc (Obj.cells #[.slice sa sn scap, .int .i64 ser] 24)).alloc (Obj.cells #[.slice none 0 0] 28)).alloc (Obj.cells #[.int .i64 0] 29)) := ⟨_, rfl⟩
  obtain ⟨p2, hp2⟩ : ∃ p, p = w.heap.size + 1 + 1 := ⟨_, rfl⟩
  obtain ⟨p1, hp1⟩ : ∃ p, p = w.heap.size + 1 := ⟨_, rfl⟩
  obtain ⟨p0, hp0⟩ : ∃ p, p = w.heap.size := ⟨_, rfl⟩
  rw [<- hA3, <- hp2, <- hp1, <- hp0] at h3 ⊢
  clear hA3 hp0 hp1 hp2
  obtain ⟨f, hf, hy⟩ := Option.bind_eq_some_iff.1 hy
  obtain ⟨g, hgw, hz⟩ := Option.bind_eq_some_iff.1 hy
  clear hy
  have hce := zht N h3 tn 0 2
  unfold evV at hce
  clear h3
  go_upto_region 3 with (first | (go_at_call 28; refine hce.mono ?_; rintro _ w4 ⟨S4, rfl, s4, h4⟩; have s4' := s4; have hck := zp2 N h4 tn 1 key; unfold evV at hck; clear h4 s4 hce) | (go_at_call 29; refine hck.mono ?_; rintro _ w5 ⟨S5, rfl, s5, h5⟩; have H5 := Go.Lib.hid h5; have s5' := s5; have f1 := fun cs E => (h5.alloc cs E).glf; have c1 := fun cs E => (h5.alloc cs E).glv; clear h5 s5 hck))
  obtain ⟨S6, s6, v6, h6⟩ := H5.out.build (E := 51) (cs := #[.int .i64 1, .string ⟨⟨tn⟩⟩, .int .i64 2, .int .i64 0, .string ⟨#[]⟩, .int .i64 2, .string ⟨⟨tn⟩⟩, .int .i64 1, .int .i64 0, .string ⟨⟨key⟩⟩]) (n := 2) (l := [((1 : Int), (tn, ((2 : Int), ((0 : Int), (([] : List UInt8), ()))))), ((2 : Int), (tn, ((1 : Int), ((0 : Int), (key, ())))))]) rfl rfl
  obtain ⟨A6, hA6⟩ : ∃ A6, A6 = (w5.alloc (Obj.cells #[.int .i64 1, .string ⟨⟨tn⟩⟩, .int .i64 2, .int .i64 0, .string ⟨#[]⟩, .int .i64 2, .string ⟨⟨tn⟩⟩, .int .i64 1, .int .i64 0, .string ⟨⟨key⟩⟩] 51)).setCell ⟨p1, 0, none⟩ (.slice (some ⟨w5.heap.size, 0, none⟩) 2 2) := ⟨_, rfl⟩
  obtain ⟨lb, hlb⟩ : ∃ lb, lb = w5.heap.size := ⟨_, rfl⟩
  rw [<- hA6] at h6 ⊢
  rw [<- hlb] at h6 v6 ⊢
  clear hA6 hlb H5 f1 c1
  have k0 := h6.gsv
  have k1 := h6.gser
  have s6' := s4'.trans (s5'.trans s6)
  have hcf := zg3 N h6 (hsv.mono s6') hf
  obtain ⟨⟨fn, fe, fx, fks, u1⟩, fb, u2⟩ := f
  cases u1; cases u2
  try dsimp only at hz
  try dsimp only at hcf
  obtain ⟨fl, hfl⟩ : ∃ n, n = fks.length := ⟨_, rfl⟩
  rw [<- hfl] at hcf
  clear h6 hfl
  go_upto_region 4 with (go_at_call 39; refine hcf.mono ?_; rintro _ w7 ⟨ka, kc, S7, rfl, s7, h7⟩; have H7 := Go.Lib.hid h7; have s7' := s7; clear h7 s7 hcf)
  have h7 := H7.out.alloc #[.string ⟨⟨fn⟩⟩, .int .i64 fe, .int .i64 fx, .slice ka fl kc] 41
  obtain ⟨A7, hA7⟩ : ∃ A7, A7 = w7.alloc (Obj.cells #[.string ⟨⟨fn⟩⟩, .int .i64 fe, .int .i64 fx, .slice ka fl kc] 41) := ⟨_, rfl⟩
  obtain ⟨tb, htb⟩ : ∃ b, b = w7.heap.size := ⟨_, rfl⟩
  rw [<- hA7, <- htb] at h7 ⊢
  clear hA7 htb H7 k0 k1
  have hcw := zss N h7 hgw
  clear h7
  rcases g with _ | _
  . rw [if_pos rfl] at hz
    go_upto_region 5 with (go_at_call 40; refine hcw.mono ?_; rintro _ w8 ⟨S8, rfl, s8, h8⟩; have H8 := Go.Lib.hid h8; have s8' := s8; clear h8 s8 hcw)
    have h8 := H8.out
    have l1 := h8.glv
    have l2 := h8.glf
    have l3 := (h8.putL (.slice (some ⟨lb, 0, none⟩) 2 2)).gcv
    have l4 := (h8.putL (.slice (some ⟨lb, 0, none⟩) 2 2)).gcf
    clear h8
    go_wp2
    refine leaves_cons (f := 37) (args := #[.pointer (some ⟨p0, 0, none⟩), .pointer (some ⟨p1, 0, none⟩), .pointer (some ⟨p2, 0, none⟩)]) (by simp) (by simp [go_sem]) ?_
    refine (((H8.out.putL (.slice (some ⟨lb, 0, none⟩) 2 2)).putC 4).out N (z3c N) (vals := [.agg #[.slice sa sn scap, .int .i64 ser], .string ⟨⟨tn⟩⟩, .string ⟨⟨key⟩⟩]) (hsv.mono (s6'.trans (s7'.trans s8'))) (v6.mono (s7'.trans s8')) hz hob hargs).mono ?_
    rintro r u w7 ⟨⟨v, rfl⟩, rfl, q, c1, c2, hend⟩
    refine ⟨_, ?_, HR.out _ _ hend⟩
    simp [results, Go.Proofs.Try.results19, go_sem, c1, c2]
  . rw [if_neg (show ¬ (true = false) by decide)] at hz
    go_upto_region 6 with (go_at_call 40; refine hcw.mono ?_; rintro _ w8 ⟨S8, rfl, s8, h8⟩; have H8 := Go.Lib.hid h8; have s8' := s8; clear h8 s8 hcw)
    have h8 := H8.out
    have l1 := h8.glv
    have l2 := h8.glf
    have l3 := (h8.putL (.slice (some ⟨lb, 0, none⟩) 2 2)).gcv
    have l4 := (h8.putL (.slice (some ⟨lb, 0, none⟩) 2 2)).gcf
    have k0 := h8.gsv
    clear h8
    by_cases hk : key.length = 32
    . rw [if_neg (by omega)] at hz
      rcases fb with _ | _
      . rw [if_neg (show ¬ (false = true) by decide)] at hz
        have hsn := HSN.out
        rw [<- hsn] at hz
        by_cases hlim : 16 <= sn
        . rw [if_pos hlim] at hz
          clear hsn
          go_wp2
          refine leaves_cons (f := 37) (args := #[.pointer (some ⟨p0, 0, none⟩), .pointer (some ⟨p1, 0, none⟩), .pointer (some ⟨p2, 0, none⟩)]) (by simp) (by simp [go_sem]) ?_
          refine (((H8.out.putL (.slice (some ⟨lb, 0, none⟩) 2 2)).putC 3).out N (z3c N) (vals := [.agg #[.slice sa sn scap, .int .i64 ser], .string ⟨⟨tn⟩⟩, .string ⟨⟨key⟩⟩]) (hsv.mono (s6'.trans (s7'.trans s8'))) (v6.mono (s7'.trans s8')) hz hob hargs).mono ?_
          rintro r u w7 ⟨⟨v, rfl⟩, rfl, q, c1, c2, hend⟩
          refine ⟨_, ?_, HR.out _ _ hend⟩
          simp [results, Go.Proofs.Try.results19, go_sem, c1, c2]
        . rw [if_neg hlim] at hz
          clear hsn
          go_wp2
          refine leaves_cons (f := 37) (args := #[.pointer (some ⟨p0, 0, none⟩), .pointer (some ⟨p1, 0, none⟩), .pointer (some ⟨p2, 0, none⟩)]) (by simp) (by simp [go_sem]) ?_
          refine (((H8.out.putL (.slice (some ⟨lb, 0, none⟩) 2 2)).putC 0).out N (z3c N) (vals := [.agg #[.slice sa sn scap, .int .i64 ser], .string ⟨⟨tn⟩⟩, .string ⟨⟨key⟩⟩]) (hsv.mono (s6'.trans (s7'.trans s8'))) (v6.mono (s7'.trans s8')) hz hob hargs).mono ?_
          rintro r u w7 ⟨⟨v, rfl⟩, rfl, q, c1, c2, hend⟩
          refine ⟨_, ?_, HR.out _ _ hend⟩
          simp [results, Go.Proofs.Try.results19, go_sem, c1, c2]
      . rw [if_pos rfl] at hz
        go_wp2
        refine leaves_cons (f := 37) (args := #[.pointer (some ⟨p0, 0, none⟩), .pointer (some ⟨p1, 0, none⟩), .pointer (some ⟨p2, 0, none⟩)]) (by simp) (by simp [go_sem]) ?_
        refine (((H8.out.putL (.slice (some ⟨lb, 0, none⟩) 2 2)).putC 5).out N (z3c N) (vals := [.agg #[.slice sa sn scap, .int .i64 ser], .string ⟨⟨tn⟩⟩, .string ⟨⟨key⟩⟩]) (hsv.mono (s6'.trans (s7'.trans s8'))) (v6.mono (s7'.trans s8')) hz hob hargs).mono ?_
        rintro r u w7 ⟨⟨v, rfl⟩, rfl, q, c1, c2, hend⟩
        refine ⟨_, ?_, HR.out _ _ hend⟩
        simp [results, Go.Proofs.Try.results19, go_sem, c1, c2]
    . rw [if_pos hk] at hz
      go_wp2
      refine leaves_cons (f := 37) (args := #[.pointer (some ⟨p0, 0, none⟩), .pointer (some ⟨p1, 0, none⟩), .pointer (some ⟨p2, 0, none⟩)]) (by simp) (by simp [go_sem]) ?_
      refine (((H8.out.putL (.slice (some ⟨lb, 0, none⟩) 2 2)).putC 7).out N (z3c N) (vals := [.agg #[.slice sa sn scap, .int .i64 ser], .string ⟨⟨tn⟩⟩, .string ⟨⟨key⟩⟩]) (hsv.mono (s6'.trans (s7'.trans s8'))) (v6.mono (s7'.trans s8')) hz hob hargs).mono ?_
      rintro r u w7 ⟨⟨v, rfl⟩, rfl, q, c1, c2, hend⟩
      refine ⟨_, ?_, HR.out _ _ hend⟩
      simp [results, Go.Proofs.Try.results19, go_sem, c1, c2]

end
end Go.Proofs.YtlohplpnhopldaaLg

set_option linter.all false
set_option maxRecDepth 100000
namespace Go.Proofs.YtlohplpnhopldaaLg
noncomputable section
open Go Go.Lift Go.Proofs

def zb7 (N : Nat) (s : StT.den) (tn : List UInt8) (key : List UInt8) : Option (List EvT.den × (Int × Unit)) :=
 (z6n N s tn).bind fun f => z18 N s [((1 : Int), (tn, (Go.IntKind.wrap .i64 (f.1.2.2.1 + 1), (f.1.2.1, (([] : List UInt8), ()))))), ((2 : Int), (tn, (f.1.2.2.1, ((0 : Int), (key, ())))))] (if f.2.1 = false then 6 else if key.length ≠ 32 then 7 else if 8 <= f.1.2.2.2.1.length then 3 else if 1099511627776 <= f.1.2.2.1 then 3 else 0)

def zd6 (N : Nat) : List A -> Res := z1z [(0, .v StT), (0, .v .str), (0, .v .str)] (fun x => zb7 N x.1 x.2.1 x.2.2.1) (z51 (.tup PlT) 2)

set_option maxHeartbeats 30000000 in
theorem znv (N : Nat) : Contract Go.Proofs.Try.prog zm 21 (zd6 N) := by
  refine Contract.hand ⟨_, Go.Proofs.Try.func21, by kernel_rfl, by decide⟩ ?_
  intro w S vals ob x y har hS hg hy
  obtain ⟨⟨ts, ser, u0⟩, tn, key, u⟩ := x
  cases u; cases u0
  dsimp only at hy
  obtain ⟨⟨v0, hv0, hA0, ho0⟩, _⟩ := har.rel 0 _ rfl
  obtain ⟨⟨v1, hv1, hA1, ho1⟩, _⟩ := har.rel 1 _ rfl
  obtain ⟨⟨v2, hv2, hA2, ho2⟩, _⟩ := har.rel 2 _ rfl
  have hvals : vals = [v0, v1, v2] := by
    match vals, har.len, hv0, hv1, hv2 with
    | [a0, a1, a2], _, h0, h1, h2 => simp at h0 h1 h2; rw [h0, h1, h2]
  subst hvals
  have hob : ∀ i, ob i = [] := by
    intro i
    match i with
    | 0 => exact ho0
    | 1 => exact ho1
    | 2 => exact ho2
    | i + 3 => exact har.out _ (by simp [mkS, z6c])
  have hargs : ∀ y ∈ mkS [(0, .v StT), (0, .v .str), (0, .v .str)] 0 ((ts, (ser, ())), (tn, (key, ()))), z41 y = false := by
    intro y hy
    simp [mkS, z6c, AS.mk] at hy
    rcases hy with rfl | rfl | rfl <;> rfl
  have e1 := hA1.str_inv
  subst e1
  have e2 := hA2.str_inv
  subst e2
  obtain ⟨sv, rfl, hsv⟩ := zfi hA0
  obtain ⟨sa, scap, _, hsl, _, _, _⟩ := z7q hsv
  unfold zb7 at hy
  try dsimp only at hy
  suffices HX : ∀ R : Ending -> World -> Prop, Go.RowKit.Hid (∀ q w', Lift.Ends w S (mkS [(0, .v StT), (0, .v .str), (0, .v .str)] 0 ((ts, (ser, ())), (tn, (key, ())))) [.agg #[sv, .int .i64 ser], .string ⟨⟨tn⟩⟩, .string ⟨⟨key⟩⟩] ob (z51 (.tup PlT) 2 y).1 (z51 (.tup PlT) 2 y).2 (.returned (.tuple #[q, .int .i64 y.2.1])) w' -> R (.returned (.tuple #[q, .int .i64 y.2.1])) w') -> Calls Go.Proofs.Try.prog 21 #[.agg #[sv, .int .i64 ser], .string ⟨⟨tn⟩⟩, .string ⟨⟨key⟩⟩] w R from
    (HX (fun r w' => Lift.Ends w S (mkS [(0, .v StT), (0, .v .str), (0, .v .str)] 0 ((ts, (ser, ())), (tn, (key, ())))) [.agg #[sv, .int .i64 ser], .string ⟨⟨tn⟩⟩, .string ⟨⟨key⟩⟩] ob (z51 (.tup PlT) 2 y).1 (z51 (.tup PlT) 2 y).2 r w') (Go.Lib.hid (fun q w' h => h)))
  intro R HR
  have h3 := PSt.start hS sv ser
  subst hsl
  clear har hv0 hA0 hv1 hA1 hv2 hA2
  obtain ⟨sn, hsn⟩ : ∃ n, n = ts.length := ⟨_, rfl⟩
  rw [<- hsn] at h3 HR hsv ⊢
  have HSN := Go.Lib.hid hsn
  clear hsn
  go_enter_defers Go.Proofs.Try.func21, Go.Proofs.Try.ntmps21
  go_upto_region 2 with (fail)
  obtain ⟨A3, hA3⟩ : ∃ A3, A3 = (((w.alloc (Obj.cells #[.slice sa sn scap, .int .i64 ser] 24)).alloc (Obj.cells #[.slice none 0 0] 28)).alloc (Obj.cells #[.int .i64 0] 29)) := ⟨_, rfl⟩
  obtain ⟨p2, hp2⟩ : ∃ p, p = w.heap.size + 1 + 1 := ⟨_, rfl⟩
  obtain ⟨p1, hp1⟩ : ∃ p, p = w.heap.size + 1 := ⟨_, rfl⟩
  obtain ⟨p0, hp0⟩ : ∃ p, p = w.heap.size := ⟨_, rfl⟩
  rw [<- hA3, <- hp2, <- hp1, <- hp0] at h3 ⊢
  clear hA3 hp0 hp1 hp2
  obtain ⟨f, hf, hz⟩ := Option.bind_eq_some_iff.1 hy
  clear hy
  have k0 := h3.gsv
  have k1 := h3.gser
  have hcf := zg3 N h3 hsv hf
  obtain ⟨⟨fn, fe, fx, fks, u1⟩, fb, u2⟩ := f
  cases u1; cases u2
  try dsimp only at hz
  try dsimp only at hcf
  obtain ⟨fl, hfl⟩ : ∃ n, n = fks.length := ⟨_, rfl⟩
  rw [<- hfl] at hcf hz
  clear h3 hfl
  go_upto_region 3 with (go_at_call 39; refine hcf.mono ?_; rintro _ w4 ⟨ka, kc, S4, rfl, s4, h4⟩; have H4 := Go.Lib.hid h4; have s4' := s4; clear h4 s4 hcf)
  have h4 := H4.out.alloc #[.string ⟨⟨fn⟩⟩, .int .i64 fe, .int .i64 fx, .slice ka fl kc] 41
  obtain ⟨A4, hA4⟩ : ∃ A4, A4 = w4.alloc (Obj.cells #[.string ⟨⟨fn⟩⟩, .int .i64 fe, .int .i64 fx, .slice ka fl kc] 41) := ⟨_, rfl⟩
  obtain ⟨tb, htb⟩ : ∃ b, b = w4.heap.size := ⟨_, rfl⟩
  rw [<- hA4, <- htb] at h4 ⊢
  clear hA4 htb H4 k0 k1
  obtain ⟨Q, hQ⟩ : ∃ Q : World -> Prop, Q = fun W' => ∃ S', Lift.Sub S4 S' /\ PSt w S W' S' p0 p1 p2 (.slice sa sn scap) ser (.slice none 0 0) 0 [(tb, #[.string ⟨⟨fn⟩⟩, .int .i64 fe, .int .i64 fx, .slice ka fl kc], 41)] := ⟨_, rfl⟩
  have q0 : Q A4 := by rw [hQ]; exact ⟨S4, Lift.Sub.refl _, h4⟩
  have qc : ∀ W', Q W' -> W'.cell? ⟨tb, 1, none⟩ = some (.int .i64 fe) /\ W'.cell? ⟨tb, 2, none⟩ = some (.int .i64 fx) := by
    intro W' h; rw [hQ] at h
    obtain ⟨S', _, h⟩ := h
    exact ⟨h.topCell rfl, h.topCell rfl⟩
  have qd : ∀ W', Q W' -> Q W'.drew := by
    intro W' h; rw [hQ] at h ⊢
    obtain ⟨S', h1, h⟩ := h
    exact ⟨S', h1, h.st.drew, h.d01, h.d02, h.d12, h.far⟩
  have qt : ∀ W', Q W' -> Calls Go.Proofs.Try.prog 28 #[.string ⟨⟨tn⟩⟩, .int .i64 fe, .int .i64 (Go.IntKind.wrap .i64 (fx + 1))] W' fun e w' => e = .returned (evV 1 tn (Go.IntKind.wrap .i64 (fx + 1)) fe []) /\ Q w' := by
    intro W' h; rw [hQ] at h ⊢
    obtain ⟨S', h1, h⟩ := h
    refine (zht N h tn fe (Go.IntKind.wrap .i64 (fx + 1))).mono ?_
    rintro e w' ⟨S2, rfl, h2, h3⟩
    exact ⟨rfl, S2, h1.trans h2, h3⟩
  have qk : ∀ W', Q W' -> Calls Go.Proofs.Try.prog 29 #[.string ⟨⟨tn⟩⟩, .int .i64 fx, .string ⟨⟨key⟩⟩] W' fun e w' => e = .returned (evV 2 tn fx 0 key) /\ Q w' := by
    intro W' h; rw [hQ] at h ⊢
    obtain ⟨S', h1, h⟩ := h
    refine (zp2 N h tn fx key).mono ?_
    rintro e w' ⟨S2, rfl, h2, h3⟩
    exact ⟨rfl, S2, h1.trans h2, h3⟩
  have qb : ∀ W', Q W' -> (∀ cs E, (W'.alloc (.cells cs E)).frozen? ⟨p1, 0, none⟩ = false) /\ (∀ cs E, (W'.alloc (.cells cs E)).cell? ⟨p1, 0, none⟩ = some (.slice none 0 0)) := by
    intro W' h; rw [hQ] at h
    obtain ⟨S', h1, h⟩ := h
    exact ⟨fun cs E => (h.alloc cs E).glf, fun cs E => (h.alloc cs E).glv⟩
  unfold evV at qt qk
  have HQ := Go.Lib.hid hQ
  have hcell := qc _ q0
  have m1 := hcell.1
  have m2 := hcell.2
  have hcd := qc _ (qd _ q0)
  clear h4 hQ hcell
  have qe : ∀ W', Q W' -> ∀ cs E v, ((W'.alloc (.cells cs E)).cell? ⟨tb, 1, none⟩ = some (.int .i64 fe) /\ (W'.alloc (.cells cs E)).cell? ⟨tb, 2, none⟩ = some (.int .i64 fx)) /\ (((W'.alloc (.cells cs E)).setCell ⟨p1, 0, none⟩ v).cell? ⟨tb, 1, none⟩ = some (.int .i64 fe) /\ ((W'.alloc (.cells cs E)).setCell ⟨p1, 0, none⟩ v).cell? ⟨tb, 2, none⟩ = some (.int .i64 fx)) := by
    intro W' h cs E v; rw [HQ.out] at h
    obtain ⟨S', h1, h⟩ := h
    have e1 := h.alloc cs E
    have e2 := e1.putL v
    exact ⟨⟨e1.st.cell (.tail _ (.tail _ (.tail _ (.tail _ (.head _))))) rfl, e1.st.cell (.tail _ (.tail _ (.tail _ (.tail _ (.head _))))) rfl⟩, e2.st.cell (.tail _ (.tail _ (.tail _ (.tail _ (.head _))))) rfl, e2.st.cell (.tail _ (.tail _ (.tail _ (.tail _ (.head _))))) rfl⟩
  go_region_held3 (fun W' => W'.cell? ⟨tb, 1, none⟩ = some (.int .i64 fe) /\ W'.cell? ⟨tb, 2, none⟩ = some (.int .i64 fx))
    (first | exact ⟨m1, m2⟩ | exact hcd | assumption | exact (g6e _ _ (.slice none 0 0)).1 | exact (g6e _ _ _).2)
    (first
      | (go_at_call 28; refine (qt _ (by first | assumption | exact qd _ q0)).mono ?_; rintro _ w5 ⟨rfl, g5⟩; have g5c := qc _ g5)
      | (go_at_call 29; refine (qk _ (by first | assumption | exact qd _ q0)).mono ?_; rintro _ w6 ⟨rfl, g6⟩; have g6c := qc _ g6; have g6a := (qb _ g6).1; have g6b := (qb _ g6).2; have g6e := qe _ g6))
  have g6' := g6
  rw [HQ.out] at g6'
  obtain ⟨S5, s5, h5⟩ := g6'
  obtain ⟨S6, s6, v6, h6⟩ := h5.build (E := 51) (cs := #[.int .i64 1, .string ⟨⟨tn⟩⟩, .int .i64 (Go.IntKind.wrap .i64 (fx + 1)), .int .i64 fe, .string ⟨#[]⟩, .int .i64 2, .string ⟨⟨tn⟩⟩, .int .i64 fx, .int .i64 0, .string ⟨⟨key⟩⟩]) (n := 2) (l := [((1 : Int), (tn, (Go.IntKind.wrap .i64 (fx + 1), (fe, (([] : List UInt8), ()))))), ((2 : Int), (tn, (fx, ((0 : Int), (key, ())))))]) rfl rfl
  obtain ⟨A6, hA6⟩ : ∃ A6, A6 = (w6.alloc (Obj.cells #[.int .i64 1, .string ⟨⟨tn⟩⟩, .int .i64 (Go.IntKind.wrap .i64 (fx + 1)), .int .i64 fe, .string ⟨#[]⟩, .int .i64 2, .string ⟨⟨tn⟩⟩, .int .i64 fx, .int .i64 0, .string ⟨⟨key⟩⟩] 51)).setCell ⟨p1, 0, none⟩ (.slice (some ⟨w6.heap.size, 0, none⟩) 2 2) := ⟨_, rfl⟩
  obtain ⟨lb, hlb⟩ : ∃ lb, lb = w6.heap.size := ⟨_, rfl⟩
  rw [<- hA6] at h6 ⊢
  rw [<- hlb] at h6 v6 ⊢
  clear hA6 hlb h5 g6 g6c g6a g6b g6e g5 g5c q0 qc qd qt qk qb qe m1 m2 hcd
  have m2 : A6.cell? ⟨tb, 2, none⟩ = some (.int .i64 fx) := h6.topCell rfl
  have m3 : A6.cell? ⟨tb, 3, none⟩ = some (.slice ka fl kc) := h6.topCell rfl
  have l1 := h6.glv
  have l2 := h6.glf
  have l3 := (h6.putL (.slice (some ⟨lb, 0, none⟩) 2 2)).gcv
  have l4 := (h6.putL (.slice (some ⟨lb, 0, none⟩) 2 2)).gcf
  have H6 := Go.Lib.hid h6
  clear h6
  rcases fb with _ | _
  . rw [if_pos rfl] at hz
    go_wp2
    refine leaves_cons (f := 42) (args := #[.pointer (some ⟨p0, 0, none⟩), .pointer (some ⟨p1, 0, none⟩), .pointer (some ⟨p2, 0, none⟩)]) (by simp) (by simp [go_sem]) ?_
    refine (((H6.out.putL (.slice (some ⟨lb, 0, none⟩) 2 2)).putC 6).out N (z3d N) (vals := [.agg #[.slice sa sn scap, .int .i64 ser], .string ⟨⟨tn⟩⟩, .string ⟨⟨key⟩⟩]) (hsv.mono (s4'.trans (s5.trans s6))) v6 hz hob hargs).mono ?_
    rintro r u w7 ⟨⟨v, rfl⟩, rfl, q, c1, c2, hend⟩
    refine ⟨_, ?_, HR.out _ _ hend⟩
    simp [results, Go.Proofs.Try.results21, go_sem, c1, c2]
  . rw [if_neg (show ¬ (true = false) by decide)] at hz
    by_cases hk : key.length = 32
    . rw [if_neg (by omega)] at hz
      by_cases h8 : 8 <= fl
      . rw [if_pos h8] at hz
        go_wp2
        refine leaves_cons (f := 42) (args := #[.pointer (some ⟨p0, 0, none⟩), .pointer (some ⟨p1, 0, none⟩), .pointer (some ⟨p2, 0, none⟩)]) (by simp) (by simp [go_sem]) ?_
        refine (((H6.out.putL (.slice (some ⟨lb, 0, none⟩) 2 2)).putC 3).out N (z3d N) (vals := [.agg #[.slice sa sn scap, .int .i64 ser], .string ⟨⟨tn⟩⟩, .string ⟨⟨key⟩⟩]) (hsv.mono (s4'.trans (s5.trans s6))) v6 hz hob hargs).mono ?_
        rintro r u w7 ⟨⟨v, rfl⟩, rfl, q, c1, c2, hend⟩
        refine ⟨_, ?_, HR.out _ _ hend⟩
        simp [results, Go.Proofs.Try.results21, go_sem, c1, c2]
      . rw [if_neg h8] at hz
        by_cases hlim : 1099511627776 <= fx
        . rw [if_pos hlim] at hz
          go_wp2
          refine leaves_cons (f := 42) (args := #[.pointer (some ⟨p0, 0, none⟩), .pointer (some ⟨p1, 0, none⟩), .pointer (some ⟨p2, 0, none⟩)]) (by simp) (by simp [go_sem]) ?_
          refine (((H6.out.putL (.slice (some ⟨lb, 0, none⟩) 2 2)).putC 3).out N (z3d N) (vals := [.agg #[.slice sa sn scap, .int .i64 ser], .string ⟨⟨tn⟩⟩, .string ⟨⟨key⟩⟩]) (hsv.mono (s4'.trans (s5.trans s6))) v6 hz hob hargs).mono ?_
          rintro r u w7 ⟨⟨v, rfl⟩, rfl, q, c1, c2, hend⟩
          refine ⟨_, ?_, HR.out _ _ hend⟩
          simp [results, Go.Proofs.Try.results21, go_sem, c1, c2]
        . rw [if_neg hlim] at hz
          go_wp2
          refine leaves_cons (f := 42) (args := #[.pointer (some ⟨p0, 0, none⟩), .pointer (some ⟨p1, 0, none⟩), .pointer (some ⟨p2, 0, none⟩)]) (by simp) (by simp [go_sem]) ?_
          refine (((H6.out.putL (.slice (some ⟨lb, 0, none⟩) 2 2)).putC 0).out N (z3d N) (vals := [.agg #[.slice sa sn scap, .int .i64 ser], .string ⟨⟨tn⟩⟩, .string ⟨⟨key⟩⟩]) (hsv.mono (s4'.trans (s5.trans s6))) v6 hz hob hargs).mono ?_
          rintro r u w7 ⟨⟨v, rfl⟩, rfl, q, c1, c2, hend⟩
          refine ⟨_, ?_, HR.out _ _ hend⟩
          simp [results, Go.Proofs.Try.results21, go_sem, c1, c2]
    . rw [if_pos hk] at hz
      go_wp2
      refine leaves_cons (f := 42) (args := #[.pointer (some ⟨p0, 0, none⟩), .pointer (some ⟨p1, 0, none⟩), .pointer (some ⟨p2, 0, none⟩)]) (by simp) (by simp [go_sem]) ?_
      refine (((H6.out.putL (.slice (some ⟨lb, 0, none⟩) 2 2)).putC 7).out N (z3d N) (vals := [.agg #[.slice sa sn scap, .int .i64 ser], .string ⟨⟨tn⟩⟩, .string ⟨⟨key⟩⟩]) (hsv.mono (s4'.trans (s5.trans s6))) v6 hz hob hargs).mono ?_
      rintro r u w7 ⟨⟨v, rfl⟩, rfl, q, c1, c2, hend⟩
      refine ⟨_, ?_, HR.out _ _ hend⟩
      simp [results, Go.Proofs.Try.results21, go_sem, c1, c2]

end
end Go.Proofs.YtlohplpnhopldaaLg

set_option linter.all false
set_option maxRecDepth 100000
namespace Go.Proofs.YtlohplpnhopldaaLg
noncomputable section
open Go Go.Lift

def zaw : Code := (Go.Proofs.Try.f14.body).getD .skip

def zhx : List (List Nat × List Nat) := [([0], [2, 4, 1]), ([0, 0, 1], [12, 4, 2, 1]), ([1, 0, 1], [2, 1, 4]), ([0, 0, 1, 0, 1], [4, 5]), ([1, 0, 1, 0, 1], [4, 5]), ([0, 1, 1], [1, 6, 4]), ([0, 0, 1, 1, 1], [18, 17, 16, 6, 4]), ([0, 1, 0, 1, 1, 1], [18, 17, 16, 6, 4]), ([0, 0, 0, 1, 0, 1, 1, 1], [19, 16, 18, 6, 4, 17]), ([0, 1, 0, 0, 1, 0, 1, 1, 1], [16, 18, 6, 4, 17]), ([1, 0, 1, 0, 0, 1, 0, 1, 1, 1], [6, 4]), ([0, 0, 0, 1, 1, 0, 0, 1, 0, 1, 1, 1], [6, 8, 4, 18, 17, 16]), ([0, 1, 0, 0, 1, 1, 0, 0, 1, 0, 1, 1, 1], [6, 8, 4, 18, 17, 16]), ([0, 1, 1, 0, 0, 1, 1, 0, 0, 1, 0, 1, 1, 1], [9, 4, 18, 17, 16, 6]), ([0, 1, 1, 1, 0, 0, 1, 1, 0, 0, 1, 0, 1, 1, 1], [29, 9, 4, 18, 17, 16, 6]), ([1, 1, 1, 1, 0, 0, 1, 1, 0, 0, 1, 0, 1, 1, 1], [18, 17, 16, 6, 4]), ([0, 0, 1, 1, 1, 1, 0, 0, 1, 1, 0, 0, 1, 0, 1, 1, 1], [4, 5]), ([1, 0, 1, 1, 1, 1, 0, 0, 1, 1, 0, 0, 1, 0, 1, 1, 1], [4, 5]), ([0, 1, 1, 0, 0, 1, 0, 1, 1, 1], [18, 17, 16, 6, 4]), ([1, 1, 1, 0, 0, 1, 0, 1, 1, 1], [18, 17, 16, 6, 4]), ([1, 0, 1, 1, 1], [6, 4]), ([0, 1, 1, 1, 1], [4, 5]), ([1, 1, 1, 1, 1], [4, 5])]

def zdy (N : Nat) : Env := z45 tys zm [(13, z47 N), (32, zer N), (33, zex N)] [] [] [] false [] []

theorem zrf (N : Nat) : EnvOk Go.Proofs.Try.prog (zdy N) := z16 mixed z28 (FnsOk.cons (z55 N) (FnsOk.cons (zps N) (FnsOk.cons (zq3 N) (FnsOk.nil)))) (ItsOk.nil)

def zft (N : Nat) (x4 : ((List ((List UInt8) × (Int × (Int × ((List (Int × ((List UInt8) × Unit))) × Unit))))) × (Int × Unit))) (x16 : (List (Int × ((List UInt8) × (Int × (Int × ((List UInt8) × Unit))))))) (x17 : Int) (after : ((List ((List UInt8) × (Int × (Int × ((List (Int × ((List UInt8) × Unit))) × Unit))))) × (Int × Unit))) (x18 : Int) (rec : ((List ((List UInt8) × (Int × (Int × ((List (Int × ((List UInt8) × Unit))) × Unit))))) × (Int × Unit)) -> Int -> Option (((List ((List UInt8) × (Int × (Int × ((List (Int × ((List UInt8) × Unit))) × Unit))))) × (Int × Unit)) × Int × Unit)) (k0 : ((List ((List UInt8) × (Int × (Int × ((List (Int × ((List UInt8) × Unit))) × Unit))))) × (Int × Unit)) -> Int -> Option (((List ((List UInt8) × (Int × (Int × ((List (Int × ((List UInt8) × Unit))) × Unit))))) × (Int × Unit)) × Int × Unit)) (k1 : ((List ((List UInt8) × (Int × (Int × ((List (Int × ((List UInt8) × Unit))) × Unit))))) × (Int × Unit)) -> Option (((List ((List UInt8) × (Int × (Int × ((List (Int × ((List UInt8) × Unit))) × Unit))))) × (Int × Unit)) × Int × Unit)) : Option (((List ((List UInt8) × (Int × (Int × ((List (Int × ((List UInt8) × Unit))) × Unit))))) × (Int × Unit)) × Int × Unit) :=
 cond (decide (x18 < x17))
 (cond (Go.Lift.inR x18 (List.length x16))
 ((z9q N after (List.getD x16 (Int.toNat x18) ((0 : Int), (([] : List UInt8), ((0 : Int), ((0 : Int), (([] : List UInt8), ()))))))).bind fun y =>
 cond (y.2.1 != (0 : Int))
 (k0 (([] : List ((List UInt8) × (Int × (Int × ((List (Int × ((List UInt8) × Unit))) × Unit))))), ((0 : Int), ())) y.2.1)
 (rec y.1 (Go.IntKind.wrap Go.IntKind.i64 (x18 + (1 : Int)))))
 (none))
 (k1 after)

def zlt (N : Nat) (x4 : ((List ((List UInt8) × (Int × (Int × ((List (Int × ((List UInt8) × Unit))) × Unit))))) × (Int × Unit))) (after : ((List ((List UInt8) × (Int × (Int × ((List (Int × ((List UInt8) × Unit))) × Unit))))) × (Int × Unit))) (x16 : (List (Int × ((List UInt8) × (Int × (Int × ((List UInt8) × Unit))))))) (x17 : Int) (x18 : Int) (k0 : ((List ((List UInt8) × (Int × (Int × ((List (Int × ((List UInt8) × Unit))) × Unit))))) × (Int × Unit)) -> Int -> Option (((List ((List UInt8) × (Int × (Int × ((List (Int × ((List UInt8) × Unit))) × Unit))))) × (Int × Unit)) × Int × Unit)) (k1 : ((List ((List UInt8) × (Int × (Int × ((List (Int × ((List UInt8) × Unit))) × Unit))))) × (Int × Unit)) -> Option (((List ((List UInt8) × (Int × (Int × ((List (Int × ((List UInt8) × Unit))) × Unit))))) × (Int × Unit)) × Int × Unit)) : Option (((List ((List UInt8) × (Int × (Int × ((List (Int × ((List UInt8) × Unit))) × Unit))))) × (Int × Unit)) × Int × Unit) :=
 iter (fun (v : (((List ((List UInt8) × (Int × (Int × ((List (Int × ((List UInt8) × Unit))) × Unit))))) × (Int × Unit)) × Int)) r => zft N x4 x16 x17 v.1 v.2 (fun after x18 => (r (after, x18))) k0 k1) N (after, x18)

def zlv (N : Nat) (i : (((List ((List UInt8) × (Int × (Int × ((List (Int × ((List UInt8) × Unit))) × Unit))))) × (Int × Unit)) × (List (Int × ((List UInt8) × (Int × (Int × ((List UInt8) × Unit)))))) × Int)) (v : (((List ((List UInt8) × (Int × (Int × ((List (Int × ((List UInt8) × Unit))) × Unit))))) × (Int × Unit)) × Int)) (r : (((List ((List UInt8) × (Int × (Int × ((List (Int × ((List UInt8) × Unit))) × Unit))))) × (Int × Unit)) × Int) -> Option (((List ((List UInt8) × (Int × (Int × ((List (Int × ((List UInt8) × Unit))) × Unit))))) × (Int × Unit)) × Int × Unit)) (K : Ex -> List A -> Option (((List ((List UInt8) × (Int × (Int × ((List (Int × ((List UInt8) × Unit))) × Unit))))) × (Int × Unit)) × Int × Unit)) : Option (((List ((List UInt8) × (Int × (Int × ((List (Int × ((List UInt8) × Unit))) × Unit))))) × (Int × Unit)) × Int × Unit) :=
 zft N i.1 i.2.1 i.2.2 v.1 v.2 (fun after x18 => (r (after, x18))) (fun a0 a1 => (K .ret (mkS [(4, .box (.pair (.sl (.pair .str (.pair (.int .i64) (.pair (.int .i64) (.pair (.sl (.pair (.int .i64) (.pair .str .unit))) .unit))))) (.pair (.int .i64) .unit))), (0, .v (.int .i64))] 28 (a0, a1, ())))) (fun a1 => (K (.exit 0) (mkS [(4, .box (.pair (.sl (.pair .str (.pair (.int .i64) (.pair (.int .i64) (.pair (.sl (.pair (.int .i64) (.pair .str .unit))) .unit))))) (.pair (.int .i64) .unit))), (1, .box (.pair (.sl (.pair .str (.pair (.int .i64) (.pair (.int .i64) (.pair (.sl (.pair (.int .i64) (.pair .str .unit))) .unit))))) (.pair (.int .i64) .unit)))] 27 (i.1, a1, ()))))

def zlu (N : Nat) : Hd (((List ((List UInt8) × (Int × (Int × ((List (Int × ((List UInt8) × Unit))) × Unit))))) × (Int × Unit)) × Int × Unit) := fun st K => (unS [(4, .box (.pair (.sl (.pair .str (.pair (.int .i64) (.pair (.int .i64) (.pair (.sl (.pair (.int .i64) (.pair .str .unit))) .unit))))) (.pair (.int .i64) .unit))), (1, .box (.pair (.sl (.pair .str (.pair (.int .i64) (.pair (.int .i64) (.pair (.sl (.pair (.int .i64) (.pair .str .unit))) .unit))))) (.pair (.int .i64) .unit))), (9, .v (.sl (.pair (.int .i64) (.pair .str (.pair (.int .i64) (.pair (.int .i64) (.pair .str .unit))))))), (0, .v (.int .i64)), (0, .v (.int .i64))] 15 (restr [18, 17, 16, 6, 4] 0 st)).bind fun x => iter (fun v r => zlv N ((fun x => (x.1, x.2.2.1, x.2.2.2.1)) x) v r K) N ((fun x => (x.2.1, x.2.2.2.2.1)) x)

def zt3 (N : Nat) : Tab (((List ((List UInt8) × (Int × (Int × ((List (Int × ((List UInt8) × Unit))) × Unit))))) × (Int × Unit)) × Int × Unit) := []

theorem zre {N : Nat} {c : Ctx} (hb : Base Go.Proofs.Try.prog (zdy N) c) : z1b Go.Proofs.Try.prog c (zp zaw [0, 1, 0, 1, 1, 1]) (zlu N) :=
  z9d (s := [(4, .box (.pair (.sl (.pair .str (.pair (.int .i64) (.pair (.int .i64) (.pair (.sl (.pair (.int .i64) (.pair .str .unit))) .unit))))) (.pair (.int .i64) .unit))), (1, .box (.pair (.sl (.pair .str (.pair (.int .i64) (.pair (.int .i64) (.pair (.sl (.pair (.int .i64) (.pair .str .unit))) .unit))))) (.pair (.int .i64) .unit))), (9, .v (.sl (.pair (.int .i64) (.pair .str (.pair (.int .i64) (.pair (.int .i64) (.pair .str .unit))))))), (0, .v (.int .i64)), (0, .v (.int .i64))]) (m := 15) (zlv N) [18, 17, 16, 6, 4] N (fun x => (x.1, x.2.2.1, x.2.2.2.1)) (fun x => (x.2.1, x.2.2.2.2.1)) (fun i v => (i.1, v.1, i.2.1, i.2.2, v.2, ())) (fun _ => rfl) (zo hb N (zt3 N) zhx zaw TabOk.nil [0, 0, 1, 0, 1, 1, 1] _ rfl) (fun i v r K => by kernel_rfl)

def zdz (N : Nat) (s : ((List ((List UInt8) × (Int × (Int × ((List (Int × ((List UInt8) × Unit))) × Unit))))) × (Int × Unit))) (l : (List (Int × ((List UInt8) × (Int × (Int × ((List UInt8) × Unit))))))) : Option (((List ((List UInt8) × (Int × (Int × ((List (Int × ((List UInt8) × Unit))) × Unit))))) × (Int × Unit)) × Int × Unit) :=
 (z3h N s).bind fun y =>
 cond (!y)
 (some ((([] : List ((List UInt8) × (Int × (Int × ((List (Int × ((List UInt8) × Unit))) × Unit))))), ((0 : Int), ())), ((7 : Int), ())))
 ((z9o N s).bind fun y1 =>
 zlt N (([] : List ((List UInt8) × (Int × (Int × ((List (Int × ((List UInt8) × Unit))) × Unit))))), ((0 : Int), ())) y1 l (((List.length l) : Nat) : Int) (0 : Int)
 (fun x4 x5 => some (x4, (x5, ())))
 (fun after => some (after, ((0 : Int), ()))))

def zoq (N : Nat) : Tab (((List ((List UInt8) × (Int × (Int × ((List (Int × ((List UInt8) × Unit))) × Unit))))) × (Int × Unit)) × Int × Unit) := [([0, 1, 0, 1, 1, 1], zlu N)]

theorem zq4 (N : Nat) (x : z2g [(0, .v (.pair (.sl (.pair .str (.pair (.int .i64) (.pair (.int .i64) (.pair (.sl (.pair (.int .i64) (.pair .str .unit))) .unit))))) (.pair (.int .i64) .unit))), (0, .v (.sl (.pair (.int .i64) (.pair .str (.pair (.int .i64) (.pair (.int .i64) (.pair .str .unit)))))))]) : zc7 (zdy N) N (zoq N) zhx Go.Proofs.Try.f14 (mkS [(0, .v (.pair (.sl (.pair .str (.pair (.int .i64) (.pair (.int .i64) (.pair (.sl (.pair (.int .i64) (.pair .str .unit))) .unit))))) (.pair (.int .i64) .unit))), (0, .v (.sl (.pair (.int .i64) (.pair .str (.pair (.int .i64) (.pair (.int .i64) (.pair .str .unit)))))))] 0 x) (z6g (.tup [(.pair (.sl (.pair .str (.pair (.int .i64) (.pair (.int .i64) (.pair (.sl (.pair (.int .i64) (.pair .str .unit))) .unit))))) (.pair (.int .i64) .unit)), (.int .i64)]) 2) = zdz N x.1 x.2.1 := by kernel_rfl

def zcq (N : Nat) : List A -> Res := z1z [(0, .v (.pair (.sl (.pair .str (.pair (.int .i64) (.pair (.int .i64) (.pair (.sl (.pair (.int .i64) (.pair .str .unit))) .unit))))) (.pair (.int .i64) .unit))), (0, .v (.sl (.pair (.int .i64) (.pair .str (.pair (.int .i64) (.pair (.int .i64) (.pair .str .unit)))))))] (fun x => zdz N x.1 x.2.1) (z51 (.tup [(.pair (.sl (.pair .str (.pair (.int .i64) (.pair (.int .i64) (.pair (.sl (.pair (.int .i64) (.pair .str .unit))) .unit))))) (.pair (.int .i64) .unit)), (.int .i64)]) 2)

theorem zlw (N : Nat) : Contract Go.Proofs.Try.prog zm 14 (zcq N) :=
  Contract.of (E := zdy N) (H := zoq N) (L := zhx) (N := N) (body := zaw) (K := (z6g (.tup [(.pair (.sl (.pair .str (.pair (.int .i64) (.pair (.int .i64) (.pair (.sl (.pair (.int .i64) (.pair .str .unit))) .unit))))) (.pair (.int .i64) .unit)), (.int .i64)]) 2)) (zrf N) Go.Proofs.Try.func14 (by kernel_rfl) (by decide) (fun _ hb => (TabOk.cons (zre hb) TabOk.nil)) (fun x y h => by rw [zq4]; exact h) (z20 (s := (.tup [(.pair (.sl (.pair .str (.pair (.int .i64) (.pair (.int .i64) (.pair (.sl (.pair (.int .i64) (.pair .str .unit))) .unit))))) (.pair (.int .i64) .unit)), (.int .i64)])) (m := 2))

def zca : Code := (Go.Proofs.Try.f7.body).getD .skip

def z85 : List (List Nat × List Nat) := [([0], []), ([0, 1], [1, 2]), ([0, 1, 1], [3, 2, 4, 1]), ([0, 1, 1, 1], [2, 4, 1, 6, 5, 3]), ([0, 1, 1, 1, 1], [0]), ([1, 1, 1, 1, 1], [0])]

def z4j (N : Nat) : Env := z45 tys zm [(14, zcq N), (11, zfa N), (19, z88 N), (20, zba N)] [(1, (.pair (.int .i64) (.pair .str (.pair (.int .i64) (.pair (.int .i64) (.pair .str .unit)))))), (5, (.pair (.int .i64) (.pair .str (.pair (.int .i64) (.pair (.int .i64) (.pair .str .unit))))))] [] [] false [] []

theorem zcz (N : Nat) : EnvOk Go.Proofs.Try.prog (z4j N) := z16 mixed z28 (FnsOk.cons (zlw N) (FnsOk.cons (zqc N) (FnsOk.cons (zf1 N) (FnsOk.cons (zjl N) (FnsOk.nil))))) (ItsOk.nil)

def z2o (N : Nat) : Option Bool :=
 (z89 N (([] : List ((List UInt8) × (Int × (Int × ((List (Int × ((List UInt8) × Unit))) × Unit))))), ((6 : Int), ())) ([(97 : UInt8), (99 : UInt8), (109 : UInt8), (101 : UInt8)] : List UInt8) ([(48 : UInt8), (49 : UInt8), (50 : UInt8), (51 : UInt8), (52 : UInt8), (53 : UInt8), (54 : UInt8), (55 : UInt8), (56 : UInt8), (57 : UInt8), (97 : UInt8), (98 : UInt8), (99 : UInt8), (100 : UInt8), (101 : UInt8), (102 : UInt8), (48 : UInt8), (49 : UInt8), (50 : UInt8), (51 : UInt8), (52 : UInt8), (53 : UInt8), (54 : UInt8), (55 : UInt8), (56 : UInt8), (57 : UInt8), (97 : UInt8), (98 : UInt8), (99 : UInt8), (100 : UInt8), (101 : UInt8), (102 : UInt8)] : List UInt8)).bind fun y =>
 (zdz N (([] : List ((List UInt8) × (Int × (Int × ((List (Int × ((List UInt8) × Unit))) × Unit))))), ((6 : Int), ())) y.1).bind fun y1 =>
 (zda N y1.1 ([(97 : UInt8), (99 : UInt8), (109 : UInt8), (101 : UInt8)] : List UInt8)).bind fun y2 =>
 cond (y.2.1 == (0 : Int))
 (cond (y1.2.1 == (0 : Int))
 (cond ((((List.length y.1) : Nat) : Int) == (2 : Int))
 (cond (y2.2.1 == (0 : Int))
 (cond ((((List.length y2.1) : Nat) : Int) == (1 : Int))
 (cond (Go.Lift.inR (0 : Int) (List.length y2.1))
 (cond (Go.Lift.eqD (Go.Lift.unT EvT) (List.getD y2.1 0 ((0 : Int), (([] : List UInt8), ((0 : Int), ((0 : Int), (([] : List UInt8), ())))))) ((4 : Int), (([] : List UInt8), ((7 : Int), ((0 : Int), (([] : List UInt8), ()))))))
 ((zia N y1.1).bind fun y3 =>
 some ((((List.length y3) : Nat) : Int) == (3 : Int)))
 (some false))
 (none))
 (some false))
 (some false))
 (some false))
 (some false))
 (some false)

def z84 (N : Nat) : Tab Bool := []

theorem zc9 (N : Nat) (x : z2g []) : zc7 (z4j N) N (z84 N) z85 Go.Proofs.Try.f7 (mkS [] 0 x) (z6g (.v .bool) 0) = z2o N := by kernel_rfl

def z6m (N : Nat) : List A -> Res := z1z [] (fun x => z2o N) (z51 (.v .bool) 0)

theorem zeg (N : Nat) : Contract Go.Proofs.Try.prog zm 7 (z6m N) :=
  Contract.of (E := z4j N) (H := z84 N) (L := z85) (N := N) (body := zca) (K := (z6g (.v .bool) 0)) (zcz N) Go.Proofs.Try.func7 (by kernel_rfl) (by decide) (fun _ hb => TabOk.nil) (fun x y h => by rw [zc9]; exact h) (z20 (s := (.v .bool)) (m := 0))

def zd1 : Code := (Go.Proofs.Try.f8.body).getD .skip

def z8p : List (List Nat × List Nat) := [([0], [0, 6, 2, 3, 4]), ([0, 0, 1], [13, 6, 2, 3, 0, 4]), ([1, 0, 1], [0, 6, 2, 3, 4]), ([0, 0, 1, 0, 1], [10, 11]), ([1, 0, 1, 0, 1], [10, 11]), ([0, 0, 1, 1], [21, 6, 2, 3, 0, 4]), ([1, 0, 1, 1], [0, 6, 2, 4]), ([0, 0, 1, 0, 1, 1], [10, 11]), ([1, 0, 1, 0, 1, 1], [10, 11]), ([0, 0, 1, 1, 1], [29, 6, 2, 4, 0]), ([1, 0, 1, 1, 1], [0, 6, 2]), ([0, 0, 1, 0, 1, 1, 1], [10, 11]), ([1, 0, 1, 0, 1, 1, 1], [10, 11]), ([0, 0, 1, 1, 1, 1], [37, 6, 2]), ([1, 0, 1, 1, 1, 1], [6, 2]), ([0, 0, 1, 0, 1, 1, 1, 1], [10, 11]), ([1, 0, 1, 0, 1, 1, 1, 1], [10, 11]), ([0, 1, 1, 1, 1, 1], [10, 11]), ([1, 1, 1, 1, 1, 1], [10, 11])]

def z58 (N : Nat) : Env := z45 tys zm [(19, z88 N), (20, zba N), (21, zd6 N), (22, zd8 N), (23, zd7 N)] [] [] [] false [] []

theorem zeh (N : Nat) : EnvOk Go.Proofs.Try.prog (z58 N) := z16 mixed z28 (FnsOk.cons (zf1 N) (FnsOk.cons (zjl N) (FnsOk.cons (znv N) (FnsOk.cons (znx N) (FnsOk.cons (znw N) (FnsOk.nil)))))) (ItsOk.nil)

def z3b (N : Nat) (op : Int) (s : ((List ((List UInt8) × (Int × (Int × ((List (Int × ((List UInt8) × Unit))) × Unit))))) × (Int × Unit))) (name : (List UInt8)) (key : (List UInt8)) (num : Int) : Option ((List (Int × ((List UInt8) × (Int × (Int × ((List UInt8) × Unit)))))) × Int × Unit) :=
 cond (op == (1 : Int))
 ((z89 N s name key).bind fun y =>
 some (y.1, (y.2.1, ())))
 (cond (op == (2 : Int))
 ((zb7 N s name key).bind fun y1 =>
 some (y1.1, (y1.2.1, ())))
 (cond (op == (3 : Int))
 ((zb9 N s name num).bind fun y2 =>
 some (y2.1, (y2.2.1, ())))
 (cond (op == (4 : Int))
 ((zb8 N s name).bind fun y3 =>
 some (y3.1, (y3.2.1, ())))
 ((zda N s name).bind fun y4 =>
 some (y4.1, (y4.2.1, ()))))))

def z8o (N : Nat) : Tab ((List (Int × ((List UInt8) × (Int × (Int × ((List UInt8) × Unit)))))) × Int × Unit) := []

theorem zd0 (N : Nat) (x : z2g [(0, .v (.int .i64)), (0, .v (.pair (.sl (.pair .str (.pair (.int .i64) (.pair (.int .i64) (.pair (.sl (.pair (.int .i64) (.pair .str .unit))) .unit))))) (.pair (.int .i64) .unit))), (0, .v .str), (0, .v .str), (0, .v (.int .i64))]) : zc7 (z58 N) N (z8o N) z8p Go.Proofs.Try.f8 (mkS [(0, .v (.int .i64)), (0, .v (.pair (.sl (.pair .str (.pair (.int .i64) (.pair (.int .i64) (.pair (.sl (.pair (.int .i64) (.pair .str .unit))) .unit))))) (.pair (.int .i64) .unit))), (0, .v .str), (0, .v .str), (0, .v (.int .i64))] 0 x) (z6g (.tup [(.sl (.pair (.int .i64) (.pair .str (.pair (.int .i64) (.pair (.int .i64) (.pair .str .unit)))))), (.int .i64)]) 5) = z3b N x.1 x.2.1 x.2.2.1 x.2.2.2.1 x.2.2.2.2.1 := by kernel_rfl

def z7c (N : Nat) : List A -> Res := z1z [(0, .v (.int .i64)), (0, .v (.pair (.sl (.pair .str (.pair (.int .i64) (.pair (.int .i64) (.pair (.sl (.pair (.int .i64) (.pair .str .unit))) .unit))))) (.pair (.int .i64) .unit))), (0, .v .str), (0, .v .str), (0, .v (.int .i64))] (fun x => z3b N x.1 x.2.1 x.2.2.1 x.2.2.2.1 x.2.2.2.2.1) (z51 (.tup [(.sl (.pair (.int .i64) (.pair .str (.pair (.int .i64) (.pair (.int .i64) (.pair .str .unit)))))), (.int .i64)]) 5)

theorem zfv (N : Nat) : Contract Go.Proofs.Try.prog zm 8 (z7c N) :=
  Contract.of (E := z58 N) (H := z8o N) (L := z8p) (N := N) (body := zd1) (K := (z6g (.tup [(.sl (.pair (.int .i64) (.pair .str (.pair (.int .i64) (.pair (.int .i64) (.pair .str .unit)))))), (.int .i64)]) 5)) (zeh N) Go.Proofs.Try.func8 (by kernel_rfl) (by decide) (fun _ hb => TabOk.nil) (fun x y h => by rw [zd0]; exact h) (z20 (s := (.tup [(.sl (.pair (.int .i64) (.pair .str (.pair (.int .i64) (.pair (.int .i64) (.pair .str .unit)))))), (.int .i64)])) (m := 5))

def z7 : Code := (Go.Proofs.Try.f5.body).getD .skip

def ze : List (List Nat × List Nat) := [([0], [3, 4, 2]), ([0, 0, 1], [32, 3, 4, 2]), ([1, 0, 1], [3, 4, 2]), ([0, 0, 1, 0, 1], [6]), ([1, 0, 1, 0, 1], [6]), ([0, 0, 1, 1], [7, 3, 4, 2]), ([0, 1, 0, 1, 1], [7, 3, 4, 2]), ([0, 0, 0, 0, 1, 0, 1, 1], [35, 7, 3, 4, 2]), ([1, 0, 0, 0, 1, 0, 1, 1], [7, 3, 4, 2]), ([1, 1, 0, 0, 0, 1, 0, 1, 1], []), ([0, 0, 0, 1, 0, 0, 1, 0, 1, 1], [9, 7, 3, 4, 2, 8]), ([0, 0, 1, 0, 0, 1, 0, 0, 1, 0, 1, 1], [50, 7, 3, 4, 2, 8]), ([1, 0, 1, 0, 0, 1, 0, 0, 1, 0, 1, 1], [3, 8, 4, 2, 7]), ([0, 1, 0, 1, 0, 0, 1, 0, 0, 1, 0, 1, 1], [7, 3, 4, 2]), ([0, 1, 1, 0, 0, 1, 0, 0, 1, 0, 1, 1], [10, 4, 11, 3, 2, 7]), ([0, 1, 1, 1, 0, 0, 1, 0, 0, 1, 0, 1, 1], [11, 12, 10, 4, 3, 2, 7]), ([0, 0, 1, 1, 1, 1, 0, 0, 1, 0, 0, 1, 0, 1, 1], [73, 10, 12, 4, 3, 2, 7]), ([1, 0, 1, 1, 1, 1, 0, 0, 1, 0, 0, 1, 0, 1, 1], [10, 12, 4, 3, 2, 7]), ([0, 0, 1, 0, 1, 1, 1, 1, 0, 0, 1, 0, 0, 1, 0, 1, 1], [6]), ([1, 0, 1, 0, 1, 1, 1, 1, 0, 0, 1, 0, 0, 1, 0, 1, 1], [6]), ([0, 1, 1, 1, 1, 1, 0, 0, 1, 0, 0, 1, 0, 1, 1], [4, 3, 10, 2, 7, 13]), ([0, 1, 1, 1, 1, 1, 1, 0, 0, 1, 0, 0, 1, 0, 1, 1], [3, 4, 14, 10, 2, 7, 13]), ([0, 1, 1, 1, 1, 1, 1, 1, 0, 0, 1, 0, 0, 1, 0, 1, 1], [15, 3, 14, 10, 4, 2, 7, 13]), ([0, 0, 1, 1, 1, 1, 1, 1, 1, 1, 0, 0, 1, 0, 0, 1, 0, 1, 1], [94, 3, 15, 14, 10, 4, 2, 7, 13]), ([1, 0, 1, 1, 1, 1, 1, 1, 1, 1, 0, 0, 1, 0, 0, 1, 0, 1, 1], [10, 4, 2, 7, 13, 14, 3]), ([0, 1, 0, 1, 1, 1, 1, 1, 1, 1, 1, 0, 0, 1, 0, 0, 1, 0, 1, 1], [10, 4, 2, 7, 13, 14, 3]), ([0, 1, 1, 1, 1, 1, 1, 1, 1, 1, 0, 0, 1, 0, 0, 1, 0, 1, 1], [10, 4, 2, 7, 17, 16, 13, 14, 3]), ([0, 1, 1, 1, 1, 1, 1, 1, 1, 1, 1, 0, 0, 1, 0, 0, 1, 0, 1, 1], [7, 17, 16, 4, 13, 14, 19, 10, 3, 2]), ([0, 0, 1, 1, 1, 1, 1, 1, 1, 1, 1, 1, 1, 0, 0, 1, 0, 0, 1, 0, 1, 1], [144, 7, 19, 13, 14, 10, 3, 4, 2]), ([1, 0, 1, 1, 1, 1, 1, 1, 1, 1, 1, 1, 1, 0, 0, 1, 0, 0, 1, 0, 1, 1], [7, 19, 13, 14, 10, 3, 4, 2]), ([0, 0, 1, 0, 1, 1, 1, 1, 1, 1, 1, 1, 1, 1, 1, 0, 0, 1, 0, 0, 1, 0, 1, 1], [6]), ([1, 0, 1, 0, 1, 1, 1, 1, 1, 1, 1, 1, 1, 1, 1, 0, 0, 1, 0, 0, 1, 0, 1, 1], [6]), ([0, 0, 1, 1, 1, 1, 1, 1, 1, 1, 1, 1, 1, 1, 0, 0, 1, 0, 0, 1, 0, 1, 1], [192, 7, 10, 3, 4, 2]), ([1, 0, 1, 1, 1, 1, 1, 1, 1, 1, 1, 1, 1, 1, 0, 0, 1, 0, 0, 1, 0, 1, 1], [7, 10, 3, 4, 2]), ([0, 0, 1, 0, 1, 1, 1, 1, 1, 1, 1, 1, 1, 1, 1, 1, 0, 0, 1, 0, 0, 1, 0, 1, 1], [6]), ([1, 0, 1, 0, 1, 1, 1, 1, 1, 1, 1, 1, 1, 1, 1, 1, 0, 0, 1, 0, 0, 1, 0, 1, 1], [6]), ([0, 1, 1, 1, 1, 1, 1, 1, 1, 1, 1, 1, 1, 1, 0, 0, 1, 0, 0, 1, 0, 1, 1], [228, 7, 3, 4, 2]), ([1, 1, 1, 1, 1, 1, 1, 1, 1, 1, 1, 1, 1, 1, 0, 0, 1, 0, 0, 1, 0, 1, 1], [7, 3, 4, 2]), ([0, 0, 1, 1, 1, 1, 1, 1, 1, 1, 1, 1, 1, 1, 1, 1, 0, 0, 1, 0, 0, 1, 0, 1, 1], [6]), ([1, 0, 1, 1, 1, 1, 1, 1, 1, 1, 1, 1, 1, 1, 1, 1, 0, 0, 1, 0, 0, 1, 0, 1, 1], [6]), ([0, 1, 0, 0, 1, 0, 1, 1], [7, 3, 4, 2]), ([1, 1, 0, 0, 1, 0, 1, 1], [7, 3, 4, 2]), ([1, 0, 1, 1], []), ([0, 1, 1, 1], [6]), ([1, 1, 1, 1], [6])]

def zd (N : Nat) : Env := z45 tys zm [(8, z7c N), (7, z6m N), (14, zcq N), (6, z6l N), (13, z47 N), (16, z57 N), (17, zcn N), (18, zja N)] [(8, (.pair (.int .i64) (.pair .str (.pair (.int .i64) (.pair (.int .i64) (.pair .str .unit))))))] [] [] false [] []

theorem za7 (N : Nat) : EnvOk Go.Proofs.Try.prog (zd N) := z16 mixed z28 (FnsOk.cons (zfv N) (FnsOk.cons (zeg N) (FnsOk.cons (zlw N) (FnsOk.cons (zef N) (FnsOk.cons (z55 N) (FnsOk.cons (z6k N) (FnsOk.cons (zew N) (FnsOk.cons (zln N) (FnsOk.nil))))))))) (ItsOk.nil)

def z34 (N : Nat) (num : Int) (s : ((List ((List UInt8) × (Int × (Int × ((List (Int × ((List UInt8) × Unit))) × Unit))))) × (Int × Unit))) (l : (List (List UInt8))) (k0 : Bool -> Option Bool) : Option Bool :=
 (z2n N s).bind fun y =>
 cond y
 (k0 true)
 ((z3h N s).bind fun y1 =>
 cond (!y1)
 (k0 true)
 (cond (decide (0 < (List.length l)))
 (k0 (decide ((100 : Int) < (((List.length (List.getD l 0 ([] : List UInt8))) : Nat) : Int))))
 (none)))

def z5q (N : Nat) (x : z2g [(2, .v (.int .i64)), (0, .box (.pair (.sl (.pair .str (.pair (.int .i64) (.pair (.int .i64) (.pair (.sl (.pair (.int .i64) (.pair .str .unit))) .unit))))) (.pair (.int .i64) .unit))), (0, .box (.arr 2 .str))]) (K : Ex -> List A -> Option Bool) : Option Bool :=
 z34 N x.1 x.2.1 x.2.2.1 (fun a3 => (K .normal (mkS [(2, .v (.int .i64)), (0, .box (.pair (.sl (.pair .str (.pair (.int .i64) (.pair (.int .i64) (.pair (.sl (.pair (.int .i64) (.pair .str .unit))) .unit))))) (.pair (.int .i64) .unit))), (0, .box (.arr 2 .str)), (27, .v .bool)] 197 (x.1, x.2.1, x.2.2.1, a3, ()))))

def z5h (N : Nat) : Hd Bool := fun st K => (unS [(2, .v (.int .i64)), (0, .box (.pair (.sl (.pair .str (.pair (.int .i64) (.pair (.int .i64) (.pair (.sl (.pair (.int .i64) (.pair .str .unit))) .unit))))) (.pair (.int .i64) .unit))), (0, .box (.arr 2 .str))] 225 (restr [3, 4, 2] 0 st)).bind fun x => z5q N x K

def zb4 (N : Nat) : Tab Bool := []

theorem za5 {N : Nat} {c : Ctx} (hb : Base Go.Proofs.Try.prog (zd N) c) : z1b Go.Proofs.Try.prog c (zp z7 [0, 0, 1]) (z5h N) :=
  z1i (s := [(2, .v (.int .i64)), (0, .box (.pair (.sl (.pair .str (.pair (.int .i64) (.pair (.int .i64) (.pair (.sl (.pair (.int .i64) (.pair .str .unit))) .unit))))) (.pair (.int .i64) .unit))), (0, .box (.arr 2 .str))]) (m := 225) (g := z5q N) [3, 4, 2] (zo hb N (zb4 N) ze z7 TabOk.nil [0, 0, 1] _ rfl) (fun x K => by kernel_rfl)

def z35 (N : Nat) (num : Int) (s : ((List ((List UInt8) × (Int × (Int × ((List (Int × ((List UInt8) × Unit))) × Unit))))) × (Int × Unit))) (l : (List (List UInt8))) (k0 : Bool -> Option Bool) (k1 : Option Bool) : Option Bool :=
 z34 N num s l
 (fun x32 => cond x32
 ((z2o N).bind fun y =>
 k0 y)
 (k1))

def z5r (N : Nat) (x : z2g [(2, .v (.int .i64)), (0, .box (.pair (.sl (.pair .str (.pair (.int .i64) (.pair (.int .i64) (.pair (.sl (.pair (.int .i64) (.pair .str .unit))) .unit))))) (.pair (.int .i64) .unit))), (0, .box (.arr 2 .str))]) (K : Ex -> List A -> Option Bool) : Option Bool :=
 z35 N x.1 x.2.1 x.2.2.1 (fun a0 => (K .ret (mkS [(6, .v .bool)] 223 (a0, ())))) (K .normal (mkS [(2, .v (.int .i64)), (0, .box (.pair (.sl (.pair .str (.pair (.int .i64) (.pair (.int .i64) (.pair (.sl (.pair (.int .i64) (.pair .str .unit))) .unit))))) (.pair (.int .i64) .unit))), (0, .box (.arr 2 .str))] 225 (x.1, x.2.1, x.2.2.1, ())))

def z5i (N : Nat) : Hd Bool := fun st K => (unS [(2, .v (.int .i64)), (0, .box (.pair (.sl (.pair .str (.pair (.int .i64) (.pair (.int .i64) (.pair (.sl (.pair (.int .i64) (.pair .str .unit))) .unit))))) (.pair (.int .i64) .unit))), (0, .box (.arr 2 .str))] 225 (restr [3, 4, 2] 0 st)).bind fun x => z5r N x K

def zb5 (N : Nat) : Tab Bool := [([0, 0, 1], z5h N)]

theorem za6 {N : Nat} {c : Ctx} (hb : Base Go.Proofs.Try.prog (zd N) c) : z1b Go.Proofs.Try.prog c (zp z7 [0, 1]) (z5i N) :=
  z1i (s := [(2, .v (.int .i64)), (0, .box (.pair (.sl (.pair .str (.pair (.int .i64) (.pair (.int .i64) (.pair (.sl (.pair (.int .i64) (.pair .str .unit))) .unit))))) (.pair (.int .i64) .unit))), (0, .box (.arr 2 .str))]) (m := 225) (g := z5r N) [3, 4, 2] (zo hb N (zb5 N) ze z7 (TabOk.cons (za5 hb) TabOk.nil) [0, 1] _ rfl) (fun x K => by kernel_rfl)

def z31 (N : Nat) (num : Int) (s : ((List ((List UInt8) × (Int × (Int × ((List (Int × ((List UInt8) × Unit))) × Unit))))) × (Int × Unit))) (l : (List (List UInt8))) (op : Int) (t : ((List ((List UInt8) × (Int × (Int × ((List (Int × ((List UInt8) × Unit))) × Unit))))) × (Int × Unit))) (f : Int) (k : Int) (k0 : Bool -> Option Bool) : Option Bool :=
 cond (f != (0 : Int))
 (k0 true)
 (cond (decide (k < (0 : Int)))
 (k0 true)
 (k0 (decide ((((List.length t.1) : Nat) : Int) <= k))))

def z5m (N : Nat) (x : z2g [(2, .v (.int .i64)), (0, .box (.pair (.sl (.pair .str (.pair (.int .i64) (.pair (.int .i64) (.pair (.sl (.pair (.int .i64) (.pair .str .unit))) .unit))))) (.pair (.int .i64) .unit))), (0, .box (.arr 2 .str)), (2, .v (.int .i64)), (2, .box (.pair (.sl (.pair .str (.pair (.int .i64) (.pair (.int .i64) (.pair (.sl (.pair (.int .i64) (.pair .str .unit))) .unit))))) (.pair (.int .i64) .unit))), (0, .v (.int .i64)), (0, .v (.int .i64))]) (K : Ex -> List A -> Option Bool) : Option Bool :=
 z31 N x.1 x.2.1 x.2.2.1 x.2.2.2.1 x.2.2.2.2.1 x.2.2.2.2.2.1 x.2.2.2.2.2.2.1 (fun a6 => (K .normal (mkS [(2, .v (.int .i64)), (0, .box (.pair (.sl (.pair .str (.pair (.int .i64) (.pair (.int .i64) (.pair (.sl (.pair (.int .i64) (.pair .str .unit))) .unit))))) (.pair (.int .i64) .unit))), (0, .box (.arr 2 .str)), (2, .v (.int .i64)), (2, .box (.pair (.sl (.pair .str (.pair (.int .i64) (.pair (.int .i64) (.pair (.sl (.pair (.int .i64) (.pair .str .unit))) .unit))))) (.pair (.int .i64) .unit))), (1, .v (.int .i64)), (60, .v .bool)] 156 (x.1, x.2.1, x.2.2.1, x.2.2.2.1, x.2.2.2.2.1, x.2.2.2.2.2.2.1, a6, ()))))

def z5d (N : Nat) : Hd Bool := fun st K => (unS [(2, .v (.int .i64)), (0, .box (.pair (.sl (.pair .str (.pair (.int .i64) (.pair (.int .i64) (.pair (.sl (.pair (.int .i64) (.pair .str .unit))) .unit))))) (.pair (.int .i64) .unit))), (0, .box (.arr 2 .str)), (2, .v (.int .i64)), (2, .box (.pair (.sl (.pair .str (.pair (.int .i64) (.pair (.int .i64) (.pair (.sl (.pair (.int .i64) (.pair .str .unit))) .unit))))) (.pair (.int .i64) .unit))), (0, .v (.int .i64)), (0, .v (.int .i64))] 217 (restr [11, 12, 10, 4, 3, 2, 7] 0 st)).bind fun x => z5m N x K

def zb0 (N : Nat) : Tab Bool := []

theorem za1 {N : Nat} {c : Ctx} (hb : Base Go.Proofs.Try.prog (zd N) c) : z1b Go.Proofs.Try.prog c (zp z7 [0, 0, 1, 1, 1, 1, 0, 0, 1, 0, 0, 1, 0, 1, 1]) (z5d N) :=
  z1i (s := [(2, .v (.int .i64)), (0, .box (.pair (.sl (.pair .str (.pair (.int .i64) (.pair (.int .i64) (.pair (.sl (.pair (.int .i64) (.pair .str .unit))) .unit))))) (.pair (.int .i64) .unit))), (0, .box (.arr 2 .str)), (2, .v (.int .i64)), (2, .box (.pair (.sl (.pair .str (.pair (.int .i64) (.pair (.int .i64) (.pair (.sl (.pair (.int .i64) (.pair .str .unit))) .unit))))) (.pair (.int .i64) .unit))), (0, .v (.int .i64)), (0, .v (.int .i64))]) (m := 217) (g := z5m N) [11, 12, 10, 4, 3, 2, 7] (zo hb N (zb0 N) ze z7 TabOk.nil [0, 0, 1, 1, 1, 1, 0, 0, 1, 0, 0, 1, 0, 1, 1] _ rfl) (fun x K => by kernel_rfl)

def z32 (N : Nat) (num : Int) (s : ((List ((List UInt8) × (Int × (Int × ((List (Int × ((List UInt8) × Unit))) × Unit))))) × (Int × Unit))) (l : (List (List UInt8))) (op : Int) (t : ((List ((List UInt8) × (Int × (Int × ((List (Int × ((List UInt8) × Unit))) × Unit))))) × (Int × Unit))) (f : Int) (k : Int) (k0 : Bool -> Option Bool) (k1 : Option Bool) : Option Bool :=
 z31 N num s l op t f k
 (fun x73 => cond x73
 (k0 false)
 (k1))

def z5n (N : Nat) (x : z2g [(2, .v (.int .i64)), (0, .box (.pair (.sl (.pair .str (.pair (.int .i64) (.pair (.int .i64) (.pair (.sl (.pair (.int .i64) (.pair .str .unit))) .unit))))) (.pair (.int .i64) .unit))), (0, .box (.arr 2 .str)), (2, .v (.int .i64)), (2, .box (.pair (.sl (.pair .str (.pair (.int .i64) (.pair (.int .i64) (.pair (.sl (.pair (.int .i64) (.pair .str .unit))) .unit))))) (.pair (.int .i64) .unit))), (0, .v (.int .i64)), (0, .v (.int .i64))]) (K : Ex -> List A -> Option Bool) : Option Bool :=
 z32 N x.1 x.2.1 x.2.2.1 x.2.2.2.1 x.2.2.2.2.1 x.2.2.2.2.2.1 x.2.2.2.2.2.2.1 (fun a0 => (K .ret (mkS [(6, .v .bool)] 223 (a0, ())))) (K .normal (mkS [(2, .v (.int .i64)), (0, .box (.pair (.sl (.pair .str (.pair (.int .i64) (.pair (.int .i64) (.pair (.sl (.pair (.int .i64) (.pair .str .unit))) .unit))))) (.pair (.int .i64) .unit))), (0, .box (.arr 2 .str)), (2, .v (.int .i64)), (2, .box (.pair (.sl (.pair .str (.pair (.int .i64) (.pair (.int .i64) (.pair (.sl (.pair (.int .i64) (.pair .str .unit))) .unit))))) (.pair (.int .i64) .unit))), (1, .v (.int .i64))] 217 (x.1, x.2.1, x.2.2.1, x.2.2.2.1, x.2.2.2.2.1, x.2.2.2.2.2.2.1, ())))

def z5e (N : Nat) : Hd Bool := fun st K => (unS [(2, .v (.int .i64)), (0, .box (.pair (.sl (.pair .str (.pair (.int .i64) (.pair (.int .i64) (.pair (.sl (.pair (.int .i64) (.pair .str .unit))) .unit))))) (.pair (.int .i64) .unit))), (0, .box (.arr 2 .str)), (2, .v (.int .i64)), (2, .box (.pair (.sl (.pair .str (.pair (.int .i64) (.pair (.int .i64) (.pair (.sl (.pair (.int .i64) (.pair .str .unit))) .unit))))) (.pair (.int .i64) .unit))), (0, .v (.int .i64)), (0, .v (.int .i64))] 217 (restr [11, 12, 10, 4, 3, 2, 7] 0 st)).bind fun x => z5n N x K

def zb1 (N : Nat) : Tab Bool := [([0, 0, 1, 1, 1, 1, 0, 0, 1, 0, 0, 1, 0, 1, 1], z5d N)]

theorem za2 {N : Nat} {c : Ctx} (hb : Base Go.Proofs.Try.prog (zd N) c) : z1b Go.Proofs.Try.prog c (zp z7 [0, 1, 1, 1, 1, 0, 0, 1, 0, 0, 1, 0, 1, 1]) (z5e N) :=
  z1i (s := [(2, .v (.int .i64)), (0, .box (.pair (.sl (.pair .str (.pair (.int .i64) (.pair (.int .i64) (.pair (.sl (.pair (.int .i64) (.pair .str .unit))) .unit))))) (.pair (.int .i64) .unit))), (0, .box (.arr 2 .str)), (2, .v (.int .i64)), (2, .box (.pair (.sl (.pair .str (.pair (.int .i64) (.pair (.int .i64) (.pair (.sl (.pair (.int .i64) (.pair .str .unit))) .unit))))) (.pair (.int .i64) .unit))), (0, .v (.int .i64)), (0, .v (.int .i64))]) (m := 217) (g := z5n N) [11, 12, 10, 4, 3, 2, 7] (zo hb N (zb1 N) ze z7 (TabOk.cons (za1 hb) TabOk.nil) [0, 1, 1, 1, 1, 0, 0, 1, 0, 0, 1, 0, 1, 1] _ rfl) (fun x K => by kernel_rfl)

def z30 (N : Nat) (num : Int) (s : ((List ((List UInt8) × (Int × (Int × ((List (Int × ((List UInt8) × Unit))) × Unit))))) × (Int × Unit))) (l : (List (List UInt8))) (op : Int) (t : ((List ((List UInt8) × (Int × (Int × ((List (Int × ((List UInt8) × Unit))) × Unit))))) × (Int × Unit))) (x13 : ((List UInt8) × (Int × (Int × ((List (Int × ((List UInt8) × Unit))) × Unit))))) (y : ((List UInt8) × (Int × (Int × ((List (Int × ((List UInt8) × Unit))) × Unit))))) (i : Int) (k0 : Bool -> Option Bool) : Option Bool :=
 cond (decide ((0 : Int) <= i))
 (k0 (decide (i < (((List.length s.1) : Nat) : Int))))
 (k0 false)

def z5k (N : Nat) (x : z2g [(2, .v (.int .i64)), (0, .box (.pair (.sl (.pair .str (.pair (.int .i64) (.pair (.int .i64) (.pair (.sl (.pair (.int .i64) (.pair .str .unit))) .unit))))) (.pair (.int .i64) .unit))), (0, .box (.arr 2 .str)), (2, .v (.int .i64)), (2, .box (.pair (.sl (.pair .str (.pair (.int .i64) (.pair (.int .i64) (.pair (.sl (.pair (.int .i64) (.pair .str .unit))) .unit))))) (.pair (.int .i64) .unit))), (2, .box (.pair .str (.pair (.int .i64) (.pair (.int .i64) (.pair (.sl (.pair (.int .i64) (.pair .str .unit))) .unit))))), (0, .box (.pair .str (.pair (.int .i64) (.pair (.int .i64) (.pair (.sl (.pair (.int .i64) (.pair .str .unit))) .unit))))), (0, .v (.int .i64))]) (K : Ex -> List A -> Option Bool) : Option Bool :=
 z30 N x.1 x.2.1 x.2.2.1 x.2.2.2.1 x.2.2.2.2.1 x.2.2.2.2.2.1 x.2.2.2.2.2.2.1 x.2.2.2.2.2.2.2.1 (fun a8 => (K .normal (mkS [(2, .v (.int .i64)), (0, .box (.pair (.sl (.pair .str (.pair (.int .i64) (.pair (.int .i64) (.pair (.sl (.pair (.int .i64) (.pair .str .unit))) .unit))))) (.pair (.int .i64) .unit))), (0, .box (.arr 2 .str)), (2, .v (.int .i64)), (2, .box (.pair (.sl (.pair .str (.pair (.int .i64) (.pair (.int .i64) (.pair (.sl (.pair (.int .i64) (.pair .str .unit))) .unit))))) (.pair (.int .i64) .unit))), (2, .box (.pair .str (.pair (.int .i64) (.pair (.int .i64) (.pair (.sl (.pair (.int .i64) (.pair .str .unit))) .unit))))), (0, .box (.pair .str (.pair (.int .i64) (.pair (.int .i64) (.pair (.sl (.pair (.int .i64) (.pair .str .unit))) .unit))))), (0, .v (.int .i64)), (78, .v .bool)] 135 (x.1, x.2.1, x.2.2.1, x.2.2.2.1, x.2.2.2.2.1, x.2.2.2.2.2.1, x.2.2.2.2.2.2.1, x.2.2.2.2.2.2.2.1, a8, ()))))

def z5b (N : Nat) : Hd Bool := fun st K => (unS [(2, .v (.int .i64)), (0, .box (.pair (.sl (.pair .str (.pair (.int .i64) (.pair (.int .i64) (.pair (.sl (.pair (.int .i64) (.pair .str .unit))) .unit))))) (.pair (.int .i64) .unit))), (0, .box (.arr 2 .str)), (2, .v (.int .i64)), (2, .box (.pair (.sl (.pair .str (.pair (.int .i64) (.pair (.int .i64) (.pair (.sl (.pair (.int .i64) (.pair .str .unit))) .unit))))) (.pair (.int .i64) .unit))), (2, .box (.pair .str (.pair (.int .i64) (.pair (.int .i64) (.pair (.sl (.pair (.int .i64) (.pair .str .unit))) .unit))))), (0, .box (.pair .str (.pair (.int .i64) (.pair (.int .i64) (.pair (.sl (.pair (.int .i64) (.pair .str .unit))) .unit))))), (0, .v (.int .i64))] 214 (restr [15, 3, 14, 10, 4, 2, 7, 13] 0 st)).bind fun x => z5k N x K

def zay (N : Nat) : Tab Bool := []

theorem z9z {N : Nat} {c : Ctx} (hb : Base Go.Proofs.Try.prog (zd N) c) : z1b Go.Proofs.Try.prog c (zp z7 [0, 0, 1, 1, 1, 1, 1, 1, 1, 1, 0, 0, 1, 0, 0, 1, 0, 1, 1]) (z5b N) :=
  z1i (s := [(2, .v (.int .i64)), (0, .box (.pair (.sl (.pair .str (.pair (.int .i64) (.pair (.int .i64) (.pair (.sl (.pair (.int .i64) (.pair .str .unit))) .unit))))) (.pair (.int .i64) .unit))), (0, .box (.arr 2 .str)), (2, .v (.int .i64)), (2, .box (.pair (.sl (.pair .str (.pair (.int .i64) (.pair (.int .i64) (.pair (.sl (.pair (.int .i64) (.pair .str .unit))) .unit))))) (.pair (.int .i64) .unit))), (2, .box (.pair .str (.pair (.int .i64) (.pair (.int .i64) (.pair (.sl (.pair (.int .i64) (.pair .str .unit))) .unit))))), (0, .box (.pair .str (.pair (.int .i64) (.pair (.int .i64) (.pair (.sl (.pair (.int .i64) (.pair .str .unit))) .unit))))), (0, .v (.int .i64))]) (m := 214) (g := z5k N) [15, 3, 14, 10, 4, 2, 7, 13] (zo hb N (zay N) ze z7 TabOk.nil [0, 0, 1, 1, 1, 1, 1, 1, 1, 1, 0, 0, 1, 0, 0, 1, 0, 1, 1] _ rfl) (fun x K => by kernel_rfl)

def z27 (N : Nat) (num : Int) (s : ((List ((List UInt8) × (Int × (Int × ((List (Int × ((List UInt8) × Unit))) × Unit))))) × (Int × Unit))) (l : (List (List UInt8))) (op : Int) (t : ((List ((List UInt8) × (Int × (Int × ((List (Int × ((List UInt8) × Unit))) × Unit))))) × (Int × Unit))) (x13 : ((List UInt8) × (Int × (Int × ((List (Int × ((List UInt8) × Unit))) × Unit))))) (y : ((List UInt8) × (Int × (Int × ((List (Int × ((List UInt8) × Unit))) × Unit))))) (i : Int) (k0 : ((List UInt8) × (Int × (Int × ((List (Int × ((List UInt8) × Unit))) × Unit)))) -> Option Bool) : Option Bool :=
 z30 N num s l op t x13 y i
 (fun x94 => cond x94
 (cond (Go.Lift.inR i (List.length s.1))
 (k0 (List.getD s.1 (Int.toNat i) (([] : List UInt8), ((0 : Int), ((0 : Int), (([] : List (Int × ((List UInt8) × Unit))), ()))))))
 (none))
 (k0 y))

def z5l (N : Nat) (x : z2g [(2, .v (.int .i64)), (0, .box (.pair (.sl (.pair .str (.pair (.int .i64) (.pair (.int .i64) (.pair (.sl (.pair (.int .i64) (.pair .str .unit))) .unit))))) (.pair (.int .i64) .unit))), (0, .box (.arr 2 .str)), (2, .v (.int .i64)), (2, .box (.pair (.sl (.pair .str (.pair (.int .i64) (.pair (.int .i64) (.pair (.sl (.pair (.int .i64) (.pair .str .unit))) .unit))))) (.pair (.int .i64) .unit))), (2, .box (.pair .str (.pair (.int .i64) (.pair (.int .i64) (.pair (.sl (.pair (.int .i64) (.pair .str .unit))) .unit))))), (0, .box (.pair .str (.pair (.int .i64) (.pair (.int .i64) (.pair (.sl (.pair (.int .i64) (.pair .str .unit))) .unit))))), (0, .v (.int .i64))]) (K : Ex -> List A -> Option Bool) : Option Bool :=
 z27 N x.1 x.2.1 x.2.2.1 x.2.2.2.1 x.2.2.2.2.1 x.2.2.2.2.2.1 x.2.2.2.2.2.2.1 x.2.2.2.2.2.2.2.1 (fun a6 => (K .normal (mkS [(2, .v (.int .i64)), (0, .box (.pair (.sl (.pair .str (.pair (.int .i64) (.pair (.int .i64) (.pair (.sl (.pair (.int .i64) (.pair .str .unit))) .unit))))) (.pair (.int .i64) .unit))), (0, .box (.arr 2 .str)), (2, .v (.int .i64)), (2, .box (.pair (.sl (.pair .str (.pair (.int .i64) (.pair (.int .i64) (.pair (.sl (.pair (.int .i64) (.pair .str .unit))) .unit))))) (.pair (.int .i64) .unit))), (2, .box (.pair .str (.pair (.int .i64) (.pair (.int .i64) (.pair (.sl (.pair (.int .i64) (.pair .str .unit))) .unit))))), (0, .box (.pair .str (.pair (.int .i64) (.pair (.int .i64) (.pair (.sl (.pair (.int .i64) (.pair .str .unit))) .unit)))))] 215 (x.1, x.2.1, x.2.2.1, x.2.2.2.1, x.2.2.2.2.1, x.2.2.2.2.2.1, a6, ()))))

def z5c (N : Nat) : Hd Bool := fun st K => (unS [(2, .v (.int .i64)), (0, .box (.pair (.sl (.pair .str (.pair (.int .i64) (.pair (.int .i64) (.pair (.sl (.pair (.int .i64) (.pair .str .unit))) .unit))))) (.pair (.int .i64) .unit))), (0, .box (.arr 2 .str)), (2, .v (.int .i64)), (2, .box (.pair (.sl (.pair .str (.pair (.int .i64) (.pair (.int .i64) (.pair (.sl (.pair (.int .i64) (.pair .str .unit))) .unit))))) (.pair (.int .i64) .unit))), (2, .box (.pair .str (.pair (.int .i64) (.pair (.int .i64) (.pair (.sl (.pair (.int .i64) (.pair .str .unit))) .unit))))), (0, .box (.pair .str (.pair (.int .i64) (.pair (.int .i64) (.pair (.sl (.pair (.int .i64) (.pair .str .unit))) .unit))))), (0, .v (.int .i64))] 214 (restr [15, 3, 14, 10, 4, 2, 7, 13] 0 st)).bind fun x => z5l N x K

def zaz (N : Nat) : Tab Bool := [([0, 0, 1, 1, 1, 1, 1, 1, 1, 1, 0, 0, 1, 0, 0, 1, 0, 1, 1], z5b N)]

theorem za0 {N : Nat} {c : Ctx} (hb : Base Go.Proofs.Try.prog (zd N) c) : z1b Go.Proofs.Try.prog c (zp z7 [0, 1, 1, 1, 1, 1, 1, 1, 1, 0, 0, 1, 0, 0, 1, 0, 1, 1]) (z5c N) :=
  z1i (s := [(2, .v (.int .i64)), (0, .box (.pair (.sl (.pair .str (.pair (.int .i64) (.pair (.int .i64) (.pair (.sl (.pair (.int .i64) (.pair .str .unit))) .unit))))) (.pair (.int .i64) .unit))), (0, .box (.arr 2 .str)), (2, .v (.int .i64)), (2, .box (.pair (.sl (.pair .str (.pair (.int .i64) (.pair (.int .i64) (.pair (.sl (.pair (.int .i64) (.pair .str .unit))) .unit))))) (.pair (.int .i64) .unit))), (2, .box (.pair .str (.pair (.int .i64) (.pair (.int .i64) (.pair (.sl (.pair (.int .i64) (.pair .str .unit))) .unit))))), (0, .box (.pair .str (.pair (.int .i64) (.pair (.int .i64) (.pair (.sl (.pair (.int .i64) (.pair .str .unit))) .unit))))), (0, .v (.int .i64))]) (m := 214) (g := z5l N) [15, 3, 14, 10, 4, 2, 7, 13] (zo hb N (zaz N) ze z7 (TabOk.cons (z9z hb) TabOk.nil) [0, 1, 1, 1, 1, 1, 1, 1, 1, 0, 0, 1, 0, 0, 1, 0, 1, 1] _ rfl) (fun x K => by kernel_rfl)

def z2q (N : Nat) (num : Int) (s : ((List ((List UInt8) × (Int × (Int × ((List (Int × ((List UInt8) × Unit))) × Unit))))) × (Int × Unit))) (l : (List (List UInt8))) (op : Int) (t : ((List ((List UInt8) × (Int × (Int × ((List (Int × ((List UInt8) × Unit))) × Unit))))) × (Int × Unit))) (x13 : ((List UInt8) × (Int × (Int × ((List (Int × ((List UInt8) × Unit))) × Unit))))) (y : ((List UInt8) × (Int × (Int × ((List (Int × ((List UInt8) × Unit))) × Unit))))) (last : (Int × ((List UInt8) × Unit))) (has : Bool) (old : Bool) (k0 : Bool -> Option Bool) : Option Bool :=
 cond (decide (op <= (2 : Int)))
 (cond (!has)
 (k0 true)
 (cond (decide (1 < (List.length l)))
 (cond (!(last.2.1 == (List.getD l 1 ([] : List UInt8))))
 (k0 true)
 (cond ((((List.length x13.2.2.2.1) : Nat) : Int) != (Go.IntKind.wrap Go.IntKind.i64 ((((List.length y.2.2.2.1) : Nat) : Int) + (1 : Int))))
 (k0 true)
 (k0 (x13.2.1 != y.2.1))))
 (none)))
 (k0 false)

def z4z (N : Nat) (x : z2g [(2, .v (.int .i64)), (0, .box (.pair (.sl (.pair .str (.pair (.int .i64) (.pair (.int .i64) (.pair (.sl (.pair (.int .i64) (.pair .str .unit))) .unit))))) (.pair (.int .i64) .unit))), (0, .box (.arr 2 .str)), (2, .v (.int .i64)), (2, .box (.pair (.sl (.pair .str (.pair (.int .i64) (.pair (.int .i64) (.pair (.sl (.pair (.int .i64) (.pair .str .unit))) .unit))))) (.pair (.int .i64) .unit))), (2, .box (.pair .str (.pair (.int .i64) (.pair (.int .i64) (.pair (.sl (.pair (.int .i64) (.pair .str .unit))) .unit))))), (0, .box (.pair .str (.pair (.int .i64) (.pair (.int .i64) (.pair (.sl (.pair (.int .i64) (.pair .str .unit))) .unit))))), (1, .box (.pair (.int .i64) (.pair .str .unit))), (0, .v .bool), (1, .v .bool)]) (K : Ex -> List A -> Option Bool) : Option Bool :=
 z2q N x.1 x.2.1 x.2.2.1 x.2.2.2.1 x.2.2.2.2.1 x.2.2.2.2.2.1 x.2.2.2.2.2.2.1 x.2.2.2.2.2.2.2.1 x.2.2.2.2.2.2.2.2.1 x.2.2.2.2.2.2.2.2.2.1 (fun a8 => (K .normal (mkS [(2, .v (.int .i64)), (0, .box (.pair (.sl (.pair .str (.pair (.int .i64) (.pair (.int .i64) (.pair (.sl (.pair (.int .i64) (.pair .str .unit))) .unit))))) (.pair (.int .i64) .unit))), (0, .box (.arr 2 .str)), (2, .v (.int .i64)), (2, .box (.pair (.sl (.pair .str (.pair (.int .i64) (.pair (.int .i64) (.pair (.sl (.pair (.int .i64) (.pair .str .unit))) .unit))))) (.pair (.int .i64) .unit))), (2, .box (.pair .str (.pair (.int .i64) (.pair (.int .i64) (.pair (.sl (.pair (.int .i64) (.pair .str .unit))) .unit))))), (0, .box (.pair .str (.pair (.int .i64) (.pair (.int .i64) (.pair (.sl (.pair (.int .i64) (.pair .str .unit))) .unit))))), (4, .v .bool), (124, .v .bool)] 85 (x.1, x.2.1, x.2.2.1, x.2.2.2.1, x.2.2.2.2.1, x.2.2.2.2.2.1, x.2.2.2.2.2.2.1, x.2.2.2.2.2.2.2.2.2.1, a8, ()))))

def z4v (N : Nat) : Hd Bool := fun st K => (unS [(2, .v (.int .i64)), (0, .box (.pair (.sl (.pair .str (.pair (.int .i64) (.pair (.int .i64) (.pair (.sl (.pair (.int .i64) (.pair .str .unit))) .unit))))) (.pair (.int .i64) .unit))), (0, .box (.arr 2 .str)), (2, .v (.int .i64)), (2, .box (.pair (.sl (.pair .str (.pair (.int .i64) (.pair (.int .i64) (.pair (.sl (.pair (.int .i64) (.pair .str .unit))) .unit))))) (.pair (.int .i64) .unit))), (2, .box (.pair .str (.pair (.int .i64) (.pair (.int .i64) (.pair (.sl (.pair (.int .i64) (.pair .str .unit))) .unit))))), (0, .box (.pair .str (.pair (.int .i64) (.pair (.int .i64) (.pair (.sl (.pair (.int .i64) (.pair .str .unit))) .unit))))), (1, .box (.pair (.int .i64) (.pair .str .unit))), (0, .v .bool), (1, .v .bool)] 210 (restr [7, 17, 16, 4, 13, 14, 19, 10, 3, 2] 0 st)).bind fun x => z4z N x K

def z9w (N : Nat) : Tab Bool := []

theorem z95 {N : Nat} {c : Ctx} (hb : Base Go.Proofs.Try.prog (zd N) c) : z1b Go.Proofs.Try.prog c (zp z7 [0, 0, 1, 1, 1, 1, 1, 1, 1, 1, 1, 1, 1, 0, 0, 1, 0, 0, 1, 0, 1, 1]) (z4v N) :=
  z1i (s := [(2, .v (.int .i64)), (0, .box (.pair (.sl (.pair .str (.pair (.int .i64) (.pair (.int .i64) (.pair (.sl (.pair (.int .i64) (.pair .str .unit))) .unit))))) (.pair (.int .i64) .unit))), (0, .box (.arr 2 .str)), (2, .v (.int .i64)), (2, .box (.pair (.sl (.pair .str (.pair (.int .i64) (.pair (.int .i64) (.pair (.sl (.pair (.int .i64) (.pair .str .unit))) .unit))))) (.pair (.int .i64) .unit))), (2, .box (.pair .str (.pair (.int .i64) (.pair (.int .i64) (.pair (.sl (.pair (.int .i64) (.pair .str .unit))) .unit))))), (0, .box (.pair .str (.pair (.int .i64) (.pair (.int .i64) (.pair (.sl (.pair (.int .i64) (.pair .str .unit))) .unit))))), (1, .box (.pair (.int .i64) (.pair .str .unit))), (0, .v .bool), (1, .v .bool)]) (m := 210) (g := z4z N) [7, 17, 16, 4, 13, 14, 19, 10, 3, 2] (zo hb N (z9w N) ze z7 TabOk.nil [0, 0, 1, 1, 1, 1, 1, 1, 1, 1, 1, 1, 1, 0, 0, 1, 0, 0, 1, 0, 1, 1] _ rfl) (fun x K => by kernel_rfl)

def z26 (N : Nat) (num : Int) (s : ((List ((List UInt8) × (Int × (Int × ((List (Int × ((List UInt8) × Unit))) × Unit))))) × (Int × Unit))) (l : (List (List UInt8))) (op : Int) (t : ((List ((List UInt8) × (Int × (Int × ((List (Int × ((List UInt8) × Unit))) × Unit))))) × (Int × Unit))) (x13 : ((List UInt8) × (Int × (Int × ((List (Int × ((List UInt8) × Unit))) × Unit))))) (y : ((List UInt8) × (Int × (Int × ((List (Int × ((List UInt8) × Unit))) × Unit))))) (last : (Int × ((List UInt8) × Unit))) (has : Bool) (old : Bool) (k0 : Bool -> Option Bool) (k1 : Option Bool) : Option Bool :=
 z2q N num s l op t x13 y last has old
 (fun x144 => cond x144
 (k0 false)
 (k1))

def z5j (N : Nat) (x : z2g [(2, .v (.int .i64)), (0, .box (.pair (.sl (.pair .str (.pair (.int .i64) (.pair (.int .i64) (.pair (.sl (.pair (.int .i64) (.pair .str .unit))) .unit))))) (.pair (.int .i64) .unit))), (0, .box (.arr 2 .str)), (2, .v (.int .i64)), (2, .box (.pair (.sl (.pair .str (.pair (.int .i64) (.pair (.int .i64) (.pair (.sl (.pair (.int .i64) (.pair .str .unit))) .unit))))) (.pair (.int .i64) .unit))), (2, .box (.pair .str (.pair (.int .i64) (.pair (.int .i64) (.pair (.sl (.pair (.int .i64) (.pair .str .unit))) .unit))))), (0, .box (.pair .str (.pair (.int .i64) (.pair (.int .i64) (.pair (.sl (.pair (.int .i64) (.pair .str .unit))) .unit))))), (1, .box (.pair (.int .i64) (.pair .str .unit))), (0, .v .bool), (1, .v .bool)]) (K : Ex -> List A -> Option Bool) : Option Bool :=
 z26 N x.1 x.2.1 x.2.2.1 x.2.2.2.1 x.2.2.2.2.1 x.2.2.2.2.2.1 x.2.2.2.2.2.2.1 x.2.2.2.2.2.2.2.1 x.2.2.2.2.2.2.2.2.1 x.2.2.2.2.2.2.2.2.2.1 (fun a0 => (K .ret (mkS [(6, .v .bool)] 223 (a0, ())))) (K .normal (mkS [(2, .v (.int .i64)), (0, .box (.pair (.sl (.pair .str (.pair (.int .i64) (.pair (.int .i64) (.pair (.sl (.pair (.int .i64) (.pair .str .unit))) .unit))))) (.pair (.int .i64) .unit))), (0, .box (.arr 2 .str)), (2, .v (.int .i64)), (2, .box (.pair (.sl (.pair .str (.pair (.int .i64) (.pair (.int .i64) (.pair (.sl (.pair (.int .i64) (.pair .str .unit))) .unit))))) (.pair (.int .i64) .unit))), (2, .box (.pair .str (.pair (.int .i64) (.pair (.int .i64) (.pair (.sl (.pair (.int .i64) (.pair .str .unit))) .unit))))), (0, .box (.pair .str (.pair (.int .i64) (.pair (.int .i64) (.pair (.sl (.pair (.int .i64) (.pair .str .unit))) .unit))))), (4, .v .bool)] 210 (x.1, x.2.1, x.2.2.1, x.2.2.2.1, x.2.2.2.2.1, x.2.2.2.2.2.1, x.2.2.2.2.2.2.1, x.2.2.2.2.2.2.2.2.2.1, ())))

def z5a (N : Nat) : Hd Bool := fun st K => (unS [(2, .v (.int .i64)), (0, .box (.pair (.sl (.pair .str (.pair (.int .i64) (.pair (.int .i64) (.pair (.sl (.pair (.int .i64) (.pair .str .unit))) .unit))))) (.pair (.int .i64) .unit))), (0, .box (.arr 2 .str)), (2, .v (.int .i64)), (2, .box (.pair (.sl (.pair .str (.pair (.int .i64) (.pair (.int .i64) (.pair (.sl (.pair (.int .i64) (.pair .str .unit))) .unit))))) (.pair (.int .i64) .unit))), (2, .box (.pair .str (.pair (.int .i64) (.pair (.int .i64) (.pair (.sl (.pair (.int .i64) (.pair .str .unit))) .unit))))), (0, .box (.pair .str (.pair (.int .i64) (.pair (.int .i64) (.pair (.sl (.pair (.int .i64) (.pair .str .unit))) .unit))))), (1, .box (.pair (.int .i64) (.pair .str .unit))), (0, .v .bool), (1, .v .bool)] 210 (restr [7, 17, 16, 4, 13, 14, 19, 10, 3, 2] 0 st)).bind fun x => z5j N x K

def zax (N : Nat) : Tab Bool := [([0, 0, 1, 1, 1, 1, 1, 1, 1, 1, 1, 1, 1, 0, 0, 1, 0, 0, 1, 0, 1, 1], z4v N)]

theorem z9y {N : Nat} {c : Ctx} (hb : Base Go.Proofs.Try.prog (zd N) c) : z1b Go.Proofs.Try.prog c (zp z7 [0, 1, 1, 1, 1, 1, 1, 1, 1, 1, 1, 1, 0, 0, 1, 0, 0, 1, 0, 1, 1]) (z5a N) :=
  z1i (s := [(2, .v (.int .i64)), (0, .box (.pair (.sl (.pair .str (.pair (.int .i64) (.pair (.int .i64) (.pair (.sl (.pair (.int .i64) (.pair .str .unit))) .unit))))) (.pair (.int .i64) .unit))), (0, .box (.arr 2 .str)), (2, .v (.int .i64)), (2, .box (.pair (.sl (.pair .str (.pair (.int .i64) (.pair (.int .i64) (.pair (.sl (.pair (.int .i64) (.pair .str .unit))) .unit))))) (.pair (.int .i64) .unit))), (2, .box (.pair .str (.pair (.int .i64) (.pair (.int .i64) (.pair (.sl (.pair (.int .i64) (.pair .str .unit))) .unit))))), (0, .box (.pair .str (.pair (.int .i64) (.pair (.int .i64) (.pair (.sl (.pair (.int .i64) (.pair .str .unit))) .unit))))), (1, .box (.pair (.int .i64) (.pair .str .unit))), (0, .v .bool), (1, .v .bool)]) (m := 210) (g := z5j N) [7, 17, 16, 4, 13, 14, 19, 10, 3, 2] (zo hb N (zax N) ze z7 (TabOk.cons (z95 hb) TabOk.nil) [0, 1, 1, 1, 1, 1, 1, 1, 1, 1, 1, 1, 0, 0, 1, 0, 0, 1, 0, 1, 1] _ rfl) (fun x K => by kernel_rfl)

def z2p (N : Nat) (num : Int) (s : ((List ((List UInt8) × (Int × (Int × ((List (Int × ((List UInt8) × Unit))) × Unit))))) × (Int × Unit))) (l : (List (List UInt8))) (op : Int) (t : ((List ((List UInt8) × (Int × (Int × ((List (Int × ((List UInt8) × Unit))) × Unit))))) × (Int × Unit))) (x13 : ((List UInt8) × (Int × (Int × ((List (Int × ((List UInt8) × Unit))) × Unit))))) (y : ((List UInt8) × (Int × (Int × ((List (Int × ((List UInt8) × Unit))) × Unit))))) (old : Bool) (k0 : Bool -> Option Bool) : Option Bool :=
 cond (op == (3 : Int))
 (cond old
 (k0 true)
 (cond ((((List.length x13.2.2.2.1) : Nat) : Int) != (Go.IntKind.wrap Go.IntKind.i64 ((((List.length y.2.2.2.1) : Nat) : Int) - (1 : Int))))
 (k0 true)
 (cond (op == (4 : Int))
 (cond (x13.2.1 != (Go.IntKind.wrap Go.IntKind.i64 (y.2.1 + (1 : Int))))
 (k0 true)
 (cond ((((List.length x13.2.2.2.1) : Nat) : Int) != (((List.length y.2.2.2.1) : Nat) : Int))
 (k0 true)
 (cond (op == (5 : Int))
 (k0 (t.2.1 != (Go.IntKind.wrap Go.IntKind.i64 (s.2.1 + (1 : Int)))))
 (k0 false))))
 (cond (op == (5 : Int))
 (k0 (t.2.1 != (Go.IntKind.wrap Go.IntKind.i64 (s.2.1 + (1 : Int)))))
 (k0 false)))))
 (cond (op == (4 : Int))
 (cond (x13.2.1 != (Go.IntKind.wrap Go.IntKind.i64 (y.2.1 + (1 : Int))))
 (k0 true)
 (cond ((((List.length x13.2.2.2.1) : Nat) : Int) != (((List.length y.2.2.2.1) : Nat) : Int))
 (k0 true)
 (cond (op == (5 : Int))
 (k0 (t.2.1 != (Go.IntKind.wrap Go.IntKind.i64 (s.2.1 + (1 : Int)))))
 (k0 false))))
 (cond (op == (5 : Int))
 (k0 (t.2.1 != (Go.IntKind.wrap Go.IntKind.i64 (s.2.1 + (1 : Int)))))
 (k0 false)))

def z4x (N : Nat) (x : z2g [(2, .v (.int .i64)), (0, .box (.pair (.sl (.pair .str (.pair (.int .i64) (.pair (.int .i64) (.pair (.sl (.pair (.int .i64) (.pair .str .unit))) .unit))))) (.pair (.int .i64) .unit))), (0, .box (.arr 2 .str)), (2, .v (.int .i64)), (2, .box (.pair (.sl (.pair .str (.pair (.int .i64) (.pair (.int .i64) (.pair (.sl (.pair (.int .i64) (.pair .str .unit))) .unit))))) (.pair (.int .i64) .unit))), (2, .box (.pair .str (.pair (.int .i64) (.pair (.int .i64) (.pair (.sl (.pair (.int .i64) (.pair .str .unit))) .unit))))), (0, .box (.pair .str (.pair (.int .i64) (.pair (.int .i64) (.pair (.sl (.pair (.int .i64) (.pair .str .unit))) .unit))))), (4, .v .bool)]) (K : Ex -> List A -> Option Bool) : Option Bool :=
 z2p N x.1 x.2.1 x.2.2.1 x.2.2.2.1 x.2.2.2.2.1 x.2.2.2.2.2.1 x.2.2.2.2.2.2.1 x.2.2.2.2.2.2.2.1 (fun a5 => (K .normal (mkS [(2, .v (.int .i64)), (0, .box (.pair (.sl (.pair .str (.pair (.int .i64) (.pair (.int .i64) (.pair (.sl (.pair (.int .i64) (.pair .str .unit))) .unit))))) (.pair (.int .i64) .unit))), (0, .box (.arr 2 .str)), (2, .v (.int .i64)), (2, .box (.pair (.sl (.pair .str (.pair (.int .i64) (.pair (.int .i64) (.pair (.sl (.pair (.int .i64) (.pair .str .unit))) .unit))))) (.pair (.int .i64) .unit))), (181, .v .bool)] 37 (x.1, x.2.1, x.2.2.1, x.2.2.2.1, x.2.2.2.2.1, a5, ()))))

def z4t (N : Nat) : Hd Bool := fun st K => (unS [(2, .v (.int .i64)), (0, .box (.pair (.sl (.pair .str (.pair (.int .i64) (.pair (.int .i64) (.pair (.sl (.pair (.int .i64) (.pair .str .unit))) .unit))))) (.pair (.int .i64) .unit))), (0, .box (.arr 2 .str)), (2, .v (.int .i64)), (2, .box (.pair (.sl (.pair .str (.pair (.int .i64) (.pair (.int .i64) (.pair (.sl (.pair (.int .i64) (.pair .str .unit))) .unit))))) (.pair (.int .i64) .unit))), (2, .box (.pair .str (.pair (.int .i64) (.pair (.int .i64) (.pair (.sl (.pair (.int .i64) (.pair .str .unit))) .unit))))), (0, .box (.pair .str (.pair (.int .i64) (.pair (.int .i64) (.pair (.sl (.pair (.int .i64) (.pair .str .unit))) .unit))))), (4, .v .bool)] 210 (restr [7, 19, 13, 14, 10, 3, 4, 2] 0 st)).bind fun x => z4x N x K

def z9u (N : Nat) : Tab Bool := []

theorem z93 {N : Nat} {c : Ctx} (hb : Base Go.Proofs.Try.prog (zd N) c) : z1b Go.Proofs.Try.prog c (zp z7 [0, 0, 1, 1, 1, 1, 1, 1, 1, 1, 1, 1, 1, 1, 0, 0, 1, 0, 0, 1, 0, 1, 1]) (z4t N) :=
  z1i (s := [(2, .v (.int .i64)), (0, .box (.pair (.sl (.pair .str (.pair (.int .i64) (.pair (.int .i64) (.pair (.sl (.pair (.int .i64) (.pair .str .unit))) .unit))))) (.pair (.int .i64) .unit))), (0, .box (.arr 2 .str)), (2, .v (.int .i64)), (2, .box (.pair (.sl (.pair .str (.pair (.int .i64) (.pair (.int .i64) (.pair (.sl (.pair (.int .i64) (.pair .str .unit))) .unit))))) (.pair (.int .i64) .unit))), (2, .box (.pair .str (.pair (.int .i64) (.pair (.int .i64) (.pair (.sl (.pair (.int .i64) (.pair .str .unit))) .unit))))), (0, .box (.pair .str (.pair (.int .i64) (.pair (.int .i64) (.pair (.sl (.pair (.int .i64) (.pair .str .unit))) .unit))))), (4, .v .bool)]) (m := 210) (g := z4x N) [7, 19, 13, 14, 10, 3, 4, 2] (zo hb N (z9u N) ze z7 TabOk.nil [0, 0, 1, 1, 1, 1, 1, 1, 1, 1, 1, 1, 1, 1, 0, 0, 1, 0, 0, 1, 0, 1, 1] _ rfl) (fun x K => by kernel_rfl)

def z24 (N : Nat) (num : Int) (s : ((List ((List UInt8) × (Int × (Int × ((List (Int × ((List UInt8) × Unit))) × Unit))))) × (Int × Unit))) (l : (List (List UInt8))) (op : Int) (t : ((List ((List UInt8) × (Int × (Int × ((List (Int × ((List UInt8) × Unit))) × Unit))))) × (Int × Unit))) (x13 : ((List UInt8) × (Int × (Int × ((List (Int × ((List UInt8) × Unit))) × Unit))))) (y : ((List UInt8) × (Int × (Int × ((List (Int × ((List UInt8) × Unit))) × Unit))))) (old : Bool) (k0 : Bool -> Option Bool) (k1 : Option Bool) : Option Bool :=
 z2p N num s l op t x13 y old
 (fun x192 => cond x192
 (k0 false)
 (k1))

def z4y (N : Nat) (x : z2g [(2, .v (.int .i64)), (0, .box (.pair (.sl (.pair .str (.pair (.int .i64) (.pair (.int .i64) (.pair (.sl (.pair (.int .i64) (.pair .str .unit))) .unit))))) (.pair (.int .i64) .unit))), (0, .box (.arr 2 .str)), (2, .v (.int .i64)), (2, .box (.pair (.sl (.pair .str (.pair (.int .i64) (.pair (.int .i64) (.pair (.sl (.pair (.int .i64) (.pair .str .unit))) .unit))))) (.pair (.int .i64) .unit))), (2, .box (.pair .str (.pair (.int .i64) (.pair (.int .i64) (.pair (.sl (.pair (.int .i64) (.pair .str .unit))) .unit))))), (0, .box (.pair .str (.pair (.int .i64) (.pair (.int .i64) (.pair (.sl (.pair (.int .i64) (.pair .str .unit))) .unit))))), (4, .v .bool)]) (K : Ex -> List A -> Option Bool) : Option Bool :=
 z24 N x.1 x.2.1 x.2.2.1 x.2.2.2.1 x.2.2.2.2.1 x.2.2.2.2.2.1 x.2.2.2.2.2.2.1 x.2.2.2.2.2.2.2.1 (fun a0 => (K .ret (mkS [(6, .v .bool)] 223 (a0, ())))) (K .normal (mkS [(2, .v (.int .i64)), (0, .box (.pair (.sl (.pair .str (.pair (.int .i64) (.pair (.int .i64) (.pair (.sl (.pair (.int .i64) (.pair .str .unit))) .unit))))) (.pair (.int .i64) .unit))), (0, .box (.arr 2 .str)), (2, .v (.int .i64)), (2, .box (.pair (.sl (.pair .str (.pair (.int .i64) (.pair (.int .i64) (.pair (.sl (.pair (.int .i64) (.pair .str .unit))) .unit))))) (.pair (.int .i64) .unit)))] 219 (x.1, x.2.1, x.2.2.1, x.2.2.2.1, x.2.2.2.2.1, ())))

def z4u (N : Nat) : Hd Bool := fun st K => (unS [(2, .v (.int .i64)), (0, .box (.pair (.sl (.pair .str (.pair (.int .i64) (.pair (.int .i64) (.pair (.sl (.pair (.int .i64) (.pair .str .unit))) .unit))))) (.pair (.int .i64) .unit))), (0, .box (.arr 2 .str)), (2, .v (.int .i64)), (2, .box (.pair (.sl (.pair .str (.pair (.int .i64) (.pair (.int .i64) (.pair (.sl (.pair (.int .i64) (.pair .str .unit))) .unit))))) (.pair (.int .i64) .unit))), (2, .box (.pair .str (.pair (.int .i64) (.pair (.int .i64) (.pair (.sl (.pair (.int .i64) (.pair .str .unit))) .unit))))), (0, .box (.pair .str (.pair (.int .i64) (.pair (.int .i64) (.pair (.sl (.pair (.int .i64) (.pair .str .unit))) .unit))))), (4, .v .bool)] 210 (restr [7, 19, 13, 14, 10, 3, 4, 2] 0 st)).bind fun x => z4y N x K

def z9v (N : Nat) : Tab Bool := [([0, 0, 1, 1, 1, 1, 1, 1, 1, 1, 1, 1, 1, 1, 0, 0, 1, 0, 0, 1, 0, 1, 1], z4t N)]

theorem z94 {N : Nat} {c : Ctx} (hb : Base Go.Proofs.Try.prog (zd N) c) : z1b Go.Proofs.Try.prog c (zp z7 [0, 1, 1, 1, 1, 1, 1, 1, 1, 1, 1, 1, 1, 0, 0, 1, 0, 0, 1, 0, 1, 1]) (z4u N) :=
  z1i (s := [(2, .v (.int .i64)), (0, .box (.pair (.sl (.pair .str (.pair (.int .i64) (.pair (.int .i64) (.pair (.sl (.pair (.int .i64) (.pair .str .unit))) .unit))))) (.pair (.int .i64) .unit))), (0, .box (.arr 2 .str)), (2, .v (.int .i64)), (2, .box (.pair (.sl (.pair .str (.pair (.int .i64) (.pair (.int .i64) (.pair (.sl (.pair (.int .i64) (.pair .str .unit))) .unit))))) (.pair (.int .i64) .unit))), (2, .box (.pair .str (.pair (.int .i64) (.pair (.int .i64) (.pair (.sl (.pair (.int .i64) (.pair .str .unit))) .unit))))), (0, .box (.pair .str (.pair (.int .i64) (.pair (.int .i64) (.pair (.sl (.pair (.int .i64) (.pair .str .unit))) .unit))))), (4, .v .bool)]) (m := 210) (g := z4y N) [7, 19, 13, 14, 10, 3, 4, 2] (zo hb N (z9v N) ze z7 (TabOk.cons (z93 hb) TabOk.nil) [0, 1, 1, 1, 1, 1, 1, 1, 1, 1, 1, 1, 1, 0, 0, 1, 0, 0, 1, 0, 1, 1] _ rfl) (fun x K => by kernel_rfl)

def z23 (N : Nat) (num : Int) (s : ((List ((List UInt8) × (Int × (Int × ((List (Int × ((List UInt8) × Unit))) × Unit))))) × (Int × Unit))) (l : (List (List UInt8))) (op : Int) (t : ((List ((List UInt8) × (Int × (Int × ((List (Int × ((List UInt8) × Unit))) × Unit))))) × (Int × Unit))) (k0 : Bool -> Option Bool) : Option Bool :=
 cond (decide (op < (5 : Int)))
 (cond (t.2.1 != s.2.1)
 (k0 true)
 (cond (op != (1 : Int))
 (cond ((((List.length t.1) : Nat) : Int) != (((List.length s.1) : Nat) : Int))
 (k0 true)
 (cond (op == (1 : Int))
 (k0 ((((List.length t.1) : Nat) : Int) != (Go.IntKind.wrap Go.IntKind.i64 ((((List.length s.1) : Nat) : Int) + (1 : Int)))))
 (k0 false)))
 (cond (op == (1 : Int))
 (k0 ((((List.length t.1) : Nat) : Int) != (Go.IntKind.wrap Go.IntKind.i64 ((((List.length s.1) : Nat) : Int) + (1 : Int)))))
 (k0 false))))
 (cond (op != (1 : Int))
 (cond ((((List.length t.1) : Nat) : Int) != (((List.length s.1) : Nat) : Int))
 (k0 true)
 (cond (op == (1 : Int))
 (k0 ((((List.length t.1) : Nat) : Int) != (Go.IntKind.wrap Go.IntKind.i64 ((((List.length s.1) : Nat) : Int) + (1 : Int)))))
 (k0 false)))
 (cond (op == (1 : Int))
 (k0 ((((List.length t.1) : Nat) : Int) != (Go.IntKind.wrap Go.IntKind.i64 ((((List.length s.1) : Nat) : Int) + (1 : Int)))))
 (k0 false)))

def z4w (N : Nat) (x : z2g [(2, .v (.int .i64)), (0, .box (.pair (.sl (.pair .str (.pair (.int .i64) (.pair (.int .i64) (.pair (.sl (.pair (.int .i64) (.pair .str .unit))) .unit))))) (.pair (.int .i64) .unit))), (0, .box (.arr 2 .str)), (2, .v (.int .i64)), (2, .box (.pair (.sl (.pair .str (.pair (.int .i64) (.pair (.int .i64) (.pair (.sl (.pair (.int .i64) (.pair .str .unit))) .unit))))) (.pair (.int .i64) .unit)))]) (K : Ex -> List A -> Option Bool) : Option Bool :=
 z23 N x.1 x.2.1 x.2.2.1 x.2.2.2.1 x.2.2.2.2.1 (fun a4 => (K .normal (mkS [(2, .v (.int .i64)), (0, .box (.pair (.sl (.pair .str (.pair (.int .i64) (.pair (.int .i64) (.pair (.sl (.pair (.int .i64) (.pair .str .unit))) .unit))))) (.pair (.int .i64) .unit))), (0, .box (.arr 2 .str)), (2, .v (.int .i64)), (220, .v .bool)] 1 (x.1, x.2.1, x.2.2.1, x.2.2.2.1, a4, ()))))

def z4s (N : Nat) : Hd Bool := fun st K => (unS [(2, .v (.int .i64)), (0, .box (.pair (.sl (.pair .str (.pair (.int .i64) (.pair (.int .i64) (.pair (.sl (.pair (.int .i64) (.pair .str .unit))) .unit))))) (.pair (.int .i64) .unit))), (0, .box (.arr 2 .str)), (2, .v (.int .i64)), (2, .box (.pair (.sl (.pair .str (.pair (.int .i64) (.pair (.int .i64) (.pair (.sl (.pair (.int .i64) (.pair .str .unit))) .unit))))) (.pair (.int .i64) .unit)))] 219 (restr [7, 10, 3, 4, 2] 0 st)).bind fun x => z4w N x K

def z9t (N : Nat) : Tab Bool := []

theorem z92 {N : Nat} {c : Ctx} (hb : Base Go.Proofs.Try.prog (zd N) c) : z1b Go.Proofs.Try.prog c (zp z7 [0, 1, 1, 1, 1, 1, 1, 1, 1, 1, 1, 1, 1, 1, 0, 0, 1, 0, 0, 1, 0, 1, 1]) (z4s N) :=
  z1i (s := [(2, .v (.int .i64)), (0, .box (.pair (.sl (.pair .str (.pair (.int .i64) (.pair (.int .i64) (.pair (.sl (.pair (.int .i64) (.pair .str .unit))) .unit))))) (.pair (.int .i64) .unit))), (0, .box (.arr 2 .str)), (2, .v (.int .i64)), (2, .box (.pair (.sl (.pair .str (.pair (.int .i64) (.pair (.int .i64) (.pair (.sl (.pair (.int .i64) (.pair .str .unit))) .unit))))) (.pair (.int .i64) .unit)))]) (m := 219) (g := z4w N) [7, 10, 3, 4, 2] (zo hb N (z9t N) ze z7 TabOk.nil [0, 1, 1, 1, 1, 1, 1, 1, 1, 1, 1, 1, 1, 1, 0, 0, 1, 0, 0, 1, 0, 1, 1] _ rfl) (fun x K => by kernel_rfl)

def z33 (N : Nat) (num : Int) (s : ((List ((List UInt8) × (Int × (Int × ((List (Int × ((List UInt8) × Unit))) × Unit))))) × (Int × Unit))) (l : (List (List UInt8))) (op : Int) (k0 : Option Bool) (k1 : Bool -> Option Bool) : Option Bool :=
 cond (decide (0 < (List.length l)))
 (cond (decide (1 < (List.length l)))
 ((z3b N op s (List.getD l 0 ([] : List UInt8)) (List.getD l 1 ([] : List UInt8)) num).bind fun y =>
 cond (y.2.1 != (0 : Int))
 (k0)
 ((zdz N s y.1).bind fun y1 =>
 cond (decide (0 < (List.length l)))
 ((z3m N y1.1 (List.getD l 0 ([] : List UInt8))).bind fun y2 =>
 z32 N num s l op y1.1 y1.2.1 y2
 (fun x6 => k1 x6)
 (cond (Go.Lift.inR y2 (List.length y1.1.1))
 (cond (decide (0 < (List.length l)))
 (cond (decide (0 < (List.length l)))
 ((z3m N s (List.getD l 0 ([] : List UInt8))).bind fun y3 =>
 z27 N num s l op y1.1 (List.getD y1.1.1 (Int.toNat y2) (([] : List UInt8), ((0 : Int), ((0 : Int), (([] : List (Int × ((List UInt8) × Unit))), ()))))) ((List.getD l 0 ([] : List UInt8)), ((0 : Int), ((0 : Int), (([] : List (Int × ((List UInt8) × Unit))), ())))) y3
 (fun y4 => cond (decide (0 < (List.length l)))
 ((z3l N y1.1 (List.getD l 0 ([] : List UInt8))).bind fun y5 =>
 cond (decide (0 < (List.length l)))
 ((zau N y1.1 (List.getD l 0 ([] : List UInt8)) num).bind fun y6 =>
 z26 N num s l op y1.1 (List.getD y1.1.1 (Int.toNat y2) (([] : List UInt8), ((0 : Int), ((0 : Int), (([] : List (Int × ((List UInt8) × Unit))), ()))))) y4 y5.1 y5.2.1 y6.2.1
 (fun x61 => k1 x61)
 (z24 N num s l op y1.1 (List.getD y1.1.1 (Int.toNat y2) (([] : List UInt8), ((0 : Int), ((0 : Int), (([] : List (Int × ((List UInt8) × Unit))), ()))))) y4 y6.2.1
 (fun x62 => k1 x62)
 (z23 N num s l op y1.1
 (fun x228 => cond x228
 (k1 false)
 (k0)))))
 (none))
 (none)))
 (none))
 (none))
 (none)))
 (none)))
 (none))
 (none)

def z5o (N : Nat) (x : z2g [(2, .v (.int .i64)), (0, .box (.pair (.sl (.pair .str (.pair (.int .i64) (.pair (.int .i64) (.pair (.sl (.pair (.int .i64) (.pair .str .unit))) .unit))))) (.pair (.int .i64) .unit))), (0, .box (.arr 2 .str)), (2, .v (.int .i64))]) (K : Ex -> List A -> Option Bool) : Option Bool :=
 z33 N x.1 x.2.1 x.2.2.1 x.2.2.2.1 (K .normal (mkS [(2, .v (.int .i64)), (0, .box (.pair (.sl (.pair .str (.pair (.int .i64) (.pair (.int .i64) (.pair (.sl (.pair (.int .i64) (.pair .str .unit))) .unit))))) (.pair (.int .i64) .unit))), (0, .box (.arr 2 .str)), (2, .v (.int .i64))] 222 (x.1, x.2.1, x.2.2.1, x.2.2.2.1, ()))) (fun a0 => (K .ret (mkS [(6, .v .bool)] 223 (a0, ()))))

def z5f (N : Nat) : Hd Bool := fun st K => (unS [(2, .v (.int .i64)), (0, .box (.pair (.sl (.pair .str (.pair (.int .i64) (.pair (.int .i64) (.pair (.sl (.pair (.int .i64) (.pair .str .unit))) .unit))))) (.pair (.int .i64) .unit))), (0, .box (.arr 2 .str)), (2, .v (.int .i64))] 222 (restr [7, 3, 4, 2] 0 st)).bind fun x => z5o N x K

def zb2 (N : Nat) : Tab Bool := [([0, 1, 1, 1, 1, 0, 0, 1, 0, 0, 1, 0, 1, 1], z5e N), ([0, 1, 1, 1, 1, 1, 1, 1, 1, 0, 0, 1, 0, 0, 1, 0, 1, 1], z5c N), ([0, 1, 1, 1, 1, 1, 1, 1, 1, 1, 1, 1, 0, 0, 1, 0, 0, 1, 0, 1, 1], z5a N), ([0, 1, 1, 1, 1, 1, 1, 1, 1, 1, 1, 1, 1, 0, 0, 1, 0, 0, 1, 0, 1, 1], z4u N), ([0, 1, 1, 1, 1, 1, 1, 1, 1, 1, 1, 1, 1, 1, 0, 0, 1, 0, 0, 1, 0, 1, 1], z4s N)]

theorem za3 {N : Nat} {c : Ctx} (hb : Base Go.Proofs.Try.prog (zd N) c) : z1b Go.Proofs.Try.prog c (zp z7 [0, 1, 0, 0, 1, 0, 1, 1]) (z5f N) :=
  z1i (s := [(2, .v (.int .i64)), (0, .box (.pair (.sl (.pair .str (.pair (.int .i64) (.pair (.int .i64) (.pair (.sl (.pair (.int .i64) (.pair .str .unit))) .unit))))) (.pair (.int .i64) .unit))), (0, .box (.arr 2 .str)), (2, .v (.int .i64))]) (m := 222) (g := z5o N) [7, 3, 4, 2] (zo hb N (zb2 N) ze z7 (TabOk.cons (za2 hb) (TabOk.cons (za0 hb) (TabOk.cons (z9y hb) (TabOk.cons (z94 hb) (TabOk.cons (z92 hb) TabOk.nil))))) [0, 1, 0, 0, 1, 0, 1, 1] _ rfl) (fun x K => by kernel_rfl)

def z2z (N : Nat) (num : Int) (s : ((List ((List UInt8) × (Int × (Int × ((List (Int × ((List UInt8) × Unit))) × Unit))))) × (Int × Unit))) (l : (List (List UInt8))) (op : Int) (rec : Int -> Option Bool) (k0 : Bool -> Option Bool) (k1 : Option Bool) : Option Bool :=
 cond (decide (op <= (5 : Int)))
 (z33 N num s l op
 (rec (Go.IntKind.wrap Go.IntKind.i64 (op + (1 : Int))))
 (fun x6 => k0 x6))
 (k1)

def z59 (N : Nat) (num : Int) (s : ((List ((List UInt8) × (Int × (Int × ((List (Int × ((List UInt8) × Unit))) × Unit))))) × (Int × Unit))) (l : (List (List UInt8))) (op : Int) (k0 : Bool -> Option Bool) (k1 : Option Bool) : Option Bool :=
 iter (fun (v : Int) r => z2z N num s l v (fun op => (r op)) k0 k1) N op

def z5p (N : Nat) (i : (Int × ((List ((List UInt8) × (Int × (Int × ((List (Int × ((List UInt8) × Unit))) × Unit))))) × (Int × Unit)) × (List (List UInt8)))) (v : Int) (r : Int -> Option Bool) (K : Ex -> List A -> Option Bool) : Option Bool :=
 z2z N i.1 i.2.1 i.2.2 v (fun op => (r op)) (fun a0 => (K .ret (mkS [(6, .v .bool)] 223 (a0, ())))) (K (.exit 0) (mkS [] 230 ()))

def z5g (N : Nat) : Hd Bool := fun st K => (unS [(2, .v (.int .i64)), (0, .box (.pair (.sl (.pair .str (.pair (.int .i64) (.pair (.int .i64) (.pair (.sl (.pair (.int .i64) (.pair .str .unit))) .unit))))) (.pair (.int .i64) .unit))), (0, .box (.arr 2 .str)), (2, .v (.int .i64))] 222 (restr [7, 3, 4, 2] 0 st)).bind fun x => iter (fun v r => z5p N ((fun x => (x.1, x.2.1, x.2.2.1)) x) v r K) N ((fun x => x.2.2.2.1) x)

def zb3 (N : Nat) : Tab Bool := [([0, 1, 0, 0, 1, 0, 1, 1], z5f N)]

theorem za4 {N : Nat} {c : Ctx} (hb : Base Go.Proofs.Try.prog (zd N) c) : z1b Go.Proofs.Try.prog c (zp z7 [0, 1, 0, 1, 1]) (z5g N) :=
  z9d (s := [(2, .v (.int .i64)), (0, .box (.pair (.sl (.pair .str (.pair (.int .i64) (.pair (.int .i64) (.pair (.sl (.pair (.int .i64) (.pair .str .unit))) .unit))))) (.pair (.int .i64) .unit))), (0, .box (.arr 2 .str)), (2, .v (.int .i64))]) (m := 222) (z5p N) [7, 3, 4, 2] N (fun x => (x.1, x.2.1, x.2.2.1)) (fun x => x.2.2.2.1) (fun i v => (i.1, i.2.1, i.2.2, v, ())) (fun _ => rfl) (zo hb N (zb3 N) ze z7 (TabOk.cons (za3 hb) TabOk.nil) [0, 0, 1, 0, 1, 1] _ rfl) (fun i v r K => by kernel_rfl)

def z1s (N : Nat) (s : ((List ((List UInt8) × (Int × (Int × ((List (Int × ((List UInt8) × Unit))) × Unit))))) × (Int × Unit))) (l : (List (List UInt8))) (num : Int) : Option Bool :=
 z35 N num s l
 (fun x6 => some x6)
 (z59 N num s l (1 : Int)
 (fun x61 => some x61)
 ((z2o N).bind fun y =>
 some y))

def z63 (N : Nat) : Tab Bool := [([0, 1], z5i N), ([0, 1, 0, 1, 1], z5g N)]

theorem z96 (N : Nat) (x : z2g [(0, .v (.pair (.sl (.pair .str (.pair (.int .i64) (.pair (.int .i64) (.pair (.sl (.pair (.int .i64) (.pair .str .unit))) .unit))))) (.pair (.int .i64) .unit))), (0, .v (.arr 2 .str)), (0, .v (.int .i64))]) : zc7 (zd N) N (z63 N) ze Go.Proofs.Try.f5 (mkS [(0, .v (.pair (.sl (.pair .str (.pair (.int .i64) (.pair (.int .i64) (.pair (.sl (.pair (.int .i64) (.pair .str .unit))) .unit))))) (.pair (.int .i64) .unit))), (0, .v (.arr 2 .str)), (0, .v (.int .i64))] 0 x) (z6g (.v .bool) 3) = z1s N x.1 x.2.1 x.2.2.1 := by kernel_rfl

def z9x (N : Nat) : List A -> Res := z1z [(0, .v (.pair (.sl (.pair .str (.pair (.int .i64) (.pair (.int .i64) (.pair (.sl (.pair (.int .i64) (.pair .str .unit))) .unit))))) (.pair (.int .i64) .unit))), (0, .v (.arr 2 .str)), (0, .v (.int .i64))] (fun x => z1s N x.1 x.2.1 x.2.2.1) (z51 (.v .bool) 3)

theorem zb6 (N : Nat) : Contract Go.Proofs.Try.prog zm 5 (z9x N) :=
  Contract.of (E := zd N) (H := z63 N) (L := ze) (N := N) (body := z7) (K := (z6g (.v .bool) 3)) (za7 N) Go.Proofs.Try.func5 (by kernel_rfl) (by decide) (fun _ hb => (TabOk.cons (za6 hb) (TabOk.cons (za4 hb) TabOk.nil))) (fun x y h => by rw [z96]; exact h) (z20 (s := (.v .bool)) (m := 3))

end
end Go.Proofs.YtlohplpnhopldaaLg

set_option linter.all false
set_option maxRecDepth 100000
namespace Go.Proofs.YtlohplpnhopldaaLg
noncomputable section
open Go Go.Lift Go.Proofs.YtlohplpnhopldaaPx

abbrev EvD := Int × (List UInt8 × (Int × (Int × (List UInt8 × Unit))))

def z7l {α : Type} (p : α -> Bool) : List α -> Nat -> Int
  | [], _ => -1
  | x :: l, i => if p x then (i : Int) else z7l p l (i + 1)

theorem z5z {α : Type} (p : α -> Bool) : ∀ (l : List α) (i : Nat), (z7l p l i = -1 /\ ∀ x ∈ l, p x = false) \/ ∃ j : Nat, z7l p l i = ((i + j : Nat) : Int) /\ ∃ h : j < l.length, p l[j] = true
  | [], i => .inl ⟨rfl, fun x hx => by cases hx⟩
  | x :: l, i => by
    rw [z7l]
    cases hp : p x with
    | true => exact .inr ⟨0, by simp, by simp, hp⟩
    | false =>
      simp only [Bool.false_eq_true, if_false]
      rcases z5z p l (i + 1) with ⟨h1, h2⟩ | ⟨j, h1, h2, h3⟩
      . refine .inl ⟨h1, fun y hy => ?_⟩
        rcases List.mem_cons.1 hy with rfl | hy
        . exact hp
        . exact h2 y hy
      . exact .inr ⟨j + 1, by rw [h1]; congr 1; omega, by simpa using h2, by simpa using h3⟩

theorem zvg : ∀ a b : List UInt8, Go.Op.bytesLess a b = decide (zkm a b < 0)
  | [], [] => rfl
  | [], _ :: _ => rfl
  | _ :: _, [] => rfl
  | x :: xs, y :: ys => by
    rw [zkm, Go.Op.bytesLess]
    by_cases h1 : x < y
    . rw [if_pos h1, decide_eq_true h1]; rfl
    . by_cases h2 : y < x
      . have h3 : (x == y) = false := by
          rw [beq_eq_false_iff_ne]
          intro e; rw [e, UInt8.lt_iff_toNat_lt] at h2; omega
        rw [if_neg h1, if_pos h2, decide_eq_false h1, h3]; rfl
      . have e : x = y := by
          rw [UInt8.lt_iff_toNat_lt] at h1 h2
          exact UInt8.toNat_inj.1 (by omega)
        subst e
        rw [if_neg h1, if_neg h1, zvg xs ys, decide_eq_false h1, beq_self_eq_true, Bool.false_or, Bool.true_and]

theorem zn4 : ∀ a b c : List UInt8, zkm a b < 0 -> zkm b c < 0 -> zkm a c < 0
  | [], [], _, h, _ => by simp [zkm] at h
  | [], _ :: _, [], _, h => by simp [zkm] at h
  | [], _ :: _, _ :: _, _, _ => by simp [zkm]
  | _ :: _, [], _, h, _ => by simp [zkm] at h
  | _ :: _, _ :: _, [], _, h => by simp [zkm] at h
  | x :: xs, y :: ys, z :: zs, h, g => by
    rw [zkm] at h g ⊢
    simp only [UInt8.lt_iff_toNat_lt] at h g ⊢
    by_cases h1 : x.toNat < y.toNat
    . by_cases g1 : y.toNat < z.toNat
      . rw [if_pos (by omega)]; omega
      . by_cases g2 : z.toNat < y.toNat
        . rw [if_neg g1, if_pos g2] at g; omega
        . rw [if_pos (by omega)]; omega
    . by_cases h2 : y.toNat < x.toNat
      . rw [if_neg h1, if_pos h2] at h; omega
      . rw [if_neg h1, if_neg h2] at h
        by_cases g1 : y.toNat < z.toNat
        . rw [if_pos (by omega)]; omega
        . by_cases g2 : z.toNat < y.toNat
          . rw [if_neg g1, if_pos g2] at g; omega
          . rw [if_neg g1, if_neg g2] at g
            rw [if_neg (by omega), if_neg (by omega)]
            exact zn4 xs ys zs h g

theorem zpd : ∀ a b : List UInt8, ¬ zkm a b < 0 -> a ≠ b -> zkm b a < 0
  | [], [], _, h => absurd rfl h
  | [], _ :: _, h, _ => by simp [zkm] at h
  | _ :: _, [], _, _ => by simp [zkm]
  | x :: xs, y :: ys, h, g => by
    rw [zkm] at h ⊢
    simp only [UInt8.lt_iff_toNat_lt] at h ⊢
    by_cases h1 : x.toNat < y.toNat
    . rw [if_pos h1] at h; omega
    . by_cases h2 : y.toNat < x.toNat
      . rw [if_pos h2]; omega
      . have e : x = y := UInt8.toNat_inj.1 (by omega)
        subst e
        rw [if_neg h1, if_neg h1] at h
        rw [if_neg h1, if_neg h1]
        exact zpd xs ys h (fun e => g (by rw [e]))

theorem zwy (p t : List UInt8) : upL (some p) t = decide (zkm p t < 0) := by
  rw [upL, <- z11d]
  by_cases h : zkm p t < 0
  . rw [decide_eq_true h, decide_eq_false (by omega)]; rfl
  . rw [decide_eq_false h, decide_eq_true (by omega)]; rfl

theorem z38 {p : Option (List UInt8)} {t : z8j} {l : List z8j} : z7r p (t :: l) = true ↔ upL p t.1 = true /\ zso t = true /\ z7r (some t.1) l = true := by
  rw [z7r]; simp only [Bool.and_eq_true]

theorem zoh : ∀ {l : List z8j} {p : List UInt8}, z7r (some p) l = true -> ∀ x ∈ l, zkm p x.1 < 0
  | [], _, _, x, hx => by cases hx
  | t :: l, p, h, x, hx => by
    obtain ⟨h1, h2, h3⟩ := z38.1 h
    rw [zwy, decide_eq_true_eq] at h1
    rcases List.mem_cons.1 hx with rfl | hx
    . exact h1
    . exact zn4 _ _ _ h1 (zoh h3 x hx)

theorem z6e : ∀ {l : List z8j} {p : Option (List UInt8)}, z7r p l = true -> ∀ x ∈ l, zso x = true
  | [], _, _, x, hx => by cases hx
  | t :: l, p, h, x, hx => by
    obtain ⟨h1, h2, h3⟩ := z38.1 h
    rcases List.mem_cons.1 hx with rfl | hx
    . exact h2
    . exact z6e h3 x hx

theorem z39 {t : z8j} (h : zso t = true) : z52 t.1 = true /\ z9i t.2.1 0 = true /\ z9i t.2.2.1 1 = true /\ t.2.2.2.1.length <= 8 /\ z9e t.2.2.1 0 t.2.2.2.1 = true := by
  unfold zso at h
  simp only [Bool.and_eq_true, decide_eq_true_eq] at h
  exact ⟨h.1, h.2.1, h.2.2.1, h.2.2.2.1, h.2.2.2.2⟩

theorem zx3 {t : z8j} (h1 : z52 t.1 = true) (h2 : z9i t.2.1 0 = true) (h3 : z9i t.2.2.1 1 = true) (h4 : t.2.2.2.1.length <= 8) (h5 : z9e t.2.2.1 0 t.2.2.2.1 = true) : zso t = true := by
  unfold zso
  rw [h1, h2, h3, h5, decide_eq_true h4]; rfl

theorem zvl {s : List UInt8} (h : z52 s = true) : s.length <= 32 := by
  unfold z52 at h
  simp only [Bool.and_eq_true, decide_eq_true_eq] at h
  exact h.1.2

theorem zdj {x low : Int} : z9i x low = true ↔ low <= x /\ x <= 1099511627776 := by
  unfold z9i; simp only [Bool.and_eq_true, decide_eq_true_eq]

theorem z2m {s : z62} : z29 s = true ↔ s.1.length <= 16 /\ z9i s.2.1 0 = true /\ z7r none s.1 = true := by
  unfold z29; simp only [Bool.and_eq_true, decide_eq_true_eq]

theorem zyu : ∀ {l : List z8j} {p : Option (List UInt8)} {i : Nat}, z7r p l = true -> ∀ x ∈ l, ∃ j : Nat, z7l (fun t => t.1 == x.1) l i = ((i + j : Nat) : Int) /\ j < l.length /\ l.getD j zah = x
  | [], _, _, _, x, hx => by cases hx
  | t :: l, p, i, h, x, hx => by
    obtain ⟨h1, h2, h3⟩ := z38.1 h
    rw [z7l]
    rcases List.mem_cons.1 hx with rfl | hx
    . exact ⟨0, by rw [if_pos (beq_self_eq_true _)]; rfl, by simp, rfl⟩
    . have hlt := zoh h3 x hx
      have hne : (t.1 == x.1) = false := by
        rw [beq_eq_false_iff_ne]; intro e; rw [e, zsf] at hlt; omega
      obtain ⟨j, e1, e2, e3⟩ := zyu (i := i + 1) h3 x hx
      refine ⟨j + 1, ?_, by simpa using e2, ?_⟩
      . rw [hne]
        simp only [Bool.false_eq_true, if_false]
        rw [e1]; congr 1; omega
      . simpa using e3

theorem zue : ∀ {l : List z8j} {p : Option (List UInt8)} {t : z8j} (j : Nat) (hj : j < l.length), z7r p l = true -> t.1 = l[j].1 -> zso t = true -> z7r p (l.take j ++ t :: l.drop (j + 1)) = true
  | [], _, _, j, hj, _, _, _ => by cases hj
  | x :: l, p, t, 0, _, h, e, ht => by
    obtain ⟨h1, h2, h3⟩ := z38.1 h
    rw [List.take_zero, List.nil_append, List.drop_succ_cons, List.drop_zero]
    have e' : t.1 = x.1 := e
    rw [z38, e']
    exact ⟨h1, ht, h3⟩
  | x :: l, p, t, j + 1, hj, h, e, ht => by
    obtain ⟨h1, h2, h3⟩ := z38.1 h
    rw [List.take_succ_cons, List.cons_append, List.drop_succ_cons, z38]
    exact ⟨h1, h2, zue j (by simpa using hj) h3 (by simpa using e) ht⟩

theorem zuf : ∀ {l : List z8j} {p : Option (List UInt8)} {t : z8j}, z7r p l = true -> upL p t.1 = true -> (∀ x ∈ l, x.1 ≠ t.1) -> zso t = true -> z7r p (l.take (z64 l t.1) ++ [t] ++ l.drop (z64 l t.1)) = true
  | [], p, t, _, hu, _, ht => by
    show z7r p [t] = true
    rw [z38]; exact ⟨hu, ht, rfl⟩
  | x :: l, p, t, h, hu, hn, ht => by
    obtain ⟨h1, h2, h3⟩ := z38.1 h
    unfold z64
    rw [List.takeWhile_cons]
    have hx : x.1 ≠ t.1 := hn x List.mem_cons_self
    rw [zvg]
    by_cases hlt : zkm x.1 t.1 < 0
    . rw [decide_eq_true hlt, if_pos rfl, List.length_cons, List.take_succ_cons, List.drop_succ_cons]
      show z7r p (x :: (l.take (z64 l t.1) ++ [t] ++ l.drop (z64 l t.1))) = true
      rw [z38]
      exact ⟨h1, h2, zuf h3 (by rw [zwy, decide_eq_true hlt]) (fun y hy => hn y (List.mem_cons_of_mem _ hy)) ht⟩
    . rw [decide_eq_false hlt, if_neg (by decide)]
      show z7r p (t :: x :: l) = true
      rw [z38, z38]
      exact ⟨hu, ht, by rw [zwy]; exact decide_eq_true (zpd _ _ hlt hx), h2, h3⟩

theorem z2s {nx last : Int} {k : zhp} {l : List zhp} : z9e nx last (k :: l) = true ↔ last < k.1 /\ k.1 < nx /\ k.2.1.length = 32 /\ z9e nx k.1 l = true := by
  rw [z9e]; simp only [Bool.and_eq_true, decide_eq_true_eq]

theorem zmp : ∀ {l : List zhp} {nx nx' a b : Int}, z9e nx a l = true -> b <= a -> nx <= nx' -> z9e nx' b l = true
  | [], _, _, _, _, _, _, _ => rfl
  | k :: l, nx, nx', a, b, h, h1, h2 => by
    obtain ⟨g1, g2, g3, g4⟩ := z2s.1 h
    exact z2s.2 ⟨by omega, by omega, g3, zmp g4 (by omega) h2⟩

theorem zrv : ∀ {l : List zhp} {nx a : Int} (j : Nat), z9e nx a l = true -> z9e nx a (l.take j ++ l.drop (j + 1)) = true
  | [], _, _, _, _ => by simp [z9e]
  | k :: l, nx, a, 0, h => by
    obtain ⟨g1, g2, g3, g4⟩ := z2s.1 h
    exact zmp g4 (by omega) (by omega)
  | k :: l, nx, a, j + 1, h => by
    obtain ⟨g1, g2, g3, g4⟩ := z2s.1 h
    rw [List.take_succ_cons, List.cons_append, List.drop_succ_cons]
    exact z2s.2 ⟨g1, g2, g3, zrv j g4⟩

theorem zv5 : ∀ {l : List zhp} {nx a : Int} {k : zhp}, z9e nx a l = true -> a < k.1 -> k.1 < nx -> k.2.1.length = 32 -> (∀ x ∈ l, x.1 ≠ k.1) -> z9e nx a (l.take (zej l k.1) ++ [k] ++ l.drop (zej l k.1)) = true
  | [], nx, a, k, _, h1, h2, h3, _ => z2s.2 ⟨h1, h2, h3, rfl⟩
  | x :: l, nx, a, k, h, h1, h2, h3, hn => by
    obtain ⟨g1, g2, g3, g4⟩ := z2s.1 h
    have hx : x.1 ≠ k.1 := hn x List.mem_cons_self
    unfold zej
    rw [List.takeWhile_cons]
    by_cases hlt : x.1 < k.1
    . rw [decide_eq_true hlt, if_pos rfl, List.length_cons, List.take_succ_cons, List.drop_succ_cons]
      exact z2s.2 ⟨g1, g2, g3, zv5 g4 hlt h2 h3 (fun y hy => hn y (List.mem_cons_of_mem _ hy))⟩
    . rw [decide_eq_false hlt, if_neg (by decide)]
      exact z2s.2 ⟨h1, h2, h3, z2s.2 ⟨by omega, g2, g3, g4⟩⟩

def zpm (s : z62) (i : Nat) (t : z8j) : z62 := (s.1.take i ++ t :: s.1.drop (i + 1), s.2)

def z2f (t : z8j) (kd nu : Int) (tx : List UInt8) : Int × List zhp :=
 if kd = 2 then
 if t.2.2.1 <= nu then (7, t.2.2.2.1)
 else if 0 <= z7l (fun k => k.1 == nu) t.2.2.2.1 0 then (5, t.2.2.2.1)
 else if t.2.2.2.1.length = 8 then (3, t.2.2.2.1)
 else (0, t.2.2.2.1.take (zej t.2.2.2.1 nu) ++ [(nu, (tx, ()))] ++ t.2.2.2.1.drop (zej t.2.2.2.1 nu))
 else if z7l (fun k => k.1 == nu) t.2.2.2.1 0 < 0 then (6, t.2.2.2.1)
 else (0, t.2.2.2.1.take (z7l (fun k => k.1 == nu) t.2.2.2.1 0).toNat ++ t.2.2.2.1.drop ((z7l (fun k => k.1 == nu) t.2.2.2.1 0).toNat + 1))

def z1u (s : z62) (e : EvD) : Int × z62 :=
 if e.1 = 4 then (if e.2.2.1 < s.2.1 then (7, s) else (0, (s.1, (e.2.2.1, ()))))
 else if e.1 = 1 then
 if 0 <= z7l (fun t => t.1 == e.2.1) s.1 0 then
 if e.2.2.2.1 < (s.1.getD (z7l (fun t => t.1 == e.2.1) s.1 0).toNat zah).2.1 \/ e.2.2.1 < (s.1.getD (z7l (fun t => t.1 == e.2.1) s.1 0).toNat zah).2.2.1 then (7, s)
 else (0, zpm s (z7l (fun t => t.1 == e.2.1) s.1 0).toNat ((s.1.getD (z7l (fun t => t.1 == e.2.1) s.1 0).toNat zah).1, (e.2.2.2.1, (e.2.2.1, ((s.1.getD (z7l (fun t => t.1 == e.2.1) s.1 0).toNat zah).2.2.2.1, ())))))
 else if s.1.length = 16 then (3, s)
 else (0, (s.1.take (z64 s.1 e.2.1) ++ [(e.2.1, (e.2.2.2.1, (e.2.2.1, ([], ()))))] ++ s.1.drop (z64 s.1 e.2.1), s.2))
 else if z7l (fun t => t.1 == e.2.1) s.1 0 < 0 then (6, s)
 else ((z2f (s.1.getD (z7l (fun t => t.1 == e.2.1) s.1 0).toNat zah) e.1 e.2.2.1 e.2.2.2.2.1).1,
 zpm s (z7l (fun t => t.1 == e.2.1) s.1 0).toNat ((s.1.getD (z7l (fun t => t.1 == e.2.1) s.1 0).toNat zah).1, ((s.1.getD (z7l (fun t => t.1 == e.2.1) s.1 0).toNat zah).2.1, ((s.1.getD (z7l (fun t => t.1 == e.2.1) s.1 0).toNat zah).2.2.1,
 ((z2f (s.1.getD (z7l (fun t => t.1 == e.2.1) s.1 0).toNat zah) e.1 e.2.2.1 e.2.2.2.2.1).2, ())))))

def zbq (e : EvD) : Bool :=
 if e.1 = 1 then z52 e.2.1 && (z9i e.2.2.1 1 && (z9i e.2.2.2.1 0 && (e.2.2.2.2.1 == [])))
 else if e.1 = 2 then z52 e.2.1 && (z9i e.2.2.1 1 && ((e.2.2.2.1 == 0) && decide (e.2.2.2.2.1.length = 32)))
 else if e.1 = 3 then z52 e.2.1 && (z9i e.2.2.1 1 && ((e.2.2.2.1 == 0) && (e.2.2.2.2.1 == [])))
 else if e.1 = 4 then z9i e.2.2.1 0 && ((e.2.1 == []) && ((e.2.2.2.1 == 0) && (e.2.2.2.2.1 == [])))
 else false

def z13h (c : Int) : z62 × (Int × Unit) := (([], (0, ())), (c, ()))

def z50 (s : z62) (e : EvD) : z62 × (Int × Unit) :=
 if z29 s = false then z13h 7 else if zbq e = false then z13h 2
 else if (z1u s e).1 = 0 then ((z1u s e).2, (0, ())) else z13h (z1u s e).1

theorem zsg {s : z62} {e : EvD} (hr : z29 s = true) (hf : zbq e = true) (hc : (z1u s e).1 = 0) :
    z29 (z1u s e).2 = true /\ s.2.1 <= (z1u s e).2.2.1 /\ s.1.length <= (z1u s e).2.1.length ∧
    ∀ x ∈ s.1, ∃ y ∈ (z1u s e).2.1, y.1 = x.1 /\ x.2.1 <= y.2.1 /\ x.2.2.1 <= y.2.2.1 /\ (x.1 ≠ e.2.1 -> y = x) := by
  obtain ⟨r1, r2, r3⟩ := z2m.1 hr
  have hin := zdj.1 r2
  unfold z1u at hc ⊢
  by_cases k4 : e.1 = 4
  . rw [if_pos k4] at hc ⊢
    by_cases h : e.2.2.1 < s.2.1
    . rw [if_pos h] at hc; cases hc
    . rw [if_neg h]
      refine ⟨z2m.2 ⟨r1, ?_, r3⟩, by show s.2.1 <= e.2.2.1; omega, Nat.le_refl _, fun x hx => ⟨x, hx, rfl, by omega, by omega, fun _ => rfl⟩⟩
      unfold zbq at hf
      rw [k4] at hf
      simp only [Int.reduceEq, if_false, if_true, Bool.and_eq_true] at hf
      exact hf.1
  rw [if_neg k4] at hc ⊢
  have hset : ∀ (j : Nat) (hj : j < s.1.length) (t : z8j), s.1[j].1 = e.2.1 -> t.1 = s.1[j].1 -> s.1[j].2.1 <= t.2.1 -> s.1[j].2.2.1 <= t.2.2.1 -> zso t = true →
      z29 (zpm s j t) = true /\ s.2.1 <= (zpm s j t).2.1 /\ s.1.length <= (zpm s j t).1.length /\ ∀ x ∈ s.1, ∃ y ∈ (zpm s j t).1, y.1 = x.1 /\ x.2.1 <= y.2.1 /\ x.2.2.1 <= y.2.2.1 /\ (x.1 ≠ e.2.1 -> y = x) := by
    intro j hj t hn ht h1 h2 h3
    have hlen : (zpm s j t).1.length = s.1.length := by
      unfold zpm; simp only [List.length_append, List.length_cons, List.length_take, List.length_drop]; omega
    refine ⟨z2m.2 ⟨by rw [hlen]; exact r1, r2, zue j hj r3 ht h3⟩, Int.le_refl _, by rw [hlen]; exact Nat.le_refl _, fun x hx => ?_⟩
    obtain ⟨i, hi, rfl⟩ := List.getElem_of_mem hx
    rcases Nat.lt_trichotomy i j with h | h | h
    . refine ⟨s.1[i], List.mem_append.2 (.inl ?_), rfl, by omega, by omega, fun _ => rfl⟩
      rw [List.mem_take_iff_getElem]
      exact ⟨i, by omega, rfl⟩
    . subst h
      refine ⟨t, List.mem_append.2 (.inr List.mem_cons_self), ht, h1, h2, fun h => absurd hn h⟩
    . refine ⟨s.1[i], List.mem_append.2 (.inr (List.mem_cons_of_mem _ ?_)), rfl, by omega, by omega, fun _ => rfl⟩
      rw [List.mem_drop_iff_getElem]
      exact ⟨i - (j + 1), by omega, by congr 1; omega⟩
  have hget : ∀ (j : Nat) (hj : j < s.1.length), s.1.getD j zah = s.1[j] := fun j hj => by simp [List.getD, List.getElem?_eq_getElem hj]
  by_cases k1 : e.1 = 1
  . have hf' : z52 e.2.1 = true /\ z9i e.2.2.1 1 = true /\ z9i e.2.2.2.1 0 = true := by
      unfold zbq at hf
      rw [if_pos k1] at hf
      simp only [Bool.and_eq_true] at hf
      exact ⟨hf.1, hf.2.1, hf.2.2.1⟩
    rw [if_pos k1] at hc ⊢
    rcases z5z (fun t : z8j => t.1 == e.2.1) s.1 0 with ⟨h1, h2⟩ | ⟨j, h1, hj, h3⟩
    . rw [h1, if_neg (by decide)] at hc ⊢
      by_cases h16 : s.1.length = 16
      . rw [if_pos h16] at hc; cases hc
      rw [if_neg h16]
      have hne : ∀ x ∈ s.1, x.1 ≠ e.2.1 := fun x hx e' => by have := h2 x hx; rw [e', beq_self_eq_true] at this; cases this
      refine ⟨z2m.2 ⟨?_, r2, zuf (t := (e.2.1, (e.2.2.2.1, (e.2.2.1, ([], ()))))) r3 rfl hne (zx3 hf'.1 hf'.2.2 hf'.2.1 (by simp) rfl)⟩, Int.le_refl _, ?_, fun x hx => ⟨x, ?_, rfl, by omega, by omega, fun _ => rfl⟩⟩
      . simp only [List.length_append, List.length_cons, List.length_nil, List.length_take, List.length_drop]; omega
      . simp only [List.length_append, List.length_cons, List.length_nil, List.length_take, List.length_drop]; omega
      . dsimp only
        rw [List.append_assoc]
        have := List.take_append_drop (z64 s.1 e.2.1) s.1
        rw [<- this] at hx
        rcases List.mem_append.1 hx with hx | hx
        . exact List.mem_append.2 (.inl hx)
        . exact List.mem_append.2 (.inr (List.mem_append.2 (.inr hx)))
    . rw [Nat.zero_add] at h1
      rw [h1, if_pos (by omega), Int.toNat_natCast, hget j hj] at hc ⊢
      by_cases hlow : e.2.2.2.1 < s.1[j].2.1 \/ e.2.2.1 < s.1[j].2.2.1
      . rw [if_pos hlow] at hc; cases hc
      rw [if_neg hlow]
      have ht := z39 (z6e r3 _ (List.getElem_mem hj))
      exact hset j hj _ (beq_iff_eq.1 h3) rfl (by dsimp only; omega) (by dsimp only; omega) (zx3 ht.1 hf'.2.2 hf'.2.1 ht.2.2.2.1 (zmp ht.2.2.2.2 (by omega) (by dsimp only; omega)))
  . rw [if_neg k1] at hc ⊢
    rcases z5z (fun t : z8j => t.1 == e.2.1) s.1 0 with ⟨h1, h2⟩ | ⟨j, h1, hj, h3⟩
    . rw [h1, if_pos (by decide)] at hc; cases hc
    rw [Nat.zero_add] at h1
    rw [h1, if_neg (by omega), Int.toNat_natCast, hget j hj] at hc ⊢
    dsimp only at hc ⊢
    have ht := z39 (z6e r3 _ (List.getElem_mem hj))
    refine hset j hj _ (beq_iff_eq.1 h3) rfl (by dsimp only; omega) (by dsimp only; omega) ?_
    generalize s.1[j] = t at hc ht
    have hk : (z2f t e.1 e.2.2.1 e.2.2.2.2.1).2.length <= 8 /\ z9e t.2.2.1 0 (z2f t e.1 e.2.2.1 e.2.2.2.2.1).2 = true := by
      unfold z2f at hc ⊢
      by_cases k2 : e.1 = 2
      . have hf' : z9i e.2.2.1 1 = true /\ e.2.2.2.2.1.length = 32 := by
          unfold zbq at hf
          rw [if_neg k1, if_pos k2] at hf
          simp only [Bool.and_eq_true, decide_eq_true_eq] at hf
          exact ⟨hf.2.1, hf.2.2.2⟩
        rw [if_pos k2] at hc ⊢
        by_cases c1 : t.2.2.1 <= e.2.2.1
        . rw [if_pos c1] at hc; cases hc
        rw [if_neg c1] at hc ⊢
        rcases z5z (fun k : zhp => k.1 == e.2.2.1) t.2.2.2.1 0 with ⟨g1, g2⟩ | ⟨i, g1, g2, g3⟩
        . rw [g1, if_neg (by decide)] at hc ⊢
          by_cases c2 : t.2.2.2.1.length = 8
          . rw [if_pos c2] at hc; cases hc
          rw [if_neg c2]
          have hl := zdj.1 hf'.1
          refine ⟨?_, zv5 (k := (e.2.2.1, (e.2.2.2.2.1, ()))) ht.2.2.2.2 (by dsimp only; omega) (by dsimp only; omega) hf'.2 (fun x hx e' => by have := g2 x hx; rw [e', beq_self_eq_true] at this; cases this)⟩
          simp only [List.length_append, List.length_cons, List.length_nil, List.length_take, List.length_drop]; omega
        . rw [g1, if_pos (by omega)] at hc; cases hc
      . rw [if_neg k2] at hc ⊢
        rcases z5z (fun k : zhp => k.1 == e.2.2.1) t.2.2.2.1 0 with ⟨g1, g2⟩ | ⟨i, g1, g2, g3⟩
        . rw [g1, if_pos (by decide)] at hc; cases hc
        . rw [Nat.zero_add] at g1
          rw [g1, if_neg (by omega), Int.toNat_natCast]
          exact ⟨by simp only [List.length_append, List.length_take, List.length_drop]; omega, zrv i ht.2.2.2.2⟩
    exact zx3 ht.1 ht.2.1 ht.2.2.1 hk.1 hk.2

theorem z10t {s : z62} {e : EvD} : ((z50 s e).2.1 = 0 /\ z29 s = true /\ zbq e = true /\ (z1u s e).1 = 0 /\ (z50 s e).1 = (z1u s e).2) \/ ((z50 s e).2.1 ≠ 0 /\ z50 s e = z13h (z50 s e).2.1) := by
  unfold z50
  cases hr : z29 s with
  | false => exact .inr ⟨show (7 : Int) ≠ 0 by decide, rfl⟩
  | true =>
    cases hf : zbq e with
    | false => exact .inr ⟨show (2 : Int) ≠ 0 by decide, rfl⟩
    | true =>
      rw [if_neg (show ¬ (true = false) by decide), if_neg (show ¬ (true = false) by decide)]
      by_cases hc : (z1u s e).1 = 0
      . rw [if_pos hc]; exact .inl ⟨rfl, rfl, rfl, hc, rfl⟩
      . rw [if_neg hc]; exact .inr ⟨hc, rfl⟩

theorem zu3 (s : z62) (e : EvD) : z29 (z50 s e).1 = true := by
  rcases z10t (s := s) (e := e) with ⟨_, hr, hf, hc, h⟩ | ⟨_, h⟩
  . rw [h]; exact (zsg hr hf hc).1
  . rw [h]; rfl

def zzm : z62 -> List EvD -> z62 × (Int × Unit)
  | s, [] => (s, (0, ()))
  | s, e :: l => if (z50 s e).2.1 = 0 then zzm (z50 s e).1 l else z13h (z50 s e).2.1

end
end Go.Proofs.YtlohplpnhopldaaLg

set_option linter.all false
set_option maxRecDepth 100000
namespace Go.Proofs.YtlohplpnhopldaaLg
noncomputable section
open Go Go.Lift Go.Proofs.YtlohplpnhopldaaPx

theorem zrz {α : Type} (p : α -> Bool) {s : List α} {i : Nat} (hi : i < s.length) : z7l p (s.drop i) i = if p s[i] then (i : Int) else z7l p (s.drop (i + 1)) (i + 1) := by
  rw [List.drop_eq_getElem_cons hi]
  rfl

theorem ztk (N : Nat) {s : List zhp} {f : Int × Unit} (hl : s.length <= 1000) (hN : s.length < N) : zhf N s f = some (z7l (fun k => k.1 == f.1) s 0) := by
  rw [zhf, zmu]
  refine (zbl (fun v => ∃ (i : Nat), v = (i : Int) /\ i <= s.length) (fun v => s.length - v.toNat) (fun v => some (z7l (fun k => k.1 == f.1) (s.drop v.toNat) v.toNat)) ?_ N 0 ⟨0, rfl, Nat.zero_le _⟩ (by simpa using hN)).trans (by simp)
  rintro v r ⟨i, rfl, hi⟩ hr
  rw [zg1]
  simp only [Int.toNat_natCast]
  rcases Nat.lt_or_ge i s.length with hlt | hge
  . rw [z1f (zek (by omega)), z1f (z5y hlt), zrz _ hlt, z9j (by omega), hr _ ⟨i + 1, rfl, by omega⟩ (by simp; omega), Int.toNat_natCast]
    have hg : s.getD i ((0 : Int), (([] : List UInt8), ())) = s[i] := by simp [List.getD, List.getElem?_eq_getElem hlt]
    rw [hg]
    cases s[i].1 == f.1 <;> rfl
  . rw [z1d (zcc (by omega)), List.drop_of_length_le hge]
    rfl

theorem zp9 (N : Nat) {ks : List zhp} {num : Int} (hl : ks.length <= 1000) (hN : ks.length < N) : z4p N ks num = some (z7l (fun k => k.1 == num) ks 0) := by
  rw [z4p, ztk N hl hN]
  rfl

theorem zob (N : Nat) {s : List z8j} {f : List UInt8 × Unit} (hl : s.length <= 1000) (hN : s.length < N) : z8e N s f = some (z7l (fun k => k.1 == f.1) s 0) := by
  rw [z8e, zfd]
  refine (zbl (fun v => ∃ (i : Nat), v = (i : Int) /\ i <= s.length) (fun v => s.length - v.toNat) (fun v => some (z7l (fun k => k.1 == f.1) (s.drop v.toNat) v.toNat)) ?_ N 0 ⟨0, rfl, Nat.zero_le _⟩ (by simpa using hN)).trans (by simp)
  rintro v r ⟨i, rfl, hi⟩ hr
  rw [z9f]
  simp only [Int.toNat_natCast]
  rcases Nat.lt_or_ge i s.length with hlt | hge
  . rw [z1f (zek (by omega)), z1f (z5y hlt), zrz _ hlt, z9j (by omega), hr _ ⟨i + 1, rfl, by omega⟩ (by simp; omega), Int.toNat_natCast]
    have hg : s.getD i (([] : List UInt8), ((0 : Int), ((0 : Int), (([] : List (Int × (List UInt8 × Unit))), ())))) = s[i] := by simp [List.getD, List.getElem?_eq_getElem hlt]
    rw [hg]
    cases s[i].1 == f.1 <;> rfl
  . rw [z1d (zcc (by omega)), List.drop_of_length_le hge]
    rfl

theorem zaf (N : Nat) {s : z62} {nm : List UInt8} (hl : s.1.length <= 1000) (hN : s.1.length < N) : z3m N s nm = some (z7l (fun t => t.1 == nm) s.1 0) := by
  rw [z3m, zob N hl hN]
  rfl

theorem zyn (N : Nat) (hN : 40 < N) (e : EvD) : z9p N e = some (zbq e) := by
  rw [z9p, zco, zbq, zsr N hN, Option.bind_some]
  by_cases k1 : e.1 = 1
  . rw [if_pos k1]
    simp only [k1, z8k, Option.bind_some, beq_self_eq_true, cond_true]
    cases z52 e.2.1 <;> cases z9i e.2.2.1 1 <;> cases z9i e.2.2.2.1 0 <;> rfl
  have b1 : (e.1 == (1 : Int)) = false := beq_eq_false_iff_ne.2 k1
  rw [if_neg k1]
  by_cases k2 : e.1 = 2
  . rw [if_pos k2]
    have hl : ((((List.length e.2.2.2.2.1) : Nat) : Int) == (32 : Int)) = decide (e.2.2.2.2.1.length = 32) := by
      by_cases h : e.2.2.2.2.1.length = 32
      . rw [decide_eq_true h, h]; rfl
      . rw [decide_eq_false h, beq_eq_false_iff_ne]; omega
    simp only [b1, k2, z8k, Option.bind_some, beq_self_eq_true, cond_true, cond_false, hl]
    cases z52 e.2.1 <;> cases z9i e.2.2.1 1 <;> cases (e.2.2.2.1 == (0 : Int)) <;> rfl
  have b2 : (e.1 == (2 : Int)) = false := beq_eq_false_iff_ne.2 k2
  rw [if_neg k2]
  by_cases k3 : e.1 = 3
  . rw [if_pos k3]
    simp only [b1, b2, k3, z8k, Option.bind_some, beq_self_eq_true, cond_true, cond_false]
    cases z52 e.2.1 <;> cases z9i e.2.2.1 1 <;> cases (e.2.2.2.1 == (0 : Int)) <;> rfl
  have b3 : (e.1 == (3 : Int)) = false := beq_eq_false_iff_ne.2 k3
  rw [if_neg k3]
  by_cases k4 : e.1 = 4
  . rw [if_pos k4]
    simp only [b1, b2, b3, k4, z8k, Option.bind_some, beq_self_eq_true, cond_true, cond_false]
    cases z52 e.2.1 <;> cases z9i e.2.2.1 1 <;> cases z9i e.2.2.1 0 <;> cases (e.2.1 == ([] : List UInt8)) <;> cases (e.2.2.2.1 == (0 : Int)) <;> rfl
  have b4 : (e.1 == (4 : Int)) = false := beq_eq_false_iff_ne.2 k4
  rw [if_neg k4]
  simp only [b1, b2, b3, b4, z8k, Option.bind_some, cond_false]
  cases z52 e.2.1 <;> cases z9i e.2.2.1 1 <;> rfl

theorem ztx (N : Nat) (hN : 40 < N) {s : z62} (e : EvD) (hr : z29 s = true) : zn5 N s e.1 e.2.1 e.2.2.1 e.2.2.2.1 e.2.2.2.2.1 = some (z1u s e) := by
  obtain ⟨r1, r2, r3⟩ := z2m.1 hr
  unfold zn5 z1u
  by_cases k4 : e.1 = 4
  . rw [if_pos k4, if_pos k4]
    split <;> rfl
  rw [if_neg k4, if_neg k4, zaf N (by omega) (by omega), Option.bind_some]
  rcases z5z (fun t : z8j => t.1 == e.2.1) s.1 0 with ⟨h1, h2⟩ | ⟨j, h1, hj, h3⟩
  . rw [h1]
    by_cases k1 : e.1 = 1
    . rw [if_pos k1, if_pos k1, if_neg (show ¬ (0 : Int) <= -1 by decide), if_neg (show ¬ (0 : Int) <= -1 by decide)]
      split <;> rfl
    . rw [if_neg k1, if_neg k1, if_pos (show (-1 : Int) < 0 by decide), if_pos (show (-1 : Int) < 0 by decide)]
  . have hget : s.1.getD j zah = s.1[j] := by simp [List.getD, List.getElem?_eq_getElem hj]
    rw [Nat.zero_add] at h1
    rw [h1, Int.toNat_natCast, hget, List.getElem?_eq_getElem hj]
    by_cases k1 : e.1 = 1
    . rw [if_pos k1, if_pos k1, if_pos (by omega), if_pos (by omega)]
      dsimp only
      split <;> rfl
    . rw [if_neg k1, if_neg k1, if_neg (by omega), if_neg (by omega)]
      dsimp only
      have ht := z39 (z6e r3 _ (List.getElem_mem hj))
      generalize s.1[j] = t at ht
      have hy : (if e.1 = 2 then znd N t e.2.2.1 e.2.2.2.2.1 else zhi N t e.2.2.1) = some (z2f t e.1 e.2.2.1 e.2.2.2.2.1) := by
        unfold z2f znd zhi
        rw [zp9 N (by omega) (by omega), Option.bind_some, Option.bind_some]
        by_cases k2 : e.1 = 2
        . rw [if_pos k2, if_pos k2]
          by_cases c1 : t.2.2.1 <= e.2.2.1
          . rw [if_pos c1, if_pos c1]
          . rw [if_neg c1, if_neg c1]
            split
            . rfl
            . split <;> rfl
        . rw [if_neg k2, if_neg k2]
          rcases z5z (fun k : zhp => k.1 == e.2.2.1) t.2.2.2.1 0 with ⟨g1, g2⟩ | ⟨i, g1, g2, g3⟩
          . rw [g1, if_pos (show (-1 : Int) < 0 by decide), if_pos (show (-1 : Int) < 0 by decide)]
          . rw [Nat.zero_add] at g1
            rw [g1, Int.toNat_natCast, if_neg (show ¬ (i : Int) < 0 by omega), if_neg (show ¬ (i : Int) < 0 by omega), if_pos g2]
      rw [hy, Option.bind_some]
      rfl

theorem zwr (N : Nat) (hN : 40 < N) (s : z62) (e : EvD) : z9q N s e = some (z50 s e) := by
  unfold z9q z50
  rw [zkq N hN, Option.bind_some]
  cases hr : z29 s with
  | false => rfl
  | true =>
    rw [if_neg (show ¬ (true = false) by decide), if_neg (show ¬ (true = false) by decide), zyn N hN, Option.bind_some]
    cases hf : zbq e with
    | false => rfl
    | true =>
      obtain ⟨r1, r2, r3⟩ := z2m.1 hr
      have hg : s.1.length <= 16 /\ (s.1.all fun t => decide (t.2.2.2.1.length < 256)) = true := by
        refine ⟨r1, List.all_eq_true.2 fun t ht => ?_⟩
        have := (z39 (z6e r3 t ht)).2.2.2.1
        exact decide_eq_true (by omega)
      rw [if_neg (show ¬ (true = false) by decide), if_neg (show ¬ (true = false) by decide), if_pos hg, ztx N hN e hr, Option.bind_some]
      split <;> rfl

theorem zwl (N : Nat) {s : z62} (hr : z29 s = true) : z9o N s = some s := by
  obtain ⟨r1, r2, r3⟩ := z2m.1 hr
  unfold z9o
  refine if_pos ⟨by omega, List.all_eq_true.2 fun t ht => ?_⟩
  have := (z39 (z6e r3 t ht)).2.2.2.1
  exact decide_eq_true (by omega)

def dEv : EvD := ((0 : Int), (([] : List UInt8), ((0 : Int), ((0 : Int), (([] : List UInt8), ())))))

theorem z10u (N : Nat) (hN : 40 < N) {s : z62} {l : List EvD} (hr : z29 s = true) (hl : l.length < N) (hb : l.length <= 1000000) : zdz N s l = some (zzm s l) := by
  rw [zdz, zkq N hN, Option.bind_some, hr, Bool.not_true, cond_false, zwl N hr, Option.bind_some, zlt]
  refine (zbl (fun v => ∃ (i : Nat), v.2 = (i : Int) /\ i <= l.length) (fun v => l.length - v.2.toNat) (fun v => some (zzm v.1 (l.drop v.2.toNat))) ?_ N (s, 0) ⟨0, rfl, Nat.zero_le _⟩ (by simpa using hl)).trans (by rfl)
  rintro ⟨a, v⟩ r ⟨i, hv, hi⟩ hr
  dsimp only at hv
  subst hv
  rw [zft]
  simp only [Int.toNat_natCast]
  rcases Nat.lt_or_ge i l.length with hlt | hge
  . rw [z1f (zek (by omega)), z1f (z5y hlt), zdm l dEv i hlt, zzm]
    rw [show ((0 : Int), (([] : List UInt8), ((0 : Int), ((0 : Int), (([] : List UInt8), ()))))) = dEv from rfl, zwr N hN, Option.bind_some, z9j (by omega), hr _ ⟨i + 1, rfl, by omega⟩ (by simp; omega)]
    simp only [Int.toNat_natCast]
    by_cases h : (z50 a (l.getD i dEv)).2.1 = 0
    . rw [if_pos h, h]; rfl
    . rw [if_neg h, z1f (bne_iff_ne.2 h)]; rfl
  . rw [z1d (zcc (by omega)), List.drop_of_length_le hge]
    rfl

end
end Go.Proofs.YtlohplpnhopldaaLg

set_option linter.all false
set_option maxRecDepth 100000
namespace Go.Proofs.YtlohplpnhopldaaLg
noncomputable section
open Go Go.Lift Go.Proofs.YtlohplpnhopldaaPx

def Few (s : z62) : Prop := s.1.length <= 20 /\ ∀ t ∈ s.1, t.2.2.2.1.length <= 12 /\ t.1.length <= 100

def atL (s : z62) (tn : List UInt8) : Int := z7l (fun t => t.1 == tn) s.1 0

def zw (s : z62) (tn : List UInt8) : z8j := s.1.getD (atL s tn).toNat zah

theorem zj1 (s : z62) (tn : List UInt8) : (atL s tn = -1 /\ ∀ x ∈ s.1, x.1 ≠ tn) \/ ∃ j : Nat, atL s tn = (j : Int) /\ j < s.1.length /\ zw s tn = s.1.getD j zah /\ (zw s tn).1 = tn := by
  rcases z5z (fun t : z8j => t.1 == tn) s.1 0 with ⟨h1, h2⟩ | ⟨j, h1, hj, h3⟩
  . exact .inl ⟨h1, fun x hx e => by have := h2 x hx; rw [e, beq_self_eq_true] at this; cases this⟩
  . rw [Nat.zero_add] at h1
    have e : zw s tn = s.1.getD j zah := by unfold zw atL; rw [h1, Int.toNat_natCast]
    refine .inr ⟨j, h1, hj, e, ?_⟩
    rw [e]
    simp only [List.getD_eq_getElem?_getD, List.getElem?_eq_getElem hj, Option.getD_some]
    exact beq_iff_eq.1 h3

theorem zto {s : z62} (h : Few s) (tn : List UInt8) : (zw s tn).2.2.2.1.length <= 12 := by
  rcases zj1 s tn with ⟨h1, _⟩ | ⟨j, h1, hj, h2, _⟩
  . unfold zw; rw [h1]
    cases hs : s.1 with
    | nil => simp [zah]
    | cons x l => exact (h.2 x (by rw [hs]; simp)).1
  . rw [h2]; exact (h.2 _ (zhg s.1 zah j hj)).1

def zyv (s : z62) (tn : List UInt8) : z8j × (Bool × Unit) := if atL s tn < 0 then (zah, (false, ())) else (zw s tn, (true, ()))

theorem zn0 (N : Nat) (hN : 40 < N) {s : z62} (h : Few s) (tn : List UInt8) : z6n N s tn = some (zyv s tn) := by
  have hl := h.1
  rw [z6n, zaf N (by omega) (by omega), Option.bind_some, zyv]
  rcases zj1 s tn with ⟨h1, _⟩ | ⟨j, h1, hj, h2, _⟩
  . unfold atL at h1 ⊢
    rw [h1]; rfl
  . rw [show z7l (fun t : z8j => t.1 == tn) s.1 0 = (j : Int) from h1, h1, z1d (zcc (by omega)), if_neg (by omega), z1f (z5y hj), h2]
    rfl

def kAt (s : z62) (tn : List UInt8) (num : Int) : Int := z7l (fun k => k.1 == num) (zw s tn).2.2.2.1 0

def z12t (s : z62) (tn : List UInt8) (num : Int) : List UInt8 × (Bool × Unit) :=
 if atL s tn < 0 then ([], (false, ())) else if kAt s tn num < 0 then ([], (false, ())) else (((zw s tn).2.2.2.1.getD (kAt s tn num).toNat zve).2.1, (true, ()))

theorem zv7 (s : z62) (tn : List UInt8) (num : Int) : (kAt s tn num = -1 /\ ∀ x ∈ (zw s tn).2.2.2.1, x.1 ≠ num) \/ ∃ j : Nat, kAt s tn num = (j : Int) /\ j < (zw s tn).2.2.2.1.length /\ ((zw s tn).2.2.2.1.getD j zve).1 = num := by
  rcases z5z (fun k : zhp => k.1 == num) (zw s tn).2.2.2.1 0 with ⟨h1, h2⟩ | ⟨j, h1, hj, h3⟩
  . exact .inl ⟨h1, fun x hx e => by have := h2 x hx; rw [e, beq_self_eq_true] at this; cases this⟩
  . rw [Nat.zero_add] at h1
    refine .inr ⟨j, h1, hj, ?_⟩
    simp only [List.getD_eq_getElem?_getD, List.getElem?_eq_getElem hj, Option.getD_some]
    exact beq_iff_eq.1 h3

theorem zyg (N : Nat) (hN : 40 < N) {s : z62} (h : Few s) (tn : List UInt8) (num : Int) : zau N s tn num = some (z12t s tn num) := by
  have hl := h.1
  rw [zau, zaf N (by omega) (by omega), Option.bind_some, z12t]
  rcases zj1 s tn with ⟨h1, _⟩ | ⟨j, h1, hj, h2, _⟩
  . rw [show z7l (fun t : z8j => t.1 == tn) s.1 0 = -1 from h1, h1]; rfl
  . have hk := zto h tn
    rw [show z7l (fun t : z8j => t.1 == tn) s.1 0 = (j : Int) from h1, h1, z1d (zcc (by omega)), if_neg (by omega), z1f (z5y hj), Int.toNat_natCast,
      show (([] : List UInt8), ((0 : Int), ((0 : Int), (([] : List (Int × (List UInt8 × Unit))), ())))) = zah from rfl, <- h2, zp9 N (by omega) (by omega), Option.bind_some]
    rcases zv7 s tn num with ⟨g1, _⟩ | ⟨i, g1, hi, _⟩
    . rw [show z7l (fun k : zhp => k.1 == num) (zw s tn).2.2.2.1 0 = -1 from g1, g1]; rfl
    . rw [show z7l (fun k : zhp => k.1 == num) (zw s tn).2.2.2.1 0 = (i : Int) from g1, g1, z1d (zcc (by omega)), if_neg (by omega), z1f (z5y hi)]
      rfl

def z115 (s : z62) (tn : List UInt8) : zhp × (Bool × Unit) :=
 if atL s tn < 0 then (zve, (false, ())) else if (zw s tn).2.2.2.1.length = 0 then (zve, (false, ())) else ((zw s tn).2.2.2.1.getD ((zw s tn).2.2.2.1.length - 1) zve, (true, ()))

theorem ztb (N : Nat) (hN : 40 < N) {s : z62} (h : Few s) (tn : List UInt8) : z3l N s tn = some (z115 s tn) := by
  have hl := h.1
  rw [z3l, zaf N (by omega) (by omega), Option.bind_some, z8z, z8y, z115]
  rcases zj1 s tn with ⟨h1, _⟩ | ⟨j, h1, hj, h2, _⟩
  . rw [show z7l (fun t : z8j => t.1 == tn) s.1 0 = -1 from h1, h1]; rfl
  . have hk := zto h tn
    rw [show z7l (fun t : z8j => t.1 == tn) s.1 0 = (j : Int) from h1, h1, z1d (zcc (by omega)), if_neg (by omega)]
    simp only [z5y hj, cond_true, Int.toNat_natCast]
    rw [show (([] : List UInt8), ((0 : Int), ((0 : Int), (([] : List (Int × (List UInt8 × Unit))), ())))) = zah from rfl, <- h2]
    generalize zw s tn = t at hk
    by_cases h0 : t.2.2.2.1.length = 0
    . rw [if_pos h0, z1f (beq_iff_eq.2 (by omega))]; rfl
    . rw [if_neg h0, z1d (beq_eq_false_iff_ne.2 (by omega)), z6v (x := ((t.2.2.2.1.length : Nat) : Int) - 1) (by unfold I64; omega), show ((t.2.2.2.1.length : Nat) : Int) - 1 = ((t.2.2.2.1.length - 1 : Nat) : Int) by omega]
      have hin : inR ((t.2.2.2.1.length - 1 : Nat) : Int) t.2.2.2.1.length = true := z5y (by omega)
      rw [hin, cond_true]
      rfl

def evT (tn : List UInt8) (ep nx : Int) : EvD := ((1 : Int), (tn, (nx, (ep, (([] : List UInt8), ())))))
def evK (tn : List UInt8) (nu : Int) (tx : List UInt8) : EvD := ((2 : Int), (tn, (nu, ((0 : Int), (tx, ())))))
def evD (tn : List UInt8) (nu : Int) : EvD := ((3 : Int), (tn, (nu, ((0 : Int), (([] : List UInt8), ())))))
def evS (nu : Int) : EvD := ((4 : Int), (([] : List UInt8), (nu, ((0 : Int), (([] : List UInt8), ())))))

def bad (e : Int) : List EvD × (Int × Unit) := ([], (e, ()))
def z12e (l : List EvD) : List EvD × (Int × Unit) := (l, ((0 : Int), ()))

def zrm (op : Int) (s : z62) (tn key : List UInt8) (num : Int) : List EvD × (Int × Unit) :=
 if z29 s = false then bad 7
 else if op = 1 then
 if z52 tn = false then bad 4 else if key.length ≠ 32 then bad 7 else if 0 <= atL s tn then bad 5 else if s.1.length = 16 then bad 3 else z12e [evT tn 0 2, evK tn 1 key]
 else if atL s tn < 0 then bad 6
 else if op = 2 then
 if key.length ≠ 32 then bad 7 else if (zw s tn).2.2.2.1.length = 8 \/ (zw s tn).2.2.1 = 1099511627776 then bad 3 else z12e [evT tn (zw s tn).2.1 ((zw s tn).2.2.1 + 1), evK tn (zw s tn).2.2.1 key]
 else if op = 3 then
 if kAt s tn num < 0 then bad 6 else if ((zw s tn).2.2.2.1.getD ((zw s tn).2.2.2.1.length - 1) zve).1 = num then bad 7 else z12e [evD tn num]
 else if op = 4 then
 if (zw s tn).2.1 = 1099511627776 then bad 3 else z12e [evT tn ((zw s tn).2.1 + 1) (zw s tn).2.2.1]
 else if (zw s tn).2.2.2.1.length = 0 then bad 6 else if s.2.1 = 1099511627776 then bad 3 else z12e [evS (s.2.1 + 1)]

theorem z7n (N : Nat) (hN : 40 < N) (s : z62) (l : List EvD) (e : Int) : z18 N s l e = some (if z29 s = false then bad 7 else if e ≠ 0 then bad e else z12e l) := by
  rw [z18, zkq N hN, Option.bind_some]
  cases z29 s with
  | false => rfl
  | true =>
    rw [if_neg (show ¬ (true = false) by decide), Bool.not_true, cond_false]
    by_cases h : e = 0
    . subst h; rfl
    . rw [if_pos h, z1f (bne_iff_ne.2 h)]; rfl

theorem zg8 {s : z62} (hr : z29 s = true) {tn : List UInt8} (h : ¬ atL s tn < 0) : zso (zw s tn) = true /\ (zw s tn).1 = tn /\ zw s tn ∈ s.1 := by
  rcases zj1 s tn with ⟨h1, _⟩ | ⟨j, h1, hj, h2, h3⟩
  . omega
  . have hm := zhg s.1 zah j hj
    rw [<- h2] at hm
    exact ⟨z6e (z2m.1 hr).2.2 _ hm, h3, hm⟩

theorem z10x (x : Int) : Go.RowKit.wrap64 x = IntKind.wrap .i64 x := by
  unfold Go.RowKit.wrap64
  rw [wrap64]

theorem z12h (N : Nat) (hN : 40 < N) {s : z62} (h : Few s) (tn key : List UInt8) (num : Int) (op : Int) (ho : 1 <= op /\ op <= 5) : z3b N op s tn key num = some (zrm op s tn key num) := by
  have hfin : ∀ (o : Option (List EvD × (Int × Unit))) (y : List EvD × (Int × Unit)), o = some y -> (o.bind fun y => some (y.1, (y.2.1, ()))) = some y := fun o y e => by rw [e]; rfl
  unfold z3b zrm
  by_cases o1 : op = 1
  . subst o1
    rw [z1f (by decide), if_pos rfl]
    refine hfin _ _ ?_
    unfold z89
    rw [zn0 N hN h, Option.bind_some, zsr N hN, Option.bind_some, z7n N hN]
    cases hr : z29 s with
    | false => rfl
    | true =>
      obtain ⟨r1, _, _⟩ := z2m.1 hr
      rw [if_neg (show ¬ (true = false) by decide), if_neg (show ¬ (true = false) by decide)]
      cases hw : z52 tn with
      | false => rfl
      | true =>
        rw [if_neg (show ¬ (true = false) by decide), if_neg (show ¬ (true = false) by decide)]
        by_cases hk : key.length ≠ 32
        . rw [if_pos hk, if_pos hk]; rfl
        . rw [if_neg hk, if_neg hk, zyv]
          by_cases ha : atL s tn < 0
          . rw [if_pos ha, if_neg (show ¬ (0 : Int) <= atL s tn by omega), if_neg (show ¬ (false = true) by decide)]
            by_cases h16 : s.1.length = 16
            . rw [if_pos h16, if_pos (show 16 <= s.1.length by omega)]; rfl
            . rw [if_neg h16, if_neg (show ¬ 16 <= s.1.length by omega)]; rfl
          . rw [if_neg ha, if_pos (show (0 : Int) <= atL s tn by omega)]; rfl
  rw [z1d (beq_eq_false_iff_ne.2 o1), if_neg o1]
  by_cases o2 : op = 2
  . subst o2
    rw [z1f (by decide), if_pos rfl]
    refine hfin _ _ ?_
    unfold zb7
    rw [zn0 N hN h, Option.bind_some, z7n N hN]
    cases hr : z29 s with
    | false => rfl
    | true =>
      rw [if_neg (show ¬ (true = false) by decide), if_neg (show ¬ (true = false) by decide), zyv]
      by_cases ha : atL s tn < 0
      . rw [if_pos ha, if_pos ha]; rfl
      . obtain ⟨t1, t2, t3⟩ := zg8 hr ha
        have tp := z39 t1
        have t4 := zdj.1 tp.2.2.1
        rw [if_neg ha, if_neg ha, if_neg (show ¬ (true = false) by decide)]
        by_cases hk : key.length ≠ 32
        . rw [if_pos hk, if_pos hk]; rfl
        . rw [if_neg hk, if_neg hk, z6v (x := (zw s tn).2.2.1 + 1) (by unfold I64; omega)]
          by_cases h8 : (zw s tn).2.2.2.1.length = 8
          . rw [if_pos (show 8 <= (zw s tn).2.2.2.1.length by omega), if_pos (show (zw s tn).2.2.2.1.length = 8 \/ (zw s tn).2.2.1 = 1099511627776 from .inl h8)]; rfl
          . rw [if_neg (show ¬ 8 <= (zw s tn).2.2.2.1.length by omega)]
            by_cases hx : (zw s tn).2.2.1 = 1099511627776
            . rw [if_pos (show (1099511627776 : Int) <= (zw s tn).2.2.1 by omega), if_pos (show (zw s tn).2.2.2.1.length = 8 \/ (zw s tn).2.2.1 = 1099511627776 from .inr hx)]; rfl
            . rw [if_neg (show ¬ (1099511627776 : Int) <= (zw s tn).2.2.1 by omega), if_neg (show ¬ ((zw s tn).2.2.2.1.length = 8 \/ (zw s tn).2.2.1 = 1099511627776) by omega)]; rfl
  rw [z1d (beq_eq_false_iff_ne.2 o2), if_neg o2]
  by_cases o3 : op = 3
  . subst o3
    rw [z1f (by decide), if_pos rfl]
    refine hfin _ _ ?_
    unfold zb9
    rw [zyg N hN h, Option.bind_some, ztb N hN h, Option.bind_some, z7n N hN, z7n N hN]
    cases hr : z29 s with
    | false => split <;> rfl
    | true =>
      rw [if_neg (show ¬ (true = false) by decide), if_neg (show ¬ (true = false) by decide), if_neg (show ¬ (true = false) by decide), z12t, z115]
      by_cases ha : atL s tn < 0
      . rw [if_pos ha, if_pos ha, if_pos ha]; rfl
      . rw [if_neg ha, if_neg ha, if_neg ha]
        rcases zv7 s tn num with ⟨g1, _⟩ | ⟨i, g1, hi, _⟩
        . rw [g1]; rfl
        . rw [g1, if_neg (show ¬ (i : Int) < 0 by omega), if_neg (show ¬ (i : Int) < 0 by omega), if_neg (show ¬ (true = false) by decide), if_neg (show ¬ (zw s tn).2.2.2.1.length = 0 by omega)]
          by_cases hk : ((zw s tn).2.2.2.1.getD ((zw s tn).2.2.2.1.length - 1) zve).1 = num
          . rw [if_pos hk, if_pos hk]; rfl
          . rw [if_neg hk, if_neg hk]; rfl
  rw [z1d (beq_eq_false_iff_ne.2 o3), if_neg o3]
  by_cases o4 : op = 4
  . subst o4
    rw [z1f (by decide), if_pos rfl]
    refine hfin _ _ ?_
    unfold zb8
    rw [zn0 N hN h, Option.bind_some, z7n N hN, z10x]
    cases hr : z29 s with
    | false => rfl
    | true =>
      rw [if_neg (show ¬ (true = false) by decide), if_neg (show ¬ (true = false) by decide), zyv]
      by_cases ha : atL s tn < 0
      . rw [if_pos ha, if_pos ha]; rfl
      . obtain ⟨t1, t2, t3⟩ := zg8 hr ha
        have tp := z39 t1
        have t4 := zdj.1 tp.2.1
        rw [if_neg ha, if_neg ha, if_neg (show ¬ (true = false) by decide), z6v (x := (zw s tn).2.1 + 1) (by unfold I64; omega)]
        by_cases hx : (zw s tn).2.1 = 1099511627776
        . rw [if_pos (show (1099511627776 : Int) <= (zw s tn).2.1 by omega), if_pos hx]; rfl
        . rw [if_neg (show ¬ (1099511627776 : Int) <= (zw s tn).2.1 by omega), if_neg hx]; rfl
  rw [z1d (beq_eq_false_iff_ne.2 o4), if_neg o4]
  refine hfin _ _ ?_
  unfold zda
  rw [ztb N hN h, Option.bind_some, z7n N hN, z10x]
  cases hr : z29 s with
  | false => rfl
  | true =>
    have t4 := zdj.1 (z2m.1 hr).2.1
    rw [if_neg (show ¬ (true = false) by decide), if_neg (show ¬ (true = false) by decide), z115, z6v (x := s.2.1 + 1) (by unfold I64; omega)]
    by_cases ha : atL s tn < 0
    . rw [if_pos ha, if_pos ha]; rfl
    . rw [if_neg ha, if_neg ha]
      by_cases h0 : (zw s tn).2.2.2.1.length = 0
      . rw [if_pos h0, if_pos h0]; rfl
      . rw [if_neg h0, if_neg h0, if_neg (show ¬ (true = false) by decide)]
        by_cases hx : s.2.1 = 1099511627776
        . rw [if_pos (show (1099511627776 : Int) <= s.2.1 by omega), if_pos hx]; rfl
        . rw [if_neg (show ¬ (1099511627776 : Int) <= s.2.1 by omega), if_neg hx]; rfl

theorem z12m (s : z62) (tn : List UInt8) (nu : Int) (tx : List UInt8) : z1u s (evK tn nu tx) = if atL s tn < 0 then (6, s) else ((z2f (zw s tn) 2 nu tx).1, zpm s (atL s tn).toNat ((zw s tn).1, ((zw s tn).2.1, ((zw s tn).2.2.1, ((z2f (zw s tn) 2 nu tx).2, ()))))) := by
  have h4 : ¬ (evK tn nu tx).1 = 4 := (by decide : ¬ (2 : Int) = 4)
  have h1 : ¬ (evK tn nu tx).1 = 1 := (by decide : ¬ (2 : Int) = 1)
  unfold z1u
  rw [if_neg h4, if_neg h1]
  rfl

theorem z12n (s : z62) (tn : List UInt8) (nu : Int) : z1u s (evD tn nu) = if atL s tn < 0 then (6, s) else ((z2f (zw s tn) 3 nu []).1, zpm s (atL s tn).toNat ((zw s tn).1, ((zw s tn).2.1, ((zw s tn).2.2.1, ((z2f (zw s tn) 3 nu []).2, ()))))) := by
  have h4 : ¬ (evD tn nu).1 = 4 := (by decide : ¬ (3 : Int) = 4)
  have h1 : ¬ (evD tn nu).1 = 1 := (by decide : ¬ (3 : Int) = 1)
  unfold z1u
  rw [if_neg h4, if_neg h1]
  rfl

theorem zty (s : z62) (tn : List UInt8) (ep nx : Int) : z1u s (evT tn ep nx) = if 0 <= atL s tn then (if ep < (zw s tn).2.1 \/ nx < (zw s tn).2.2.1 then (7, s) else (0, zpm s (atL s tn).toNat ((zw s tn).1, (ep, (nx, ((zw s tn).2.2.2.1, ()))))))
    else if s.1.length = 16 then (3, s) else (0, (s.1.take (z64 s.1 tn) ++ [(tn, (ep, (nx, ([], ()))))] ++ s.1.drop (z64 s.1 tn), s.2)) := by
  have h4 : ¬ (evT tn ep nx).1 = 4 := (by decide : ¬ (1 : Int) = 4)
  have h1 : (evT tn ep nx).1 = 1 := rfl
  unfold z1u
  rw [if_neg h4, if_pos h1]
  rfl

theorem z12l (s : z62) (nu : Int) : z1u s (evS nu) = if nu < s.2.1 then (7, s) else (0, (s.1, (nu, ()))) := by
  have h4 : (evS nu).1 = 4 := rfl
  unfold z1u
  rw [if_pos h4]
  rfl

theorem zyp {tn : List UInt8} {ep nx : Int} (hw : z52 tn = true) (h1 : z9i ep 0 = true) (h2 : z9i nx 1 = true) : zbq (evT tn ep nx) = true := by
  unfold zbq
  rw [if_pos (show (evT tn ep nx).1 = 1 from rfl)]
  show (z52 tn && (z9i nx 1 && (z9i ep 0 && true))) = true
  rw [hw, h1, h2]; rfl

theorem z13d {tn tx : List UInt8} {nu : Int} (hw : z52 tn = true) (h1 : z9i nu 1 = true) (h2 : tx.length = 32) : zbq (evK tn nu tx) = true := by
  unfold zbq
  rw [if_neg (show ¬ (evK tn nu tx).1 = 1 from (by decide : ¬ (2 : Int) = 1)), if_pos (show (evK tn nu tx).1 = 2 from rfl)]
  show (z52 tn && (z9i nu 1 && (true && decide (tx.length = 32)))) = true
  rw [hw, h1, decide_eq_true h2]; rfl

theorem z13e {tn : List UInt8} {nu : Int} (hw : z52 tn = true) (h1 : z9i nu 1 = true) : zbq (evD tn nu) = true := by
  unfold zbq
  rw [if_neg (show ¬ (evD tn nu).1 = 1 from (by decide : ¬ (3 : Int) = 1)), if_neg (show ¬ (evD tn nu).1 = 2 from (by decide : ¬ (3 : Int) = 2)), if_pos (show (evD tn nu).1 = 3 from rfl)]
  show (z52 tn && (z9i nu 1 && (true && true))) = true
  rw [hw, h1]; rfl

theorem z13c {nu : Int} (h1 : z9i nu 0 = true) : zbq (evS nu) = true := by
  unfold zbq
  rw [if_neg (show ¬ (evS nu).1 = 1 from (by decide : ¬ (4 : Int) = 1)), if_neg (show ¬ (evS nu).1 = 2 from (by decide : ¬ (4 : Int) = 2)), if_neg (show ¬ (evS nu).1 = 3 from (by decide : ¬ (4 : Int) = 3)), if_pos (show (evS nu).1 = 4 from rfl)]
  show (z9i nu 0 && (true && (true && true))) = true
  rw [h1]; rfl

theorem z7o {s s1 : z62} {e : EvD} (hr : z29 s = true) (hf : zbq e = true) (hc : z1u s e = (0, s1)) : z50 s e = (s1, (0, ())) := by
  unfold z50
  rw [hr, hf, if_neg (by decide), if_neg (by decide), hc, if_pos rfl]

end
end Go.Proofs.YtlohplpnhopldaaLg

set_option linter.all false
set_option maxRecDepth 100000
namespace Go.Proofs.YtlohplpnhopldaaLg
noncomputable section
open Go Go.Lift Go.Proofs.YtlohplpnhopldaaPx

theorem zkx {s s1 : z62} {e : EvD} (h : z50 s e = (s1, (0, ()))) : zzm s [e] = (s1, (0, ())) := by
  rw [zzm, h, if_pos rfl, zzm]

theorem zva {α : Type} (p : α -> Bool) : ∀ (l : List α) (i : Nat), (∀ y ∈ l, p y = false) -> z7l p l i = -1
  | [], _, _ => rfl
  | y :: l, i, h => by rw [z7l, h y List.mem_cons_self, if_neg (by decide), zva p l (i + 1) (fun z hz => h z (List.mem_cons_of_mem _ hz))]

theorem zqy {α : Type} (p : α -> Bool) : ∀ (l : List α), (∀ y ∈ l, p y = true) -> (l.takeWhile p).length = l.length
  | [], _ => rfl
  | y :: l, h => by rw [List.takeWhile_cons, h y List.mem_cons_self, if_pos rfl, List.length_cons, List.length_cons, zqy p l (fun z hz => h z (List.mem_cons_of_mem _ hz))]

end
end Go.Proofs.YtlohplpnhopldaaLg

set_option linter.all false
set_option maxRecDepth 100000
namespace Go.Proofs.YtlohplpnhopldaaLg
noncomputable section
open Go Go.Lift Go.Proofs.YtlohplpnhopldaaPx

def z13i (t : z8j) : Bool := decide (12 < t.2.2.2.1.length) || decide (100 < t.1.length)

theorem z10e (N : Nat) (hN : 40 < N) (s : z62) : z2n N s = some (decide (20 < s.1.length) || s.1.any z13i) := by
  rw [z2n]
  by_cases h : 20 < s.1.length
  . rw [z1f (zek (by omega)), decide_eq_true h]; rfl
  rw [z1d (zcc (by omega)), decide_eq_false h, Bool.false_or, z75]
  refine (zbl (fun v => ∃ (i : Nat), v = (i : Int) /\ i <= s.1.length) (fun v => s.1.length - v.toNat) (fun v => some ((s.1.drop v.toNat).any z13i)) ?_ N 0 ⟨0, rfl, Nat.zero_le _⟩ (by simp; omega)).trans (by simp)
  rintro v r ⟨i, rfl, hi⟩ hr
  rw [z42]
  simp only [Int.toNat_natCast]
  rcases Nat.lt_or_ge i s.1.length with hlt | hge
  . rw [z1f (zek (by omega)), z44, z43, show (([] : List UInt8), ((0 : Int), ((0 : Int), (([] : List (Int × (List UInt8 × Unit))), ())))) = zah from rfl]
    simp only [z5y hlt, cond_true, z9j (show i < 9223372036854775807 by omega), Int.toNat_natCast]
    rw [show r ((i + 1 : Nat) : Int) = some ((s.1.drop (i + 1)).any z13i) from (hr _ ⟨i + 1, rfl, by omega⟩ (by simp; omega)).trans rfl, zdm s.1 zah i hlt, List.any_cons, z13i]
    by_cases c1 : 12 < (s.1.getD i zah).2.2.2.1.length
    . rw [z1f (zek (by omega)), decide_eq_true c1]; rfl
    . rw [z1d (zcc (by omega)), decide_eq_false c1]
      by_cases c2 : 100 < (s.1.getD i zah).1.length
      . rw [z1f (zek (by omega)), decide_eq_true c2]; rfl
      . rw [z1d (zcc (by omega)), decide_eq_false c2]; rfl
  . rw [z1d (zcc (by omega)), List.drop_of_length_le hge]
    rfl

end
end Go.Proofs.YtlohplpnhopldaaLg

set_option linter.all false
set_option maxRecDepth 100000
namespace Go.Proofs.YtlohplpnhopldaaLg
noncomputable section
open Go Go.Lift Go.Proofs.YtlohplpnhopldaaPx

theorem zdr (k : Nat) : z2o (k + 300) = some true := by kernel_rfl

theorem zs4 {s : z62} (h : z29 s = true) : Few s := by
  obtain ⟨h1, h2, h3⟩ := z2m.1 h
  refine ⟨by omega, fun t ht => ?_⟩
  have tp := z39 (z6e h3 t ht)
  have := zvl tp.1
  omega

theorem z100 (op : Int) (s : z62) (tn key : List UInt8) (num : Int) : (zrm op s tn key num).1.length <= 2 := by
  unfold zrm bad z12e
  repeat' split
  all_goals simp

end
end Go.Proofs.YtlohplpnhopldaaLg
