import Derived.Test.YtlohplpnhopldaaLgPrPt5
import Derived.Laws.ResultCell
import Derived.WalkKit
import Derived.Tactics
import Derived.Tactics2
import Derived.Defers
import Derived.Lib.Hide
import Derived.Below
import Derived.WalkSmall
import Derived.LoopN
import Derived.Deep.RegionHeld3
import Derived.Deep.Cut
import Derived.KernelRfl
import Derived.Laws.Rows
import Derived.Test.YtlohplpnhopldaaLgPrPt2
import Derived.Test.YtlohplpnhopldaaChecked
import Derived.Test.YtlohplpnhopldaaLgPrPt1
import Derived.Test.YtlohplpnhopldaaLgPrPt3
set_option linter.all false
set_option maxRecDepth 100000
namespace Go.Proofs.YtlohplpnhopldaaLg
noncomputable section
open Go Go.Lift Go.Proofs

abbrev EvT : T := .pair (.int .i64) (.pair .str (.pair (.int .i64) (.pair (.int .i64) (.pair .str .unit))))

theorem z140 {S : Hp} {e : EvT.den} {v : Value} (h : VR S EvT e v) : v = evV e.1 e.2.1 e.2.2.1 e.2.2.2.1 e.2.2.2.2.1 := by
  obtain ⟨cs, rfl, d1, d2, q1, k1, d3, d4, q2, k2, d5, d6, q3, k3, d7, d8, q4, k4, d9, d10, q5, k5, k6⟩ := h
  have i1 : d1 = [.int .i64 e.1] := k1
  have i2 : d3 = [.string ⟨⟨e.2.1⟩⟩] := k2
  have i3 : d5 = [.int .i64 e.2.2.1] := k3
  have i4 : d7 = [.int .i64 e.2.2.2.1] := k4
  have i5 : d9 = [.string ⟨⟨e.2.2.2.2.1⟩⟩] := k5
  have i6 : d10 = [] := k6
  unfold evV
  congr 1
  apply Array.toList_inj.1
  rw [q1, q2, q3, q4, q5, i1, i2, i3, i4, i5, i6]
  rfl

theorem z10q (N : Nat) {W : World} {S : Hp} (hS : Lift.Sub S (hp W)) {s : StT.den} {v : Value} {y : Bool} (hv : VR S StT s v) (hy : z4q N s = some y) :
    Calls Go.Proofs.Try.prog 13 #[v] W fun r w' => r = .returned (.bool y) /\ W.grownBy w' none := by
  refine ((z9j N).2 W S _ _ _ (z2k [(.v StT s, v)] (fun p hp => by rw [List.mem_singleton.1 hp]; exact ⟨⟨hv, rfl⟩, rfl⟩)) hS (z7o S) _ hy).mono ?_
  intro e w' he
  obtain ⟨v, o, S', rfl, hr, hc⟩ := zmb he
  exact ⟨by rw [VR.bool_inv hr.1], hc⟩

theorem z13s (N : Nat) {W : World} {S : Hp} (hS : Lift.Sub S (hp W)) {e : EvT.den} {v : Value} {y : Bool} (hv : VR S EvT e v) (hy : zld N e = some y) :
    Calls Go.Proofs.Try.prog 49 #[v] W fun r w' => r = .returned (.bool y) /\ W.grownBy w' none := by
  refine ((zwa N).2 W S _ _ _ (z2k [(.v EvT e, v)] (fun p hp => by rw [List.mem_singleton.1 hp]; exact ⟨⟨hv, rfl⟩, rfl⟩)) hS (z7o S) _ hy).mono ?_
  intro e w' he
  obtain ⟨v, o, S', rfl, hr, hc⟩ := zmb he
  exact ⟨by rw [VR.bool_inv hr.1], hc⟩

def zmr (N : Nat) (s : StT.den) (e : EvT.den) : Option (StT.den × (Int × Unit)) :=
 (z4q N s).bind fun r =>
 if r = false then some (([], (0, ())), (7, ()))
 else (zld N e).bind fun f =>
 if f = false then some (([], (0, ())), (2, ()))
 else if s.1.length <= 16 /\ (s.1.all fun t => decide (t.2.2.2.1.length < 256)) = true then
 (zyw N s e.1 e.2.1 e.2.2.1 e.2.2.2.1 e.2.2.2.2.1).bind fun y => if y.1 = 0 then some (y.2, (0, ())) else some (([], (0, ())), (y.1, ()))
 else none

def zj1 (N : Nat) : List A -> Res := z1x [(0, .v StT), (0, .v EvT)] (fun x => zmr N x.1 x.2.1) (z4j (.tup [StT, (.int .i64)]) 2)

theorem z12w {w w' : World} {S : Hp} {vals : List Value} {ob : Nat -> List Nat} {z : z29 [(0, .v StT), (0, .v EvT)]} {x : StT.den} {e : Int} {v : Value} (hS : Lift.Sub S (hp w)) (hob : ∀ i, ob i = []) (hwf : WF w (fun j => w.heap.size <= j) w')
    (hv : VR (fun k => if w.heap.size <= k then hp w' k else S k) StT x v) :
    Lift.Ends w S (mkS [(0, .v StT), (0, .v EvT)] 0 z) vals ob (z4j (.tup [StT, (.int .i64)]) 2 (x, (e, ()))).1 (z4j (.tup [StT, (.int .i64)]) 2 (x, (e, ()))).2 (.returned (.tuple #[v, .int .i64 e])) w' := by
  have hsome : ∀ k o, S k = some o -> k < w.heap.size := fun k o hk => (Array.getElem?_eq_some_iff.1 (show w.heap[k]? = some o from hS k o hk)).1
  have hSw : Lift.Sub S (hp w') := fun k o hk => by
    have h := hwf.same k (hsome k o hk) (by have := hsome k o hk; omega)
    simp only [hp]
    rw [h]
    exact hS k o hk
  refine ⟨_, fun k => if w.heap.size <= k then hp w' k else S k, [], ob, rfl, ⟨hwf.size, fun k hk _ => hwf.same k hk (by omega), hwf.tape, hwf.os, hwf.output⟩, fun k o hk => ?_, fun k o hk => ?_, fun k hk => ?_, ⟨⟨rfl, _, rfl, .cons hv (.cons VR.int .nil)⟩, rfl⟩, (fun k hk => by cases hk), .nil, ?_, ?_, ?_, ?_, fun i hi => hi⟩
  . dsimp only
    rw [if_neg (by have := hsome k o hk; omega)]
    exact hk
  . dsimp only at hk
    split at hk
    . exact hk
    . exact hSw k o hk
  . dsimp only at hk
    split at hk
    . exact .inr (.inr (by assumption))
    . exact .inl hk
  . intro i z hz hbx
    match i with
    | 0 => simp [mkS, z7p, AS.mk] at hz; subst hz; cases hbx
    | 1 => simp [mkS, z7p, AS.mk] at hz; subst hz; cases hbx
    | i + 2 => simp [mkS, z7p] at hz
  . intro i k hk
    rw [hob i] at hk; cases hk
  . intro i j k hi
    rw [hob i] at hi; cases hi
  . intro i
    rw [hob i]; exact .nil

theorem zxk (S : Hp) : VR S StT ([], (0, ())) (.agg #[.slice none 0 0, .int .i64 0]) := zpx (VR.of_one rfl ⟨none, 0, rfl, Nat.le_refl _, .inl rfl⟩)

theorem znw {w W : World} {B : Nat -> Prop} {q : Nat} (h : WF w B W) (hq : B q) (i : Nat) (v : Value) : WF w B (W.setCell ⟨q, i, none⟩ v) := by
  have g := z2c (w := W) (g := q) (i := i) v
  exact ⟨Nat.le_trans h.size g.size, fun k hk hn => (g.block k (Nat.lt_of_lt_of_le hk h.size) (fun e => hn (by cases e; exact hq))).trans (h.same k hk hn), g.tape.trans h.tape, g.os.trans h.os, g.output.trans h.output⟩

theorem zmf {W : World} {qr : Nat} {v : Value} {ser c : Int} {tmps : Array Value} (h4 : tmps.getD 4 undef = .pointer (some ⟨qr, 0, none⟩)) (h5 : tmps.getD 5 undef = .int .i64 c) (h : RowAt W qr [v, .int .i64 ser] 24) :
    (results Go.Proofs.Try.f33 tmps).run Go.Proofs.Try.prog W = .ok (.tuple #[.agg #[v, .int .i64 ser], .int .i64 c]) W := by
  have c0 := h.cell (i := 0) rfl
  have c1 := h.cell (i := 1) rfl
  rw [results_cell_tmp rfl, h4, h5]
  simp [asAddr, Go.loadVar, go_sem, c0, c1]

set_option maxHeartbeats 30000000 in
theorem zux (N : Nat) : Contract Go.Proofs.Try.prog zh 33 (zj1 N) := by
  refine Contract.hand ⟨_, Go.Proofs.Try.func33, by kernel_rfl, by decide⟩ ?_
  intro w S vals ob x y har hS hg hy
  obtain ⟨s, e, u⟩ := x
  cases u
  dsimp only at hy
  obtain ⟨⟨v0, hv0, hA0, ho0⟩, _⟩ := har.rel 0 _ rfl
  obtain ⟨⟨v1, hv1, hA1, ho1⟩, _⟩ := har.rel 1 _ rfl
  have hvals : vals = [v0, v1] := by
    match vals, har.len, hv0, hv1 with
    | [a, b], _, h1, h2 => simp at h1 h2; rw [h1, h2]
  subst hvals
  have hob : ∀ i, ob i = [] := by
    intro i
    match i with
    | 0 => exact ho0
    | 1 => exact ho1
    | i + 2 => exact har.out _ (by simp [mkS, z7p])
  suffices HX : ∀ R : Ending -> World -> Prop, Go.RowKit.Hid (∀ (st : StT.den) (c : Int) (v : Value) (w' : World), y = (st, (c, ())) -> WF w (fun j => w.heap.size <= j) w' -> VR (fun k => if w.heap.size <= k then hp w' k else S k) StT st v -> R (.returned (.tuple #[v, .int .i64 c])) w') -> Calls Go.Proofs.Try.prog 33 #[v0, v1] w R from
    HX _ (Go.Lib.hid (fun st c v w' h1 h2 h3 => by rw [h1]; exact z12w hS hob h2 h3))
  intro R HR
  unfold zmr at hy
  obtain ⟨r, hr, hy⟩ := Option.bind_eq_some_iff.1 hy
  have he := z140 hA1
  obtain ⟨ts, ser, u⟩ := s
  cases u
  obtain ⟨sv, rfl, hsv⟩ := zjl hA0
  have hev := hA1
  subst he
  unfold evV at hev ⊢
  have hcr := fun W (h : Lift.Sub S (hp W)) => z10q N (W := W) h hA0 hr
  have HC := Go.Lib.hid hcr
  clear har hv0 hv1 hcr
  go_enter Go.Proofs.Try.func33, Go.Proofs.Try.ntmps33
  go_upto_region 1 with (fail)
  have ha0 : RowAt (((w.alloc (Obj.cells #[sv, .int .i64 ser] 24)).alloc (Obj.cells #[.int .i64 e.1, .string ⟨⟨e.2.1⟩⟩, .int .i64 e.2.2.1, .int .i64 e.2.2.2.1, .string ⟨⟨e.2.2.2.2.1⟩⟩] 51)).alloc (Obj.cells #[.slice none 0 0, .int .i64 0] 24)) w.heap.size [sv, .int .i64 ser] 24 := ((RowAt.new w [sv, .int .i64 ser] 24).alloc _).alloc _
  have ha1 : RowAt (((w.alloc (Obj.cells #[sv, .int .i64 ser] 24)).alloc (Obj.cells #[.int .i64 e.1, .string ⟨⟨e.2.1⟩⟩, .int .i64 e.2.2.1, .int .i64 e.2.2.2.1, .string ⟨⟨e.2.2.2.2.1⟩⟩] 51)).alloc (Obj.cells #[.slice none 0 0, .int .i64 0] 24)) (w.heap.size + 1) [.int .i64 e.1, .string ⟨⟨e.2.1⟩⟩, .int .i64 e.2.2.1, .int .i64 e.2.2.2.1, .string ⟨⟨e.2.2.2.2.1⟩⟩] 51 := by
    have h := (RowAt.new (w.alloc (Obj.cells #[sv, .int .i64 ser] 24)) [.int .i64 e.1, .string ⟨⟨e.2.1⟩⟩, .int .i64 e.2.2.1, .int .i64 e.2.2.2.1, .string ⟨⟨e.2.2.2.2.1⟩⟩] 51).alloc (Obj.cells #[.slice none 0 0, .int .i64 0] 24)
    simpa using h
  have ha2 : RowAt (((w.alloc (Obj.cells #[sv, .int .i64 ser] 24)).alloc (Obj.cells #[.int .i64 e.1, .string ⟨⟨e.2.1⟩⟩, .int .i64 e.2.2.1, .int .i64 e.2.2.2.1, .string ⟨⟨e.2.2.2.2.1⟩⟩] 51)).alloc (Obj.cells #[.slice none 0 0, .int .i64 0] 24)) (w.heap.size + 1 + 1) [.slice none 0 0, .int .i64 0] 24 := by
    have h := RowAt.new ((w.alloc (Obj.cells #[sv, .int .i64 ser] 24)).alloc (Obj.cells #[.int .i64 e.1, .string ⟨⟨e.2.1⟩⟩, .int .i64 e.2.2.1, .int .i64 e.2.2.2.1, .string ⟨⟨e.2.2.2.2.1⟩⟩] 51)) [.slice none 0 0, .int .i64 0] 24
    simpa using h
  have hag : w.grownBy (((w.alloc (Obj.cells #[sv, .int .i64 ser] 24)).alloc (Obj.cells #[.int .i64 e.1, .string ⟨⟨e.2.1⟩⟩, .int .i64 e.2.2.1, .int .i64 e.2.2.2.1, .string ⟨⟨e.2.2.2.2.1⟩⟩] 51)).alloc (Obj.cells #[.slice none 0 0, .int .i64 0] 24)) none := ((World.grownBy_alloc w _ none).trans38 (World.grownBy_alloc _ _ none)).trans38 (World.grownBy_alloc _ _ none)
  obtain ⟨A3, hA3⟩ : ∃ A3, A3 = (((w.alloc (Obj.cells #[sv, .int .i64 ser] 24)).alloc (Obj.cells #[.int .i64 e.1, .string ⟨⟨e.2.1⟩⟩, .int .i64 e.2.2.1, .int .i64 e.2.2.2.1, .string ⟨⟨e.2.2.2.2.1⟩⟩] 51)).alloc (Obj.cells #[.slice none 0 0, .int .i64 0] 24)) := ⟨_, rfl⟩
  rw [<- hA3] at ha0 ha1 ha2 hag ⊢
  clear hA3
  obtain ⟨es, hes⟩ : ∃ es, es = w.heap.size + 1 := ⟨_, rfl⟩
  rw [<- hes] at ha1 ha2 ⊢
  obtain ⟨qr, hqr⟩ : ∃ qr, qr = es + 1 := ⟨_, rfl⟩
  rw [<- hqr] at ha2 ⊢
  obtain ⟨s0, hs0⟩ : ∃ s0, s0 = w.heap.size := ⟨_, rfl⟩
  rw [<- hs0] at ha0 ⊢
  have HSZ := Go.Lib.hid (And.intro hs0 (And.intro hes hqr))
  clear hs0 hes hqr
  have hcr := HC.out A3 (z5o hS hag)
  have k0 := ha0.cell (i := 0) rfl
  have k1 := ha0.cell (i := 1) rfl
  have HA0 := Go.Lib.hid ha0
  have HA1 := Go.Lib.hid ha1
  have HA2 := Go.Lib.hid ha2
  have HAG := Go.Lib.hid hag
  clear ha0 ha1 ha2 hag
  have hlr : w.heap.size <= qr := by have := HSZ.out; omega
  rcases r with _ | _
  . rw [if_pos rfl] at hy
    cases hy
    go_upto_region 2 with (go_at_call 13; refine hcr.mono ?_; rintro _ w1 ⟨rfl, g1⟩; have HG1 := Go.Lib.hid g1; clear g1 hcr)
    have hq1 := HA2.out.grown HG1.out (by simp)
    have r0 := hq1.cell (i := 0) rfl
    have r1 := hq1.cell (i := 1) rfl
    have f0 := hq1.free (i := 0)
    have f1 := hq1.free (i := 1)
    have hq2 := hq1.set 0 (.slice none 0 0)
    have r1' := hq2.cell (i := 1) rfl
    have f1' := hq2.free (i := 1)
    have hq3 := hq2.set 1 (.int .i64 0)
    have HQ3 := Go.Lib.hid hq3
    clear hq1 hq2 hq3
    go_wp2
    exact bodyPost_ret (zmf rfl rfl HQ3.out) rfl (HR.out _ _ _ _ rfl (znw (znw (z66 (HAG.out.trans38 HG1.out) (by simp)) hlr 0 _) hlr 1 _) (zxk _))
  rw [if_neg (by decide)] at hy
  obtain ⟨f, hf, hy⟩ := Option.bind_eq_some_iff.1 hy
  go_upto_region 3 with (go_at_call 13; refine hcr.mono ?_; rintro _ w1 ⟨rfl, g1⟩; have HG1 := Go.Lib.hid g1; clear g1 hcr)
  have hk1 := HA1.out.grown HG1.out (by simp)
  have m0 := hk1.cell (i := 0) rfl
  have m1 := hk1.cell (i := 1) rfl
  have m2 := hk1.cell (i := 2) rfl
  have m3 := hk1.cell (i := 3) rfl
  have m4 := hk1.cell (i := 4) rfl
  have hcf := z13s N (W := w1) (z5o hS (HAG.out.trans38 HG1.out)) hev hf
  unfold evV at hcf
  have HK1 := Go.Lib.hid hk1
  clear hk1 k0 k1
  rcases f with _ | _
  . rw [if_pos rfl] at hy
    cases hy
    go_upto_region 4 with (go_at_call 49; refine hcf.mono ?_; rintro _ w2 ⟨rfl, g2⟩; have HG2 := Go.Lib.hid g2; clear g2 hcf)
    have hq1 := (HA2.out.grown HG1.out (by simp)).grown HG2.out (by simp)
    have r0 := hq1.cell (i := 0) rfl
    have r1 := hq1.cell (i := 1) rfl
    have f0 := hq1.free (i := 0)
    have f1 := hq1.free (i := 1)
    have hq2 := hq1.set 0 (.slice none 0 0)
    have r1' := hq2.cell (i := 1) rfl
    have f1' := hq2.free (i := 1)
    have hq3 := hq2.set 1 (.int .i64 0)
    have HQ3 := Go.Lib.hid hq3
    clear hq1 hq2 hq3
    go_wp2
    exact bodyPost_ret (zmf rfl rfl HQ3.out) rfl (HR.out _ _ _ _ rfl (znw (znw (z66 ((HAG.out.trans38 HG1.out).trans38 HG2.out) (by simp)) hlr 0 _) hlr 1 _) (zxk _))
  rw [if_neg (by decide)] at hy
  by_cases hlim : ts.length <= 16 /\ (ts.all fun t => decide (t.2.2.2.1.length < 256)) = true
  case neg => rw [if_neg hlim] at hy; cases hy
  rw [if_pos hlim] at hy
  obtain ⟨z, hz, hy⟩ := Option.bind_eq_some_iff.1 hy
  have hk256 : ∀ t ∈ ts, t.2.2.2.1.length < 256 := fun t ht => by simpa using List.all_eq_true.1 hlim.2 t ht
  go_upto_region 5 with (go_at_call 49; refine hcf.mono ?_; rintro _ w2 ⟨rfl, g2⟩; have HG2 := Go.Lib.hid g2; clear g2 hcf)
  have hg2 : w.grownBy w2 none := (HAG.out.trans38 HG1.out).trans38 HG2.out
  have hcc := zu8 (w := w2) (ser := ser) (z5o hS hg2) hsv (by omega) (fun t ht => by have := hk256 t ht; omega)
  have k2 := (HA0.out.grown HG1.out (by simp)).grown HG2.out (by simp)
  have k0 := k2.cell (i := 0) rfl
  have k1 := k2.cell (i := 1) rfl
  have HG3 := Go.Lib.hid hg2
  clear k2 hg2 m0 m1 m2 m3 m4
  go_upto_region 6 with (go_at_call 32; refine hcc.mono ?_; rintro _ w3 ⟨b, l, rfl, hl1, hl2, hl3⟩; have HL := Go.Lib.hid (And.intro hl1 (And.intro hl2 hl3)); clear hl1 hl2 hl3 hcc)
  obtain ⟨hl1, hl2, hl3⟩ := HL.out
  have hw23 := hl2.size
  have hbw : b < w3.heap.size := hl3.row.lt
  have hin : ∀ i, (h : i < l.length) -> l[i].1.2.2.2.1.length < 256 := fun i h => hk256 _ (by rw [<- hl1]; exact List.mem_map_of_mem (List.getElem_mem h))
  have HSt : St38 w2.heap.size (w3.alloc (Obj.cells #[.slice (some ⟨b, 0, none⟩) ts.length ts.length, .int .i64 ser] 24)) w3.heap.size b ts.length ser l :=
    ⟨RowAt.new w3 [.slice (some ⟨b, 0, none⟩) ts.length ts.length, .int .i64 ser] 24, hl3.row.alloc _, by rw [<- hl1, List.length_map], by omega, hl3.low, hw23, hlim.1, hin, fun i hi => by
      obtain ⟨kb, e1, e2, e3, e4⟩ := hl3.keys i hi
      exact ⟨kb, e1, e2, e3, by have := e4.lt; omega, e4.alloc _⟩, hl3.apart⟩
  have hch := zyv N HSt (y := z) (by rw [hl1]; exact hz)
  unfold evV at hch
  have hg36 : w2.grownBy (w3.alloc (Obj.cells #[.slice (some ⟨b, 0, none⟩) ts.length ts.length, .int .i64 ser] 24)) none := hl2.trans38 (World.grownBy_alloc w3 _ none)
  have hk6 := (HK1.out.grown HG2.out (by simp)).grown hg36 (by simp)
  have hq6 := ((HA2.out.grown HG1.out (by simp)).grown HG2.out (by simp)).grown hg36 (by simp)
  have hqlt := ((HA2.out.grown HG1.out (by simp)).grown HG2.out (by simp)).lt
  obtain ⟨A6, hA6⟩ : ∃ A6, A6 = w3.alloc (Obj.cells #[.slice (some ⟨b, 0, none⟩) ts.length ts.length, .int .i64 ser] 24) := ⟨_, rfl⟩
  rw [<- hA6] at hch hg36 hk6 hq6 HSt ⊢
  clear hA6
  obtain ⟨qa, hqa⟩ : ∃ qa, qa = w3.heap.size := ⟨_, rfl⟩
  rw [<- hqa] at hch HSt ⊢
  clear hqa
  have m0 := hk6.cell (i := 0) rfl
  have m1 := hk6.cell (i := 1) rfl
  have m2 := hk6.cell (i := 2) rfl
  have m3 := hk6.cell (i := 3) rfl
  have m4 := hk6.cell (i := 4) rfl
  have HQ6 := Go.Lib.hid hq6
  have HG6 := Go.Lib.hid (HG3.out.trans38 hg36)
  clear hq6 hk6 hg36 HSt hl1 hl2 hl3 hin k0 k1
  have hwle : w.heap.size <= w2.heap.size := HG3.out.size
  go_upto_region 7 with (go_at_call 50; refine hch.mono ?_; rintro _ w4 ⟨rfl, g4, q4⟩; have H4 := Go.Lib.hid (And.intro g4 q4); clear g4 q4 hch)
  obtain ⟨g4, q4⟩ := H4.out
  have hw4 : WF w (fun j => w.heap.size <= j) w4 := ⟨Nat.le_trans HG6.out.size g4.size, fun j hj hn => (g4.same j (Nat.lt_of_lt_of_le hj HG6.out.size) (by omega)).trans (HG6.out.block j hj (by simp)), g4.tape.trans HG6.out.tape, g4.os.trans HG6.out.os, g4.output.trans HG6.out.output⟩
  have hq1 : RowAt w4 qr [.slice none 0 0, .int .i64 0] 24 := by
    have h := HQ6.out
    unfold RowAt at *
    rw [g4.same qr (Array.getElem?_eq_some_iff.1 h).1 (by omega)]
    exact h
  have HW4 := Go.Lib.hid hw4
  have HQ4 := Go.Lib.hid q4
  clear g4 q4 hw4
  by_cases gz : z.1 = 0
  . rw [if_pos gz] at hy
    cases hy
    obtain ⟨v, v1, v2⟩ := HQ4.out gz
    obtain ⟨va, vc, _, rfl, _⟩ := z9v (v2 (hp w4) (fun _ _ => rfl))
    have n0 := v1.cell (i := 0) rfl
    have n1 := v1.cell (i := 1) rfl
    have r0 := hq1.cell (i := 0) rfl
    have r1 := hq1.cell (i := 1) rfl
    have f0 := hq1.free (i := 0)
    have f1 := hq1.free (i := 1)
    have hq2 := hq1.set 0 (.slice va z.2.1.length vc)
    have r1' := hq2.cell (i := 1) rfl
    have f1' := hq2.free (i := 1)
    have hq3 := hq2.set 1 (.int .i64 z.2.2.1)
    have HQ3 := Go.Lib.hid hq3
    have HV := Go.Lib.hid v2
    rw [gz] at *
    clear hq1 hq2 hq3 v1 v2 m0 m1 m2 m3 m4
    go_wp2
    refine bodyPost_ret (zmf rfl rfl HQ3.out) rfl (HR.out _ _ _ _ rfl (znw (znw HW4.out hlr 0 _) hlr 1 _) (zpx (HV.out _ (fun j hj => ?_))))
    rw [if_pos (by omega)]
    have hne : qr ≠ j := by omega
    simp only [hp]
    rw [heap_setCell_other _ ⟨qr, 1, none⟩ j _ (Ne.symm hne), heap_setCell_other _ ⟨qr, 0, none⟩ j _ (Ne.symm hne)]
  . rw [if_neg gz] at hy
    cases hy
    have r0 := hq1.cell (i := 0) rfl
    have r1 := hq1.cell (i := 1) rfl
    have f0 := hq1.free (i := 0)
    have f1 := hq1.free (i := 1)
    have hq2 := hq1.set 0 (.slice none 0 0)
    have r1' := hq2.cell (i := 1) rfl
    have f1' := hq2.free (i := 1)
    have hq3 := hq2.set 1 (.int .i64 0)
    have HQ3 := Go.Lib.hid hq3
    clear hq1 hq2 hq3 m0 m1 m2 m3 m4
    go_wp2
    exact bodyPost_ret (zmf rfl rfl HQ3.out) rfl (HR.out _ _ _ _ rfl (znw (znw HW4.out hlr 0 _) hlr 1 _) (zxk _))

def zmp (N : Nat) (s : StT.den) : Option StT.den :=
 if s.1.length <= 1000 /\ (s.1.all fun t => decide (t.2.2.2.1.length <= 1000)) = true then some s else none

def ziw (N : Nat) : List A -> Res := z1x [(0, .v StT)] (fun x => zmp N x.1) (z4j (.v StT) 1)

theorem z13e {w w' : World} {b : Nat} {l : List (TenT.den × Value)} (h : Laid w w' b l) {S : Hp} (hS : ∀ j, w.heap.size <= j -> S j = w'.heap[j]?) : VR S (.sl TenT) (l.map (·.1)) (.slice (some ⟨b, 0, none⟩) l.length l.length) :=
  zhi (lo := w.heap.size) (w := w') (sp := []) (by rw [List.append_nil]; exact h.row) h.low (Nat.le_refl _) (fun p hp => by
    obtain ⟨i, hi, rfl⟩ := List.getElem_of_mem hp
    obtain ⟨kb, e1, e2, e3, e4⟩ := h.keys i hi
    exact .inr ⟨kb, _, [], e1, Nat.le_refl _, e2, by rw [List.append_nil]; exact e4⟩) hS

theorem zum (N : Nat) : Contract Go.Proofs.Try.prog zh 32 (ziw N) := by
  refine Contract.hand ⟨_, Go.Proofs.Try.func32, by kernel_rfl, by decide⟩ ?_
  intro w S vals ob x y har hS hg hy
  obtain ⟨s, u⟩ := x
  cases u
  dsimp only at hy
  obtain ⟨⟨v0, hv0, hA0, ho0⟩, _⟩ := har.rel 0 _ rfl
  have hvals : vals = [v0] := by
    match vals, har.len, hv0 with
    | [a], _, h1 => simp at h1; rw [h1]
  subst hvals
  have hob : ∀ i, ob i = [] := by
    intro i
    match i with
    | 0 => exact ho0
    | i + 1 => exact har.out _ (by simp [mkS, z7p])
  unfold zmp at hy
  by_cases hlim : s.1.length <= 1000 /\ (s.1.all fun t => decide (t.2.2.2.1.length <= 1000)) = true
  case neg => rw [if_neg hlim] at hy; cases hy
  rw [if_pos hlim] at hy
  obtain rfl : s = y := Option.some.inj hy
  obtain ⟨ts, ser, u⟩ := s
  cases u
  obtain ⟨sv, rfl, hsv⟩ := zjl hA0
  have hk : ∀ t ∈ ts, t.2.2.2.1.length <= 1000 := fun t ht => by simpa using List.all_eq_true.1 hlim.2 t ht
  refine (zu8 (ser := ser) hS hsv hlim.1 hk).mono ?_
  rintro _ w' ⟨b, l, rfl, hl1, hl2, hl3⟩
  have hsome : ∀ k o, S k = some o -> k < w.heap.size := fun k o hk => (Array.getElem?_eq_some_iff.1 (show w.heap[k]? = some o from hS k o hk)).1
  have hSw := z5o hS hl2
  have hv : VR (fun k => if w.heap.size <= k then hp w' k else S k) StT (ts, (ser, ())) (.agg #[.slice (some ⟨b, 0, none⟩) ts.length ts.length, .int .i64 ser]) := by
    refine zpx ?_
    have h := z13e hl3 (S := fun k => if w.heap.size <= k then hp w' k else S k) (fun j hj => if_pos hj)
    have e : l.length = ts.length := by rw [<- hl1, List.length_map]
    rw [hl1, e] at h
    exact h
  refine ⟨_, fun k => if w.heap.size <= k then hp w' k else S k, [], ob, rfl, ⟨hl2.size, fun k hk _ => hl2.block k hk (by simp), hl2.tape, hl2.os, hl2.output⟩, fun k o hk => ?_, fun k o hk => ?_, fun k hk => ?_, ⟨⟨hv, rfl⟩, rfl⟩, (fun k hk => by cases hk), .nil, ?_, ?_, ?_, ?_, fun i hi => hi⟩
  . dsimp only
    rw [if_neg (by have := hsome k o hk; omega)]
    exact hk
  . dsimp only at hk
    split at hk
    . exact hk
    . exact hSw k o hk
  . dsimp only at hk
    split at hk
    . exact .inr (.inr (by assumption))
    . exact .inl hk
  . intro i z hz hbx
    match i with
    | 0 => simp [mkS, z7p, AS.mk] at hz; subst hz; cases hbx
    | i + 1 => simp [mkS, z7p] at hz
  . intro i k hk
    rw [hob i] at hk; cases hk
  . intro i j k hi
    rw [hob i] at hi; cases hi
  . intro i
    rw [hob i]; exact .nil

end
end Go.Proofs.YtlohplpnhopldaaLg

set_option linter.all false
set_option maxRecDepth 100000
namespace Go.Proofs.YtlohplpnhopldaaLg
noncomputable section
open Go Go.Lift

def zmx : Code := (Go.Proofs.Try.f38.body).getD .skip

def zj4 : List (List Nat × List Nat) := [([0], [3, 2, 1]), ([0, 0, 1], [10, 2, 1]), ([1, 0, 1], [2, 1]), ([0, 0, 1, 0, 1], [6, 7]), ([1, 0, 1, 0, 1], [6, 7]), ([0, 0, 1, 1], [12, 2, 1]), ([1, 0, 1, 1], [1]), ([0, 0, 1, 0, 1, 1], [6, 7]), ([1, 0, 1, 0, 1, 1], [6, 7]), ([0, 1, 1, 1], [6, 7]), ([1, 1, 1, 1], [6, 7])]

def zcj (N : Nat) : Env := z30 tys zh [(13, z7s N)] [] [] [] false [] []

theorem zp5 (N : Nat) : EnvOk Go.Proofs.Try.prog (zcj N) := zz mixed z1w (FnsOk.cons (z9j N) (FnsOk.nil)) (ItsOk.nil)

def z1g (N : Nat) (s : ((List ((List UInt8) × (Int × (Int × ((List (Int × ((List UInt8) × Unit))) × Unit))))) × (Int × Unit))) (l : (List (Int × ((List UInt8) × (Int × (Int × ((List UInt8) × Unit))))))) (e : Int) : Option ((List (Int × ((List UInt8) × (Int × (Int × ((List UInt8) × Unit)))))) × Int × Unit) :=
 (z4q N s).bind fun y =>
 cond (!y)
 (some (([] : List (Int × ((List UInt8) × (Int × (Int × ((List UInt8) × Unit)))))), ((7 : Int), ())))
 (cond (e != (0 : Int))
 (some (([] : List (Int × ((List UInt8) × (Int × (Int × ((List UInt8) × Unit)))))), (e, ())))
 (some (l, ((0 : Int), ()))))

def zj3 (N : Nat) : Tab ((List (Int × ((List UInt8) × (Int × (Int × ((List UInt8) × Unit)))))) × Int × Unit) := []

theorem zmw (N : Nat) (x : z29 [(0, .v (.pair (.sl (.pair .str (.pair (.int .i64) (.pair (.int .i64) (.pair (.sl (.pair (.int .i64) (.pair .str .unit))) .unit))))) (.pair (.int .i64) .unit))), (0, .v (.sl (.pair (.int .i64) (.pair .str (.pair (.int .i64) (.pair (.int .i64) (.pair .str .unit))))))), (0, .v (.int .i64))]) : z9s (zcj N) N (zj3 N) zj4 Go.Proofs.Try.f38 (mkS [(0, .v (.pair (.sl (.pair .str (.pair (.int .i64) (.pair (.int .i64) (.pair (.sl (.pair (.int .i64) (.pair .str .unit))) .unit))))) (.pair (.int .i64) .unit))), (0, .v (.sl (.pair (.int .i64) (.pair .str (.pair (.int .i64) (.pair (.int .i64) (.pair .str .unit))))))), (0, .v (.int .i64))] 0 x) (z49 (.tup [(.sl (.pair (.int .i64) (.pair .str (.pair (.int .i64) (.pair (.int .i64) (.pair .str .unit)))))), (.int .i64)]) 3) = z1g N x.1 x.2.1 x.2.2.1 := by kernel_rfl

def z2w (N : Nat) : List A -> Res := z1x [(0, .v (.pair (.sl (.pair .str (.pair (.int .i64) (.pair (.int .i64) (.pair (.sl (.pair (.int .i64) (.pair .str .unit))) .unit))))) (.pair (.int .i64) .unit))), (0, .v (.sl (.pair (.int .i64) (.pair .str (.pair (.int .i64) (.pair (.int .i64) (.pair .str .unit))))))), (0, .v (.int .i64))] (fun x => z1g N x.1 x.2.1 x.2.2.1) (z4j (.tup [(.sl (.pair (.int .i64) (.pair .str (.pair (.int .i64) (.pair (.int .i64) (.pair .str .unit)))))), (.int .i64)]) 3)

theorem z4h (N : Nat) : Contract Go.Proofs.Try.prog zh 38 (z2w N) :=
  Contract.of (E := zcj N) (H := zj3 N) (L := zj4) (N := N) (body := zmx) (K := (z49 (.tup [(.sl (.pair (.int .i64) (.pair .str (.pair (.int .i64) (.pair (.int .i64) (.pair .str .unit)))))), (.int .i64)]) 3)) (zp5 N) Go.Proofs.Try.func38 (by kernel_rfl) (by decide) (fun _ hb => TabOk.nil) (fun x y h => by rw [zmw]; exact h) (z1n (s := (.tup [(.sl (.pair (.int .i64) (.pair .str (.pair (.int .i64) (.pair (.int .i64) (.pair .str .unit)))))), (.int .i64)])) (m := 3))

def zso : Code := (Go.Proofs.Try.f39.body).getD .skip

def zqw : List (List Nat × List Nat) := [([0], [2, 1, 4]), ([0, 1], [6, 4, 2]), ([0, 0, 1, 1], [11, 4, 2, 6]), ([1, 0, 1, 1], [2, 6, 4]), ([0, 0, 1, 0, 1, 1], [4, 5]), ([1, 0, 1, 0, 1, 1], [4, 5]), ([0, 1, 1, 1], [4, 5]), ([1, 1, 1, 1], [4, 5])]

def zke (N : Nat) : Env := z30 tys zh [(16, z9l N)] [] [] [] false [] []

theorem zv2 (N : Nat) : EnvOk Go.Proofs.Try.prog (zke N) := zz mixed z1w (FnsOk.cons (zbl N) (FnsOk.nil)) (ItsOk.nil)

def z80 (N : Nat) (s : ((List ((List UInt8) × (Int × (Int × ((List (Int × ((List UInt8) × Unit))) × Unit))))) × (Int × Unit))) (tenant : (List UInt8)) : Option (((List UInt8) × (Int × (Int × ((List (Int × ((List UInt8) × Unit))) × Unit)))) × Bool × Unit) :=
 (z6t N s tenant).bind fun y =>
 cond (decide (y < (0 : Int)))
 (some ((([] : List UInt8), ((0 : Int), ((0 : Int), (([] : List (Int × ((List UInt8) × Unit))), ())))), (false, ())))
 (cond (Go.Lift.inR y (List.length s.1))
 (some ((List.getD s.1 (Int.toNat y) (([] : List UInt8), ((0 : Int), ((0 : Int), (([] : List (Int × ((List UInt8) × Unit))), ()))))), (true, ())))
 (none))

def zqv (N : Nat) : Tab (((List UInt8) × (Int × (Int × ((List (Int × ((List UInt8) × Unit))) × Unit)))) × Bool × Unit) := []

theorem zsn (N : Nat) (x : z29 [(0, .v (.pair (.sl (.pair .str (.pair (.int .i64) (.pair (.int .i64) (.pair (.sl (.pair (.int .i64) (.pair .str .unit))) .unit))))) (.pair (.int .i64) .unit))), (0, .v .str)]) : z9s (zke N) N (zqv N) zqw Go.Proofs.Try.f39 (mkS [(0, .v (.pair (.sl (.pair .str (.pair (.int .i64) (.pair (.int .i64) (.pair (.sl (.pair (.int .i64) (.pair .str .unit))) .unit))))) (.pair (.int .i64) .unit))), (0, .v .str)] 0 x) (z49 (.tup [(.pair .str (.pair (.int .i64) (.pair (.int .i64) (.pair (.sl (.pair (.int .i64) (.pair .str .unit))) .unit)))), .bool]) 2) = z80 N x.1 x.2.1 := by kernel_rfl

def zv1 (N : Nat) : List A -> Res := z1x [(0, .v (.pair (.sl (.pair .str (.pair (.int .i64) (.pair (.int .i64) (.pair (.sl (.pair (.int .i64) (.pair .str .unit))) .unit))))) (.pair (.int .i64) .unit))), (0, .v .str)] (fun x => z80 N x.1 x.2.1) (z4j (.tup [(.pair .str (.pair (.int .i64) (.pair (.int .i64) (.pair (.sl (.pair (.int .i64) (.pair .str .unit))) .unit)))), .bool]) 2)

theorem zwm (N : Nat) : Contract Go.Proofs.Try.prog zh 39 (zv1 N) :=
  Contract.of (E := zke N) (H := zqv N) (L := zqw) (N := N) (body := zso) (K := (z49 (.tup [(.pair .str (.pair (.int .i64) (.pair (.int .i64) (.pair (.sl (.pair (.int .i64) (.pair .str .unit))) .unit)))), .bool]) 2)) (zv2 N) Go.Proofs.Try.func39 (by kernel_rfl) (by decide) (fun _ hb => TabOk.nil) (fun x y h => by rw [zsn]; exact h) (z1n (s := (.tup [(.pair .str (.pair (.int .i64) (.pair (.int .i64) (.pair (.sl (.pair (.int .i64) (.pair .str .unit))) .unit)))), .bool])) (m := 2))

def zmz : Code := (Go.Proofs.Try.f37.body).getD .skip

def zj7 : List (List Nat × List Nat) := [([], [0, 1, 2])]

def zck (N : Nat) : Env := z30 tys zh [(38, z2w N)] [] [] [0, 1, 2] false [] []

theorem zp6 (N : Nat) : EnvOk Go.Proofs.Try.prog (zck N) := zz mixed z1w (FnsOk.cons (z4h N) (FnsOk.nil)) (ItsOk.nil)

def zbx (N : Nat) (x0 : ((List ((List UInt8) × (Int × (Int × ((List (Int × ((List UInt8) × Unit))) × Unit))))) × (Int × Unit))) (x1 : (List (Int × ((List UInt8) × (Int × (Int × ((List UInt8) × Unit))))))) (x2 : Int) : Option ((Unit) × (((List ((List UInt8) × (Int × (Int × ((List (Int × ((List UInt8) × Unit))) × Unit))))) × (Int × Unit)) × (List (Int × ((List UInt8) × (Int × (Int × ((List UInt8) × Unit)))))) × Int × Unit)) :=
 (z1g N x0 x1 x2).bind fun y =>
 some ((), (x0, (y.1, (y.2.1, ()))))

def zj6 (N : Nat) : Tab ((Unit) × (((List ((List UInt8) × (Int × (Int × ((List (Int × ((List UInt8) × Unit))) × Unit))))) × (Int × Unit)) × (List (Int × ((List UInt8) × (Int × (Int × ((List UInt8) × Unit)))))) × Int × Unit)) := []

theorem zmy (N : Nat) (x : z29 [(0, .box (.pair (.sl (.pair .str (.pair (.int .i64) (.pair (.int .i64) (.pair (.sl (.pair (.int .i64) (.pair .str .unit))) .unit))))) (.pair (.int .i64) .unit))), (0, .box (.sl (.pair (.int .i64) (.pair .str (.pair (.int .i64) (.pair (.int .i64) (.pair .str .unit))))))), (0, .box (.int .i64))]) : z9s (zck N) N (zj6 N) zj7 Go.Proofs.Try.f37 (mkS [(0, .box (.pair (.sl (.pair .str (.pair (.int .i64) (.pair (.int .i64) (.pair (.sl (.pair (.int .i64) (.pair .str .unit))) .unit))))) (.pair (.int .i64) .unit))), (0, .box (.sl (.pair (.int .i64) (.pair .str (.pair (.int .i64) (.pair (.int .i64) (.pair .str .unit))))))), (0, .box (.int .i64))] 0 x) (zm3 (.tup []) [(0, .box (.pair (.sl (.pair .str (.pair (.int .i64) (.pair (.int .i64) (.pair (.sl (.pair (.int .i64) (.pair .str .unit))) .unit))))) (.pair (.int .i64) .unit))), (0, .box (.sl (.pair (.int .i64) (.pair .str (.pair (.int .i64) (.pair (.int .i64) (.pair .str .unit))))))), (0, .box (.int .i64))] 0) = zbx N x.1 x.2.1 x.2.2.1 := by kernel_rfl

def z5l (N : Nat) : List A -> Res := z1x [(0, .box (.pair (.sl (.pair .str (.pair (.int .i64) (.pair (.int .i64) (.pair (.sl (.pair (.int .i64) (.pair .str .unit))) .unit))))) (.pair (.int .i64) .unit))), (0, .box (.sl (.pair (.int .i64) (.pair .str (.pair (.int .i64) (.pair (.int .i64) (.pair .str .unit))))))), (0, .box (.int .i64))] (fun x => zbx N x.1 x.2.1 x.2.2.1) (zya (.tup []) [(0, .box (.pair (.sl (.pair .str (.pair (.int .i64) (.pair (.int .i64) (.pair (.sl (.pair (.int .i64) (.pair .str .unit))) .unit))))) (.pair (.int .i64) .unit))), (0, .box (.sl (.pair (.int .i64) (.pair .str (.pair (.int .i64) (.pair (.int .i64) (.pair .str .unit))))))), (0, .box (.int .i64))] 0)

theorem z3x (N : Nat) : ContractD Go.Proofs.Try.prog zh 37 (z5l N) :=
  ContractD.of (E := zck N) (H := zj6 N) (L := zj7) (N := N) (body := zmz) (K := (zm3 (.tup []) [(0, .box (.pair (.sl (.pair .str (.pair (.int .i64) (.pair (.int .i64) (.pair (.sl (.pair (.int .i64) (.pair .str .unit))) .unit))))) (.pair (.int .i64) .unit))), (0, .box (.sl (.pair (.int .i64) (.pair .str (.pair (.int .i64) (.pair (.int .i64) (.pair .str .unit))))))), (0, .box (.int .i64))] 0)) (zp6 N) Go.Proofs.Try.func37 (by kernel_rfl) (by decide) (fun _ hb => TabOk.nil) (fun x y h => by rw [zmy]; exact h) (zhg (s := (.tup [])) (os := [(0, .box (.pair (.sl (.pair .str (.pair (.int .i64) (.pair (.int .i64) (.pair (.sl (.pair (.int .i64) (.pair .str .unit))) .unit))))) (.pair (.int .i64) .unit))), (0, .box (.sl (.pair (.int .i64) (.pair .str (.pair (.int .i64) (.pair (.int .i64) (.pair .str .unit))))))), (0, .box (.int .i64))]) (m := 0))

def zn1 : Code := (Go.Proofs.Try.f42.body).getD .skip

def zj9 : List (List Nat × List Nat) := [([], [0, 1, 2])]

def zcl (N : Nat) : Env := z30 tys zh [(38, z2w N)] [] [] [0, 1, 2] false [] []

theorem zp8 (N : Nat) : EnvOk Go.Proofs.Try.prog (zcl N) := zz mixed z1w (FnsOk.cons (z4h N) (FnsOk.nil)) (ItsOk.nil)

def zoe (N : Nat) (x0 : ((List ((List UInt8) × (Int × (Int × ((List (Int × ((List UInt8) × Unit))) × Unit))))) × (Int × Unit))) (x1 : (List (Int × ((List UInt8) × (Int × (Int × ((List UInt8) × Unit))))))) (x2 : Int) : Option ((Unit) × (((List ((List UInt8) × (Int × (Int × ((List (Int × ((List UInt8) × Unit))) × Unit))))) × (Int × Unit)) × (List (Int × ((List UInt8) × (Int × (Int × ((List UInt8) × Unit)))))) × Int × Unit)) :=
 (z1g N x0 x1 x2).bind fun y =>
 some ((), (x0, (y.1, (y.2.1, ()))))

def zj8 (N : Nat) : Tab ((Unit) × (((List ((List UInt8) × (Int × (Int × ((List (Int × ((List UInt8) × Unit))) × Unit))))) × (Int × Unit)) × (List (Int × ((List UInt8) × (Int × (Int × ((List UInt8) × Unit)))))) × Int × Unit)) := []

theorem zn0 (N : Nat) (x : z29 [(0, .box (.pair (.sl (.pair .str (.pair (.int .i64) (.pair (.int .i64) (.pair (.sl (.pair (.int .i64) (.pair .str .unit))) .unit))))) (.pair (.int .i64) .unit))), (0, .box (.sl (.pair (.int .i64) (.pair .str (.pair (.int .i64) (.pair (.int .i64) (.pair .str .unit))))))), (0, .box (.int .i64))]) : z9s (zcl N) N (zj8 N) zj9 Go.Proofs.Try.f42 (mkS [(0, .box (.pair (.sl (.pair .str (.pair (.int .i64) (.pair (.int .i64) (.pair (.sl (.pair (.int .i64) (.pair .str .unit))) .unit))))) (.pair (.int .i64) .unit))), (0, .box (.sl (.pair (.int .i64) (.pair .str (.pair (.int .i64) (.pair (.int .i64) (.pair .str .unit))))))), (0, .box (.int .i64))] 0 x) (zm3 (.tup []) [(0, .box (.pair (.sl (.pair .str (.pair (.int .i64) (.pair (.int .i64) (.pair (.sl (.pair (.int .i64) (.pair .str .unit))) .unit))))) (.pair (.int .i64) .unit))), (0, .box (.sl (.pair (.int .i64) (.pair .str (.pair (.int .i64) (.pair (.int .i64) (.pair .str .unit))))))), (0, .box (.int .i64))] 0) = zoe N x.1 x.2.1 x.2.2.1 := by kernel_rfl

def zp7 (N : Nat) : List A -> Res := z1x [(0, .box (.pair (.sl (.pair .str (.pair (.int .i64) (.pair (.int .i64) (.pair (.sl (.pair (.int .i64) (.pair .str .unit))) .unit))))) (.pair (.int .i64) .unit))), (0, .box (.sl (.pair (.int .i64) (.pair .str (.pair (.int .i64) (.pair (.int .i64) (.pair .str .unit))))))), (0, .box (.int .i64))] (fun x => zoe N x.1 x.2.1 x.2.2.1) (zya (.tup []) [(0, .box (.pair (.sl (.pair .str (.pair (.int .i64) (.pair (.int .i64) (.pair (.sl (.pair (.int .i64) (.pair .str .unit))) .unit))))) (.pair (.int .i64) .unit))), (0, .box (.sl (.pair (.int .i64) (.pair .str (.pair (.int .i64) (.pair (.int .i64) (.pair .str .unit))))))), (0, .box (.int .i64))] 0)

theorem z3y (N : Nat) : ContractD Go.Proofs.Try.prog zh 42 (zp7 N) :=
  ContractD.of (E := zcl N) (H := zj8 N) (L := zj9) (N := N) (body := zn1) (K := (zm3 (.tup []) [(0, .box (.pair (.sl (.pair .str (.pair (.int .i64) (.pair (.int .i64) (.pair (.sl (.pair (.int .i64) (.pair .str .unit))) .unit))))) (.pair (.int .i64) .unit))), (0, .box (.sl (.pair (.int .i64) (.pair .str (.pair (.int .i64) (.pair (.int .i64) (.pair .str .unit))))))), (0, .box (.int .i64))] 0)) (zp8 N) Go.Proofs.Try.func42 (by kernel_rfl) (by decide) (fun _ hb => TabOk.nil) (fun x y h => by rw [zn0]; exact h) (zhg (s := (.tup [])) (os := [(0, .box (.pair (.sl (.pair .str (.pair (.int .i64) (.pair (.int .i64) (.pair (.sl (.pair (.int .i64) (.pair .str .unit))) .unit))))) (.pair (.int .i64) .unit))), (0, .box (.sl (.pair (.int .i64) (.pair .str (.pair (.int .i64) (.pair (.int .i64) (.pair .str .unit))))))), (0, .box (.int .i64))]) (m := 0))

def zn5 : Code := (Go.Proofs.Try.f43.body).getD .skip

def zjd : List (List Nat × List Nat) := [([], [0, 1, 2])]

def zcn (N : Nat) : Env := z30 tys zh [(38, z2w N)] [] [] [0, 1, 2] false [] []

theorem zpc (N : Nat) : EnvOk Go.Proofs.Try.prog (zcn N) := zz mixed z1w (FnsOk.cons (z4h N) (FnsOk.nil)) (ItsOk.nil)

def zog (N : Nat) (x0 : ((List ((List UInt8) × (Int × (Int × ((List (Int × ((List UInt8) × Unit))) × Unit))))) × (Int × Unit))) (x1 : (List (Int × ((List UInt8) × (Int × (Int × ((List UInt8) × Unit))))))) (x2 : Int) : Option ((Unit) × (((List ((List UInt8) × (Int × (Int × ((List (Int × ((List UInt8) × Unit))) × Unit))))) × (Int × Unit)) × (List (Int × ((List UInt8) × (Int × (Int × ((List UInt8) × Unit)))))) × Int × Unit)) :=
 (z1g N x0 x1 x2).bind fun y =>
 some ((), (x0, (y.1, (y.2.1, ()))))

def zjc (N : Nat) : Tab ((Unit) × (((List ((List UInt8) × (Int × (Int × ((List (Int × ((List UInt8) × Unit))) × Unit))))) × (Int × Unit)) × (List (Int × ((List UInt8) × (Int × (Int × ((List UInt8) × Unit)))))) × Int × Unit)) := []

theorem zn4 (N : Nat) (x : z29 [(0, .box (.pair (.sl (.pair .str (.pair (.int .i64) (.pair (.int .i64) (.pair (.sl (.pair (.int .i64) (.pair .str .unit))) .unit))))) (.pair (.int .i64) .unit))), (0, .box (.sl (.pair (.int .i64) (.pair .str (.pair (.int .i64) (.pair (.int .i64) (.pair .str .unit))))))), (0, .box (.int .i64))]) : z9s (zcn N) N (zjc N) zjd Go.Proofs.Try.f43 (mkS [(0, .box (.pair (.sl (.pair .str (.pair (.int .i64) (.pair (.int .i64) (.pair (.sl (.pair (.int .i64) (.pair .str .unit))) .unit))))) (.pair (.int .i64) .unit))), (0, .box (.sl (.pair (.int .i64) (.pair .str (.pair (.int .i64) (.pair (.int .i64) (.pair .str .unit))))))), (0, .box (.int .i64))] 0 x) (zm3 (.tup []) [(0, .box (.pair (.sl (.pair .str (.pair (.int .i64) (.pair (.int .i64) (.pair (.sl (.pair (.int .i64) (.pair .str .unit))) .unit))))) (.pair (.int .i64) .unit))), (0, .box (.sl (.pair (.int .i64) (.pair .str (.pair (.int .i64) (.pair (.int .i64) (.pair .str .unit))))))), (0, .box (.int .i64))] 0) = zog N x.1 x.2.1 x.2.2.1 := by kernel_rfl

def zpb (N : Nat) : List A -> Res := z1x [(0, .box (.pair (.sl (.pair .str (.pair (.int .i64) (.pair (.int .i64) (.pair (.sl (.pair (.int .i64) (.pair .str .unit))) .unit))))) (.pair (.int .i64) .unit))), (0, .box (.sl (.pair (.int .i64) (.pair .str (.pair (.int .i64) (.pair (.int .i64) (.pair .str .unit))))))), (0, .box (.int .i64))] (fun x => zog N x.1 x.2.1 x.2.2.1) (zya (.tup []) [(0, .box (.pair (.sl (.pair .str (.pair (.int .i64) (.pair (.int .i64) (.pair (.sl (.pair (.int .i64) (.pair .str .unit))) .unit))))) (.pair (.int .i64) .unit))), (0, .box (.sl (.pair (.int .i64) (.pair .str (.pair (.int .i64) (.pair (.int .i64) (.pair .str .unit))))))), (0, .box (.int .i64))] 0)

theorem z8b (N : Nat) : ContractD Go.Proofs.Try.prog zh 43 (zpb N) :=
  ContractD.of (E := zcn N) (H := zjc N) (L := zjd) (N := N) (body := zn5) (K := (zm3 (.tup []) [(0, .box (.pair (.sl (.pair .str (.pair (.int .i64) (.pair (.int .i64) (.pair (.sl (.pair (.int .i64) (.pair .str .unit))) .unit))))) (.pair (.int .i64) .unit))), (0, .box (.sl (.pair (.int .i64) (.pair .str (.pair (.int .i64) (.pair (.int .i64) (.pair .str .unit))))))), (0, .box (.int .i64))] 0)) (zpc N) Go.Proofs.Try.func43 (by kernel_rfl) (by decide) (fun _ hb => TabOk.nil) (fun x y h => by rw [zn4]; exact h) (zhg (s := (.tup [])) (os := [(0, .box (.pair (.sl (.pair .str (.pair (.int .i64) (.pair (.int .i64) (.pair (.sl (.pair (.int .i64) (.pair .str .unit))) .unit))))) (.pair (.int .i64) .unit))), (0, .box (.sl (.pair (.int .i64) (.pair .str (.pair (.int .i64) (.pair (.int .i64) (.pair .str .unit))))))), (0, .box (.int .i64))]) (m := 0))

def zn3 : Code := (Go.Proofs.Try.f44.body).getD .skip

def zjb : List (List Nat × List Nat) := [([], [0, 1, 2])]

def zcm (N : Nat) : Env := z30 tys zh [(38, z2w N)] [] [] [0, 1, 2] false [] []

theorem zpa (N : Nat) : EnvOk Go.Proofs.Try.prog (zcm N) := zz mixed z1w (FnsOk.cons (z4h N) (FnsOk.nil)) (ItsOk.nil)

def zof (N : Nat) (x0 : ((List ((List UInt8) × (Int × (Int × ((List (Int × ((List UInt8) × Unit))) × Unit))))) × (Int × Unit))) (x1 : (List (Int × ((List UInt8) × (Int × (Int × ((List UInt8) × Unit))))))) (x2 : Int) : Option ((Unit) × (((List ((List UInt8) × (Int × (Int × ((List (Int × ((List UInt8) × Unit))) × Unit))))) × (Int × Unit)) × (List (Int × ((List UInt8) × (Int × (Int × ((List UInt8) × Unit)))))) × Int × Unit)) :=
 (z1g N x0 x1 x2).bind fun y =>
 some ((), (x0, (y.1, (y.2.1, ()))))

def zja (N : Nat) : Tab ((Unit) × (((List ((List UInt8) × (Int × (Int × ((List (Int × ((List UInt8) × Unit))) × Unit))))) × (Int × Unit)) × (List (Int × ((List UInt8) × (Int × (Int × ((List UInt8) × Unit)))))) × Int × Unit)) := []

theorem zn2 (N : Nat) (x : z29 [(0, .box (.pair (.sl (.pair .str (.pair (.int .i64) (.pair (.int .i64) (.pair (.sl (.pair (.int .i64) (.pair .str .unit))) .unit))))) (.pair (.int .i64) .unit))), (0, .box (.sl (.pair (.int .i64) (.pair .str (.pair (.int .i64) (.pair (.int .i64) (.pair .str .unit))))))), (0, .box (.int .i64))]) : z9s (zcm N) N (zja N) zjb Go.Proofs.Try.f44 (mkS [(0, .box (.pair (.sl (.pair .str (.pair (.int .i64) (.pair (.int .i64) (.pair (.sl (.pair (.int .i64) (.pair .str .unit))) .unit))))) (.pair (.int .i64) .unit))), (0, .box (.sl (.pair (.int .i64) (.pair .str (.pair (.int .i64) (.pair (.int .i64) (.pair .str .unit))))))), (0, .box (.int .i64))] 0 x) (zm3 (.tup []) [(0, .box (.pair (.sl (.pair .str (.pair (.int .i64) (.pair (.int .i64) (.pair (.sl (.pair (.int .i64) (.pair .str .unit))) .unit))))) (.pair (.int .i64) .unit))), (0, .box (.sl (.pair (.int .i64) (.pair .str (.pair (.int .i64) (.pair (.int .i64) (.pair .str .unit))))))), (0, .box (.int .i64))] 0) = zof N x.1 x.2.1 x.2.2.1 := by kernel_rfl

def zp9 (N : Nat) : List A -> Res := z1x [(0, .box (.pair (.sl (.pair .str (.pair (.int .i64) (.pair (.int .i64) (.pair (.sl (.pair (.int .i64) (.pair .str .unit))) .unit))))) (.pair (.int .i64) .unit))), (0, .box (.sl (.pair (.int .i64) (.pair .str (.pair (.int .i64) (.pair (.int .i64) (.pair .str .unit))))))), (0, .box (.int .i64))] (fun x => zof N x.1 x.2.1 x.2.2.1) (zya (.tup []) [(0, .box (.pair (.sl (.pair .str (.pair (.int .i64) (.pair (.int .i64) (.pair (.sl (.pair (.int .i64) (.pair .str .unit))) .unit))))) (.pair (.int .i64) .unit))), (0, .box (.sl (.pair (.int .i64) (.pair .str (.pair (.int .i64) (.pair (.int .i64) (.pair .str .unit))))))), (0, .box (.int .i64))] 0)

theorem z8a (N : Nat) : ContractD Go.Proofs.Try.prog zh 44 (zp9 N) :=
  ContractD.of (E := zcm N) (H := zja N) (L := zjb) (N := N) (body := zn3) (K := (zm3 (.tup []) [(0, .box (.pair (.sl (.pair .str (.pair (.int .i64) (.pair (.int .i64) (.pair (.sl (.pair (.int .i64) (.pair .str .unit))) .unit))))) (.pair (.int .i64) .unit))), (0, .box (.sl (.pair (.int .i64) (.pair .str (.pair (.int .i64) (.pair (.int .i64) (.pair .str .unit))))))), (0, .box (.int .i64))] 0)) (zpa N) Go.Proofs.Try.func44 (by kernel_rfl) (by decide) (fun _ hb => TabOk.nil) (fun x y h => by rw [zn2]; exact h) (zhg (s := (.tup [])) (os := [(0, .box (.pair (.sl (.pair .str (.pair (.int .i64) (.pair (.int .i64) (.pair (.sl (.pair (.int .i64) (.pair .str .unit))) .unit))))) (.pair (.int .i64) .unit))), (0, .box (.sl (.pair (.int .i64) (.pair .str (.pair (.int .i64) (.pair (.int .i64) (.pair .str .unit))))))), (0, .box (.int .i64))]) (m := 0))

def zqy : Code := (Go.Proofs.Try.f41.body).getD .skip

def zoj : List (List Nat × List Nat) := [([], [0, 1, 2])]

def zgp (N : Nat) : Env := z30 tys zh [(38, z2w N)] [] [] [0, 1, 2] false [] []

theorem zst (N : Nat) : EnvOk Go.Proofs.Try.prog (zgp N) := zz mixed z1w (FnsOk.cons (z4h N) (FnsOk.nil)) (ItsOk.nil)

def ztn (N : Nat) (x0 : ((List ((List UInt8) × (Int × (Int × ((List (Int × ((List UInt8) × Unit))) × Unit))))) × (Int × Unit))) (x1 : (List (Int × ((List UInt8) × (Int × (Int × ((List UInt8) × Unit))))))) (x2 : Int) : Option ((Unit) × (((List ((List UInt8) × (Int × (Int × ((List (Int × ((List UInt8) × Unit))) × Unit))))) × (Int × Unit)) × (List (Int × ((List UInt8) × (Int × (Int × ((List UInt8) × Unit)))))) × Int × Unit)) :=
 (z1g N x0 x1 x2).bind fun y =>
 some ((), (x0, (y.1, (y.2.1, ()))))

def zoi (N : Nat) : Tab ((Unit) × (((List ((List UInt8) × (Int × (Int × ((List (Int × ((List UInt8) × Unit))) × Unit))))) × (Int × Unit)) × (List (Int × ((List UInt8) × (Int × (Int × ((List UInt8) × Unit)))))) × Int × Unit)) := []

theorem zqx (N : Nat) (x : z29 [(0, .box (.pair (.sl (.pair .str (.pair (.int .i64) (.pair (.int .i64) (.pair (.sl (.pair (.int .i64) (.pair .str .unit))) .unit))))) (.pair (.int .i64) .unit))), (0, .box (.sl (.pair (.int .i64) (.pair .str (.pair (.int .i64) (.pair (.int .i64) (.pair .str .unit))))))), (0, .box (.int .i64))]) : z9s (zgp N) N (zoi N) zoj Go.Proofs.Try.f41 (mkS [(0, .box (.pair (.sl (.pair .str (.pair (.int .i64) (.pair (.int .i64) (.pair (.sl (.pair (.int .i64) (.pair .str .unit))) .unit))))) (.pair (.int .i64) .unit))), (0, .box (.sl (.pair (.int .i64) (.pair .str (.pair (.int .i64) (.pair (.int .i64) (.pair .str .unit))))))), (0, .box (.int .i64))] 0 x) (zm3 (.tup []) [(0, .box (.pair (.sl (.pair .str (.pair (.int .i64) (.pair (.int .i64) (.pair (.sl (.pair (.int .i64) (.pair .str .unit))) .unit))))) (.pair (.int .i64) .unit))), (0, .box (.sl (.pair (.int .i64) (.pair .str (.pair (.int .i64) (.pair (.int .i64) (.pair .str .unit))))))), (0, .box (.int .i64))] 0) = ztn N x.1 x.2.1 x.2.2.1 := by kernel_rfl

def zss (N : Nat) : List A -> Res := z1x [(0, .box (.pair (.sl (.pair .str (.pair (.int .i64) (.pair (.int .i64) (.pair (.sl (.pair (.int .i64) (.pair .str .unit))) .unit))))) (.pair (.int .i64) .unit))), (0, .box (.sl (.pair (.int .i64) (.pair .str (.pair (.int .i64) (.pair (.int .i64) (.pair .str .unit))))))), (0, .box (.int .i64))] (fun x => ztn N x.1 x.2.1 x.2.2.1) (zya (.tup []) [(0, .box (.pair (.sl (.pair .str (.pair (.int .i64) (.pair (.int .i64) (.pair (.sl (.pair (.int .i64) (.pair .str .unit))) .unit))))) (.pair (.int .i64) .unit))), (0, .box (.sl (.pair (.int .i64) (.pair .str (.pair (.int .i64) (.pair (.int .i64) (.pair .str .unit))))))), (0, .box (.int .i64))] 0)

theorem zco (N : Nat) : ContractD Go.Proofs.Try.prog zh 41 (zss N) :=
  ContractD.of (E := zgp N) (H := zoi N) (L := zoj) (N := N) (body := zqy) (K := (zm3 (.tup []) [(0, .box (.pair (.sl (.pair .str (.pair (.int .i64) (.pair (.int .i64) (.pair (.sl (.pair (.int .i64) (.pair .str .unit))) .unit))))) (.pair (.int .i64) .unit))), (0, .box (.sl (.pair (.int .i64) (.pair .str (.pair (.int .i64) (.pair (.int .i64) (.pair .str .unit))))))), (0, .box (.int .i64))] 0)) (zst N) Go.Proofs.Try.func41 (by kernel_rfl) (by decide) (fun _ hb => TabOk.nil) (fun x y h => by rw [zqx]; exact h) (zhg (s := (.tup [])) (os := [(0, .box (.pair (.sl (.pair .str (.pair (.int .i64) (.pair (.int .i64) (.pair (.sl (.pair (.int .i64) (.pair .str .unit))) .unit))))) (.pair (.int .i64) .unit))), (0, .box (.sl (.pair (.int .i64) (.pair .str (.pair (.int .i64) (.pair (.int .i64) (.pair .str .unit))))))), (0, .box (.int .i64))]) (m := 0))

def z4i : Code := (Go.Proofs.Try.f11.body).getD .skip

def zby : List (List Nat × List Nat) := [([0], [1]), ([0, 0, 1], [10, 1]), ([1, 0, 1], [1]), ([0, 0, 1, 0, 1], [2]), ([1, 0, 1, 0, 1], [2]), ([0, 1, 1], [1, 3]), ([0, 0, 1, 1, 1], [14, 13, 12, 3, 1]), ([0, 1, 0, 1, 1, 1], [14, 13, 12, 3, 1]), ([0, 0, 0, 1, 0, 1, 1, 1], [15, 12, 14, 3, 13, 1]), ([0, 1, 0, 0, 1, 0, 1, 1, 1], [12, 14, 3, 13, 1]), ([1, 0, 1, 0, 0, 1, 0, 1, 1, 1], [3, 1]), ([0, 0, 0, 1, 1, 0, 0, 1, 0, 1, 1, 1], [3, 5, 14, 13, 12, 1]), ([0, 1, 0, 0, 1, 1, 0, 0, 1, 0, 1, 1, 1], [5, 3, 14, 13, 12, 1]), ([0, 1, 1, 0, 0, 1, 1, 0, 0, 1, 0, 1, 1, 1], [31, 30, 29, 3, 5, 14, 13, 12, 1]), ([0, 1, 1, 1, 0, 0, 1, 1, 0, 0, 1, 0, 1, 1, 1], [31, 30, 29, 3, 5, 14, 13, 12, 1]), ([0, 0, 0, 1, 1, 1, 0, 0, 1, 1, 0, 0, 1, 0, 1, 1, 1], [32, 29, 31, 3, 5, 30, 14, 13, 12, 1]), ([0, 1, 0, 0, 1, 1, 1, 0, 0, 1, 1, 0, 0, 1, 0, 1, 1, 1], [29, 31, 3, 5, 30, 14, 13, 12, 1]), ([1, 0, 1, 0, 0, 1, 1, 1, 0, 0, 1, 1, 0, 0, 1, 0, 1, 1, 1], [14, 13, 12, 3, 1]), ([0, 0, 0, 1, 1, 0, 0, 1, 1, 1, 0, 0, 1, 1, 0, 0, 1, 0, 1, 1, 1], [3, 5, 7, 31, 30, 29, 14, 13, 12, 1]), ([1, 0, 0, 1, 1, 0, 0, 1, 1, 1, 0, 0, 1, 1, 0, 0, 1, 0, 1, 1, 1], [31, 30, 29, 3, 5, 14, 13, 12, 1]), ([0, 1, 1, 0, 0, 1, 1, 1, 0, 0, 1, 1, 0, 0, 1, 0, 1, 1, 1], [31, 30, 29, 3, 5, 14, 13, 12, 1]), ([1, 1, 1, 0, 0, 1, 1, 1, 0, 0, 1, 1, 0, 0, 1, 0, 1, 1, 1], [31, 30, 29, 3, 5, 14, 13, 12, 1]), ([1, 1, 1, 0, 0, 1, 1, 0, 0, 1, 0, 1, 1, 1], [14, 13, 12, 3, 1]), ([0, 1, 1, 0, 0, 1, 0, 1, 1, 1], [14, 13, 12, 3, 1]), ([1, 1, 1, 0, 0, 1, 0, 1, 1, 1], [14, 13, 12, 3, 1]), ([1, 0, 1, 1, 1], [3, 1]), ([0, 1, 1, 1, 1], [2]), ([1, 1, 1, 1, 1], [2])]

def z81 (N : Nat) : Env := z30 tys zh [(13, z7s N), (28, z9g N), (29, zdc N)] [(3, (.pair (.int .i64) (.pair .str (.pair (.int .i64) (.pair (.int .i64) (.pair .str .unit)))))), (2, (.pair (.int .i64) (.pair .str (.pair (.int .i64) (.pair (.int .i64) (.pair .str .unit))))))] [] [] false [] []

theorem zsw (N : Nat) : EnvOk Go.Proofs.Try.prog (z81 N) := zz mixed z1w (FnsOk.cons (z9j N) (FnsOk.cons (zb2 N) (FnsOk.cons (zev N) (FnsOk.nil)))) (ItsOk.nil)

def ze8 (N : Nat) (s : ((List ((List UInt8) × (Int × (Int × ((List (Int × ((List UInt8) × Unit))) × Unit))))) × (Int × Unit))) (t : ((List UInt8) × (Int × (Int × ((List (Int × ((List UInt8) × Unit))) × Unit))))) (x12 : (List ((List UInt8) × (Int × (Int × ((List (Int × ((List UInt8) × Unit))) × Unit)))))) (x13 : Int) (x14 : Int) (x29 : (List (Int × ((List UInt8) × Unit)))) (x30 : Int) (l : (List (Int × ((List UInt8) × (Int × (Int × ((List UInt8) × Unit))))))) (x31 : Int) (rec : (List (Int × ((List UInt8) × (Int × (Int × ((List UInt8) × Unit)))))) -> Int -> Option (List (Int × ((List UInt8) × (Int × (Int × ((List UInt8) × Unit))))))) (k0 : (List (Int × ((List UInt8) × (Int × (Int × ((List UInt8) × Unit)))))) -> Option (List (Int × ((List UInt8) × (Int × (Int × ((List UInt8) × Unit))))))) : Option (List (Int × ((List UInt8) × (Int × (Int × ((List UInt8) × Unit)))))) :=
 cond (decide (x31 < x30))
 (cond (Go.Lift.inR x31 (List.length x29))
 (cond (decide ((((List.length l) + 1) * 56) <= 70368744177664))
 (rec (l ++ ([((2 : Int), (t.1, ((List.getD x29 (Int.toNat x31) ((0 : Int), (([] : List UInt8), ()))).1, ((0 : Int), ((List.getD x29 (Int.toNat x31) ((0 : Int), (([] : List UInt8), ()))).2.1, ())))))] : List (Int × ((List UInt8) × (Int × (Int × ((List UInt8) × Unit))))))) (Go.IntKind.wrap Go.IntKind.i64 (x31 + (1 : Int))))
 (none))
 (none))
 (k0 l)

def zea (N : Nat) (s : ((List ((List UInt8) × (Int × (Int × ((List (Int × ((List UInt8) × Unit))) × Unit))))) × (Int × Unit))) (l : (List (Int × ((List UInt8) × (Int × (Int × ((List UInt8) × Unit))))))) (t : ((List UInt8) × (Int × (Int × ((List (Int × ((List UInt8) × Unit))) × Unit))))) (x12 : (List ((List UInt8) × (Int × (Int × ((List (Int × ((List UInt8) × Unit))) × Unit)))))) (x13 : Int) (x14 : Int) (x29 : (List (Int × ((List UInt8) × Unit)))) (x30 : Int) (x31 : Int) (k0 : (List (Int × ((List UInt8) × (Int × (Int × ((List UInt8) × Unit)))))) -> Option (List (Int × ((List UInt8) × (Int × (Int × ((List UInt8) × Unit))))))) : Option (List (Int × ((List UInt8) × (Int × (Int × ((List UInt8) × Unit)))))) :=
 iter (fun (v : ((List (Int × ((List UInt8) × (Int × (Int × ((List UInt8) × Unit)))))) × Int)) r => ze8 N s t x12 x13 x14 x29 x30 v.1 v.2 (fun l x31 => (r (l, x31))) k0) N (l, x31)

def zlr (N : Nat) (i : (((List ((List UInt8) × (Int × (Int × ((List (Int × ((List UInt8) × Unit))) × Unit))))) × (Int × Unit)) × ((List UInt8) × (Int × (Int × ((List (Int × ((List UInt8) × Unit))) × Unit)))) × (List ((List UInt8) × (Int × (Int × ((List (Int × ((List UInt8) × Unit))) × Unit))))) × Int × Int × (List (Int × ((List UInt8) × Unit))) × Int)) (v : ((List (Int × ((List UInt8) × (Int × (Int × ((List UInt8) × Unit)))))) × Int)) (r : ((List (Int × ((List UInt8) × (Int × (Int × ((List UInt8) × Unit)))))) × Int) -> Option (List (Int × ((List UInt8) × (Int × (Int × ((List UInt8) × Unit))))))) (K : Ex -> List A -> Option (List (Int × ((List UInt8) × (Int × (Int × ((List UInt8) × Unit))))))) : Option (List (Int × ((List UInt8) × (Int × (Int × ((List UInt8) × Unit)))))) :=
 ze8 N i.1 i.2.1 i.2.2.1 i.2.2.2.1 i.2.2.2.2.1 i.2.2.2.2.2.1 i.2.2.2.2.2.2 v.1 v.2 (fun l x31 => (r (l, x31))) (fun a1 => (K (.exit 2) (mkS [(1, .box (.pair (.sl (.pair .str (.pair (.int .i64) (.pair (.int .i64) (.pair (.sl (.pair (.int .i64) (.pair .str .unit))) .unit))))) (.pair (.int .i64) .unit))), (1, .row (.pair (.int .i64) (.pair .str (.pair (.int .i64) (.pair (.int .i64) (.pair .str .unit)))))), (8, .v (.sl (.pair .str (.pair (.int .i64) (.pair (.int .i64) (.pair (.sl (.pair (.int .i64) (.pair .str .unit))) .unit)))))), (0, .v (.int .i64)), (0, .v (.int .i64))] 38 (i.1, a1, i.2.2.1, i.2.2.2.1, i.2.2.2.2.1, ()))))

def zlp (N : Nat) : Hd (List (Int × ((List UInt8) × (Int × (Int × ((List UInt8) × Unit)))))) := fun st K => (unS [(1, .box (.pair (.sl (.pair .str (.pair (.int .i64) (.pair (.int .i64) (.pair (.sl (.pair (.int .i64) (.pair .str .unit))) .unit))))) (.pair (.int .i64) .unit))), (1, .row (.pair (.int .i64) (.pair .str (.pair (.int .i64) (.pair (.int .i64) (.pair .str .unit)))))), (1, .box (.pair .str (.pair (.int .i64) (.pair (.int .i64) (.pair (.sl (.pair (.int .i64) (.pair .str .unit))) .unit))))), (6, .v (.sl (.pair .str (.pair (.int .i64) (.pair (.int .i64) (.pair (.sl (.pair (.int .i64) (.pair .str .unit))) .unit)))))), (0, .v (.int .i64)), (0, .v (.int .i64)), (14, .v (.sl (.pair (.int .i64) (.pair .str .unit)))), (0, .v (.int .i64)), (0, .v (.int .i64))] 21 (restr [31, 30, 29, 3, 5, 14, 13, 12, 1] 0 st)).bind fun x => iter (fun v r => zlr N ((fun x => (x.1, x.2.2.1, x.2.2.2.1, x.2.2.2.2.1, x.2.2.2.2.2.1, x.2.2.2.2.2.2.1, x.2.2.2.2.2.2.2.1)) x) v r K) N ((fun x => (x.2.1, x.2.2.2.2.2.2.2.2.1)) x)

def zv3 (N : Nat) : Tab (List (Int × ((List UInt8) × (Int × (Int × ((List UInt8) × Unit)))))) := []

theorem zsu {N : Nat} {c : Ctx} (hb : Base Go.Proofs.Try.prog (z81 N) c) : z11 Go.Proofs.Try.prog c (zj z4i [0, 1, 1, 1, 0, 0, 1, 1, 0, 0, 1, 0, 1, 1, 1]) (zlp N) :=
  z3p (s := [(1, .box (.pair (.sl (.pair .str (.pair (.int .i64) (.pair (.int .i64) (.pair (.sl (.pair (.int .i64) (.pair .str .unit))) .unit))))) (.pair (.int .i64) .unit))), (1, .row (.pair (.int .i64) (.pair .str (.pair (.int .i64) (.pair (.int .i64) (.pair .str .unit)))))), (1, .box (.pair .str (.pair (.int .i64) (.pair (.int .i64) (.pair (.sl (.pair (.int .i64) (.pair .str .unit))) .unit))))), (6, .v (.sl (.pair .str (.pair (.int .i64) (.pair (.int .i64) (.pair (.sl (.pair (.int .i64) (.pair .str .unit))) .unit)))))), (0, .v (.int .i64)), (0, .v (.int .i64)), (14, .v (.sl (.pair (.int .i64) (.pair .str .unit)))), (0, .v (.int .i64)), (0, .v (.int .i64))]) (m := 21) (zlr N) [31, 30, 29, 3, 5, 14, 13, 12, 1] N (fun x => (x.1, x.2.2.1, x.2.2.2.1, x.2.2.2.2.1, x.2.2.2.2.2.1, x.2.2.2.2.2.2.1, x.2.2.2.2.2.2.2.1)) (fun x => (x.2.1, x.2.2.2.2.2.2.2.2.1)) (fun i v => (i.1, v.1, i.2.1, i.2.2.1, i.2.2.2.1, i.2.2.2.2.1, i.2.2.2.2.2.1, i.2.2.2.2.2.2, v.2, ())) (fun _ => rfl) (zd hb N (zv3 N) zby z4i TabOk.nil [0, 0, 1, 1, 1, 0, 0, 1, 1, 0, 0, 1, 0, 1, 1, 1] _ rfl) (fun i v r K => by kernel_rfl)

def ze9 (N : Nat) (s : ((List ((List UInt8) × (Int × (Int × ((List (Int × ((List UInt8) × Unit))) × Unit))))) × (Int × Unit))) (x12 : (List ((List UInt8) × (Int × (Int × ((List (Int × ((List UInt8) × Unit))) × Unit)))))) (x13 : Int) (l : (List (Int × ((List UInt8) × (Int × (Int × ((List UInt8) × Unit))))))) (x14 : Int) (rec : (List (Int × ((List UInt8) × (Int × (Int × ((List UInt8) × Unit)))))) -> Int -> Option (List (Int × ((List UInt8) × (Int × (Int × ((List UInt8) × Unit))))))) (k0 : (List (Int × ((List UInt8) × (Int × (Int × ((List UInt8) × Unit)))))) -> Option (List (Int × ((List UInt8) × (Int × (Int × ((List UInt8) × Unit))))))) : Option (List (Int × ((List UInt8) × (Int × (Int × ((List UInt8) × Unit)))))) :=
 cond (decide (x14 < x13))
 (cond (Go.Lift.inR x14 (List.length x12))
 (cond (decide ((((List.length l) + 1) * 56) <= 70368744177664))
 (zea N s (l ++ ([((1 : Int), ((List.getD x12 (Int.toNat x14) (([] : List UInt8), ((0 : Int), ((0 : Int), (([] : List (Int × ((List UInt8) × Unit))), ()))))).1, ((List.getD x12 (Int.toNat x14) (([] : List UInt8), ((0 : Int), ((0 : Int), (([] : List (Int × ((List UInt8) × Unit))), ()))))).2.2.1, ((List.getD x12 (Int.toNat x14) (([] : List UInt8), ((0 : Int), ((0 : Int), (([] : List (Int × ((List UInt8) × Unit))), ()))))).2.1, (([] : List UInt8), ())))))] : List (Int × ((List UInt8) × (Int × (Int × ((List UInt8) × Unit))))))) (List.getD x12 (Int.toNat x14) (([] : List UInt8), ((0 : Int), ((0 : Int), (([] : List (Int × ((List UInt8) × Unit))), ()))))) x12 x13 x14 (List.getD x12 (Int.toNat x14) (([] : List UInt8), ((0 : Int), ((0 : Int), (([] : List (Int × ((List UInt8) × Unit))), ()))))).2.2.2.1 (((List.length (List.getD x12 (Int.toNat x14) (([] : List UInt8), ((0 : Int), ((0 : Int), (([] : List (Int × ((List UInt8) × Unit))), ()))))).2.2.2.1) : Nat) : Int) (0 : Int)
 (fun l1 => rec l1 (Go.IntKind.wrap Go.IntKind.i64 (x14 + (1 : Int)))))
 (none))
 (none))
 (k0 l)

def zlo (N : Nat) (s : ((List ((List UInt8) × (Int × (Int × ((List (Int × ((List UInt8) × Unit))) × Unit))))) × (Int × Unit))) (l : (List (Int × ((List UInt8) × (Int × (Int × ((List UInt8) × Unit))))))) (x12 : (List ((List UInt8) × (Int × (Int × ((List (Int × ((List UInt8) × Unit))) × Unit)))))) (x13 : Int) (x14 : Int) (k0 : (List (Int × ((List UInt8) × (Int × (Int × ((List UInt8) × Unit)))))) -> Option (List (Int × ((List UInt8) × (Int × (Int × ((List UInt8) × Unit))))))) : Option (List (Int × ((List UInt8) × (Int × (Int × ((List UInt8) × Unit)))))) :=
 iter (fun (v : ((List (Int × ((List UInt8) × (Int × (Int × ((List UInt8) × Unit)))))) × Int)) r => ze9 N s x12 x13 v.1 v.2 (fun l x14 => (r (l, x14))) k0) N (l, x14)

def zls (N : Nat) (i : (((List ((List UInt8) × (Int × (Int × ((List (Int × ((List UInt8) × Unit))) × Unit))))) × (Int × Unit)) × (List ((List UInt8) × (Int × (Int × ((List (Int × ((List UInt8) × Unit))) × Unit))))) × Int)) (v : ((List (Int × ((List UInt8) × (Int × (Int × ((List UInt8) × Unit)))))) × Int)) (r : ((List (Int × ((List UInt8) × (Int × (Int × ((List UInt8) × Unit)))))) × Int) -> Option (List (Int × ((List UInt8) × (Int × (Int × ((List UInt8) × Unit))))))) (K : Ex -> List A -> Option (List (Int × ((List UInt8) × (Int × (Int × ((List UInt8) × Unit))))))) : Option (List (Int × ((List UInt8) × (Int × (Int × ((List UInt8) × Unit)))))) :=
 ze9 N i.1 i.2.1 i.2.2 v.1 v.2 (fun l x14 => (r (l, x14))) (fun a1 => (K (.exit 0) (mkS [(1, .box (.pair (.sl (.pair .str (.pair (.int .i64) (.pair (.int .i64) (.pair (.sl (.pair (.int .i64) (.pair .str .unit))) .unit))))) (.pair (.int .i64) .unit))), (1, .row (.pair (.int .i64) (.pair .str (.pair (.int .i64) (.pair (.int .i64) (.pair .str .unit))))))] 49 (i.1, a1, ()))))

def zlq (N : Nat) : Hd (List (Int × ((List UInt8) × (Int × (Int × ((List UInt8) × Unit)))))) := fun st K => (unS [(1, .box (.pair (.sl (.pair .str (.pair (.int .i64) (.pair (.int .i64) (.pair (.sl (.pair (.int .i64) (.pair .str .unit))) .unit))))) (.pair (.int .i64) .unit))), (1, .row (.pair (.int .i64) (.pair .str (.pair (.int .i64) (.pair (.int .i64) (.pair .str .unit)))))), (8, .v (.sl (.pair .str (.pair (.int .i64) (.pair (.int .i64) (.pair (.sl (.pair (.int .i64) (.pair .str .unit))) .unit)))))), (0, .v (.int .i64)), (0, .v (.int .i64))] 38 (restr [14, 13, 12, 3, 1] 0 st)).bind fun x => iter (fun v r => zls N ((fun x => (x.1, x.2.2.1, x.2.2.2.1)) x) v r K) N ((fun x => (x.2.1, x.2.2.2.2.1)) x)

def zv4 (N : Nat) : Tab (List (Int × ((List UInt8) × (Int × (Int × ((List UInt8) × Unit)))))) := [([0, 1, 1, 1, 0, 0, 1, 1, 0, 0, 1, 0, 1, 1, 1], zlp N)]

theorem zsv {N : Nat} {c : Ctx} (hb : Base Go.Proofs.Try.prog (z81 N) c) : z11 Go.Proofs.Try.prog c (zj z4i [0, 1, 0, 1, 1, 1]) (zlq N) :=
  z3p (s := [(1, .box (.pair (.sl (.pair .str (.pair (.int .i64) (.pair (.int .i64) (.pair (.sl (.pair (.int .i64) (.pair .str .unit))) .unit))))) (.pair (.int .i64) .unit))), (1, .row (.pair (.int .i64) (.pair .str (.pair (.int .i64) (.pair (.int .i64) (.pair .str .unit)))))), (8, .v (.sl (.pair .str (.pair (.int .i64) (.pair (.int .i64) (.pair (.sl (.pair (.int .i64) (.pair .str .unit))) .unit)))))), (0, .v (.int .i64)), (0, .v (.int .i64))]) (m := 38) (zls N) [14, 13, 12, 3, 1] N (fun x => (x.1, x.2.2.1, x.2.2.2.1)) (fun x => (x.2.1, x.2.2.2.2.1)) (fun i v => (i.1, v.1, i.2.1, i.2.2, v.2, ())) (fun _ => rfl) (zd hb N (zv4 N) zby z4i (TabOk.cons (zsu hb) TabOk.nil) [0, 0, 1, 0, 1, 1, 1] _ rfl) (fun i v r K => by kernel_rfl)

def z9p (N : Nat) (s : ((List ((List UInt8) × (Int × (Int × ((List (Int × ((List UInt8) × Unit))) × Unit))))) × (Int × Unit))) : Option (List (Int × ((List UInt8) × (Int × (Int × ((List UInt8) × Unit)))))) :=
 (z4q N s).bind fun y =>
 cond (!y)
 (some ([] : List (Int × ((List UInt8) × (Int × (Int × ((List UInt8) × Unit)))))))
 (zlo N s ([] : List (Int × ((List UInt8) × (Int × (Int × ((List UInt8) × Unit)))))) s.1 (((List.length s.1) : Nat) : Int) (0 : Int)
 (fun l => cond (decide ((((List.length l) + 1) * 56) <= 70368744177664))
 (some (l ++ ([((4 : Int), (([] : List UInt8), (s.2.1, ((0 : Int), (([] : List UInt8), ())))))] : List (Int × ((List UInt8) × (Int × (Int × ((List UInt8) × Unit))))))))
 (none)))

def zol (N : Nat) : Tab (List (Int × ((List UInt8) × (Int × (Int × ((List UInt8) × Unit)))))) := [([0, 1, 0, 1, 1, 1], zlq N)]

theorem zqz (N : Nat) (x : z29 [(0, .v (.pair (.sl (.pair .str (.pair (.int .i64) (.pair (.int .i64) (.pair (.sl (.pair (.int .i64) (.pair .str .unit))) .unit))))) (.pair (.int .i64) .unit)))]) : z9s (z81 N) N (zol N) zby Go.Proofs.Try.f11 (mkS [(0, .v (.pair (.sl (.pair .str (.pair (.int .i64) (.pair (.int .i64) (.pair (.sl (.pair (.int .i64) (.pair .str .unit))) .unit))))) (.pair (.int .i64) .unit)))] 0 x) (z49 (.v (.sl (.pair (.int .i64) (.pair .str (.pair (.int .i64) (.pair (.int .i64) (.pair .str .unit))))))) 1) = z9p N x.1 := by kernel_rfl

def zcp (N : Nat) : List A -> Res := z1x [(0, .v (.pair (.sl (.pair .str (.pair (.int .i64) (.pair (.int .i64) (.pair (.sl (.pair (.int .i64) (.pair .str .unit))) .unit))))) (.pair (.int .i64) .unit)))] (fun x => z9p N x.1) (z4j (.v (.sl (.pair (.int .i64) (.pair .str (.pair (.int .i64) (.pair (.int .i64) (.pair .str .unit))))))) 1)

theorem zlt (N : Nat) : Contract Go.Proofs.Try.prog zh 11 (zcp N) :=
  Contract.of (E := z81 N) (H := zol N) (L := zby) (N := N) (body := z4i) (K := (z49 (.v (.sl (.pair (.int .i64) (.pair .str (.pair (.int .i64) (.pair (.int .i64) (.pair .str .unit))))))) 1)) (zsw N) Go.Proofs.Try.func11 (by kernel_rfl) (by decide) (fun _ hb => (TabOk.cons (zsv hb) TabOk.nil)) (fun x y h => by rw [zqz]; exact h) (z1n (s := (.v (.sl (.pair (.int .i64) (.pair .str (.pair (.int .i64) (.pair (.int .i64) (.pair .str .unit)))))))) (m := 1))

end
end Go.Proofs.YtlohplpnhopldaaLg

set_option linter.all false
set_option maxRecDepth 100000
namespace Go.Lift
noncomputable section

structure NSt (w0 : World) (S0 : Hp) (w : World) (S : Hp) (L : List (Nat × Array Value × Nat)) : Prop where
  wf : WF w0 (fun _ => False) w
  sub : Sub S0 S
  inw : Sub S (hp w)
  new : ∀ k, S k ≠ none -> S0 k ≠ none \/ w0.heap.size <= k
  own : ∀ p ∈ L, S p.1 = none /\ w0.heap.size <= p.1 /\ w.heap[p.1]? = some (.cells p.2.1 p.2.2 (0, 0))

variable {P : Program} {glob : Nat -> Option Dat} {w0 w : World} {S0 S : Hp} {L : List (Nat × Array Value × Nat)}

theorem NSt.start (hS : Sub S0 (hp w)) : NSt w S0 w S0 [] := ⟨WF.refl _ _, Sub.refl _, hS, fun _ h => .inl h, fun p hp => by cases hp⟩

theorem NSt.lt (h : NSt w0 S0 w S L) : ∀ p ∈ L, p.1 < w.heap.size := fun p hp => (Array.getElem?_eq_some_iff.1 (h.own p hp).2.2).1

theorem NSt.drew (h : NSt w0 S0 w S L) : NSt w0 S0 w.drew S L := ⟨⟨h.wf.size, h.wf.same, h.wf.tape, h.wf.os, h.wf.output⟩, h.sub, h.inw, h.new, h.own⟩

theorem NSt.swap {L' : List (Nat × Array Value × Nat)} (h : NSt w0 S0 w S L) (hm : ∀ p ∈ L', p ∈ L) : NSt w0 S0 w S L' := ⟨h.wf, h.sub, h.inw, h.new, fun p hp => h.own p (hm p hp)⟩

theorem NSt.cell (h : NSt w0 S0 w S L) {p : Nat} {cs : Array Value} {E i : Nat} {v : Value} (hm : (p, cs, E) ∈ L) (hi : cs[i]? = some v) : w.cell? ⟨p, i, none⟩ = some v := by
  have := (h.own _ hm).2.2
  simp only at this
  simp [World.cell?, this, hi]

theorem NSt.free (h : NSt w0 S0 w S L) {p : Nat} {cs : Array Value} {E i : Nat} (hm : (p, cs, E) ∈ L) : w.frozen? ⟨p, i, none⟩ = false := by
  have := (h.own _ hm).2.2
  simp only at this
  simp [World.frozen?, this]

theorem NSt.alloc (h : NSt w0 S0 w S L) (cs : Array Value) (E : Nat) : NSt w0 S0 (w.alloc (.cells cs E)) S ((w.heap.size, cs, E) :: L) := by
  have hlt := h.lt
  have hh : (w.alloc (.cells cs E)).heap = w.heap.push (.cells cs E (0, 0)) := rfl
  have hk : ∀ k, k < w.heap.size -> (w.alloc (.cells cs E)).heap[k]? = w.heap[k]? := fun k hk => by
    rw [hh, Array.getElem?_push, if_neg (by omega)]
  refine ⟨⟨by rw [hh, Array.size_push]; have := h.wf.size; omega, fun k h1' h2' => by rw [hk k (by have := h.wf.size; omega)]; exact h.wf.same k h1' h2', h.wf.tape, h.wf.os, h.wf.output⟩, h.sub, fun k q ho => ?_, h.new, fun p hpm => ?_⟩
  . have := h.inw k q ho
    simp only [hp] at this ⊢
    rw [hk k (Array.getElem?_eq_some_iff.1 this).1]
    exact this
  . rcases List.mem_cons.1 hpm with rfl | hpm
    . refine ⟨?_, h.wf.size, ?_⟩
      . cases hs : S w.heap.size with
        | none => rfl
        | some q =>
          have := h.inw _ _ hs
          simp only [hp] at this
          have := (Array.getElem?_eq_some_iff.1 this).1
          omega
      . simp only
        rw [hh, Array.getElem?_push, if_pos rfl]
    . obtain ⟨p1, p3, p4⟩ := h.own p hpm
      exact ⟨p1, p3, by rw [hk p.1 (hlt p hpm)]; exact p4⟩

theorem zxo (w : World) (o : Obj) : w.heap.size + 1 = (w.alloc o).heap.size := by
  show _ = (w.heap.push _).size
  rw [Array.size_push]

theorem NSt.new' (h : NSt w0 S0 w S L) {p : Nat} (hp : p = w.heap.size) (cs : Array Value) (E : Nat) : NSt w0 S0 (w.alloc (.cells cs E)) S ((p, cs, E) :: L) := by
  subst hp; exact h.alloc cs E

theorem NSt.set {p : Nat} {cs : Array Value} {E : Nat} (h : NSt w0 S0 w S ((p, cs, E) :: L)) (hd : ∀ q ∈ L, q.1 ≠ p) (i : Nat) (v : Value) :
    NSt w0 S0 (w.setCell ⟨p, i, none⟩ v) S ((p, cs.setIfInBounds i v, E) :: L) := by
  obtain ⟨q1, q3, q4⟩ := h.own (p, cs, E) (List.mem_cons_self ..)
  simp only at q1 q3 q4
  have hw := zmo (off := i) v (show hp w p = some (.cells cs E (0, 0)) from q4)
  obtain ⟨w', hw'⟩ : ∃ w', w' = w.setCell ⟨p, i, none⟩ v := ⟨_, rfl⟩
  rw [<- hw'] at hw ⊢
  have hne : ∀ k, k ≠ p -> w'.heap[k]? = w.heap[k]? := fun k hk => by
    have := zr (w := w) (o := .cells (cs.setIfInBounds i v) E (0, 0)) hk
    rw [hw]; exact this
  have hsz : w'.heap.size = w.heap.size := by rw [hw]; simp [z1c]
  refine ⟨⟨by rw [hsz]; exact h.wf.size, fun k h1' h2' => by rw [hne k (by omega)]; exact h.wf.same k h1' h2', by rw [hw]; exact h.wf.tape, by rw [hw]; exact h.wf.os, by rw [hw]; exact h.wf.output⟩, h.sub, fun k q ho => ?_, h.new, fun u hu => ?_⟩
  . have hk : k ≠ p := fun e => by rw [e, q1] at ho; cases ho
    have := h.inw k q ho
    simp only [hp] at this ⊢
    rw [hne k hk]
    exact this
  . rcases List.mem_cons.1 hu with rfl | hu
    . refine ⟨q1, q3, ?_⟩
      rw [hw]
      exact z21 q4
    . obtain ⟨p1, p3, p4⟩ := h.own u (List.mem_cons_of_mem _ hu)
      exact ⟨p1, p3, by rw [hne u.1 (hd u hu)]; exact p4⟩

theorem NSt.give {p : Nat} {cs : Array Value} {E : Nat} (h : NSt w0 S0 w S ((p, cs, E) :: L)) (hd : ∀ q ∈ L, q.1 ≠ p) :
    NSt w0 S0 w (fun k => if k = p then some (.cells cs E (0, 0)) else S k) L /\ Sub S (fun k => if k = p then some (.cells cs E (0, 0)) else S k) := by
  obtain ⟨q1, q3, q4⟩ := h.own (p, cs, E) (List.mem_cons_self ..)
  simp only at q1 q3 q4
  have hs : Sub S (fun k => if k = p then some (.cells cs E (0, 0)) else S k) := fun k o hk => by
    refine (if_neg (fun e => ?_)).trans hk
    rw [e, q1] at hk; cases hk
  refine ⟨⟨h.wf, h.sub.trans hs, fun k o hk => ?_, fun k hk => ?_, fun u hu => ?_⟩, hs⟩
  . split at hk
    . subst_vars
      simp only [hp]
      rw [q4]; exact hk
    . exact h.inw k o hk
  . split at hk
    . subst_vars; exact .inr q3
    . exact h.new k hk
  . obtain ⟨p1, p3, p4⟩ := h.own u (List.mem_cons_of_mem _ hu)
    exact ⟨by rw [if_neg (hd u hu)]; exact p1, p3, p4⟩

theorem NSt.plain {f : FuncId} {g : List A -> Res} (ct : Contract P glob f g) (hg : GlobOk glob S) (h : NSt w0 S0 w S L) {args : List A} {vals : List Value}
    (hrel : ArgsRel (hp w) S args vals (fun _ => [])) {y : (g args).X} (hy : (g args).val = some y) :
    Calls P f vals.toArray w fun e w' => ∃ v S' o', e = .returned v /\ ARel (hp w') S' (fun _ => undef) ((g args).out y).1 v o' /\ Sub S S' /\ NSt w0 S0 w' S' L := by
  refine ((ct.2 w S args vals _ hrel h.inw hg y hy)).mono ?_
  rintro e w' ⟨v, S', q, ob', rfl, hwf, hSS, hSw, hnew, ⟨hr, _⟩, _⟩
  refine ⟨v, S', q, rfl, hr, hSS, ?_⟩
  have hwf' : WF w (fun _ => False) w' := ⟨hwf.size, fun k hk _ => hwf.same k hk (by rintro ⟨i, hi⟩; cases hi), hwf.tape, hwf.os, hwf.output⟩
  have hnw : ∀ k, k < w.heap.size -> S' k ≠ none -> S k ≠ none := fun k hk hs => by
    rcases hnew k hs with h | ⟨i, hi⟩ | h
    . exact h
    . cases hi
    . omega
  refine ⟨h.wf.trans hwf' (fun _ h => h.elim), h.sub.trans hSS, hSw, fun k hk => ?_, fun p hp => ?_⟩
  . rcases hnew k hk with h' | ⟨i, hi⟩ | h'
    . exact h.new k h'
    . cases hi
    . exact .inr (Nat.le_trans h.wf.size h')
  . obtain ⟨p1, p3, p4⟩ := h.own p hp
    have hl := (Array.getElem?_eq_some_iff.1 p4).1
    refine ⟨?_, p3, ?_⟩
    . cases hs : S' p.1 with
      | none => rfl
      | some q => exact absurd p1 (hnw _ hl (by rw [hs]; simp))
    . rw [hwf'.same p.1 hl (fun h => h)]; exact p4

theorem NSt.ends {args outs : List A} {vals : List Value} {ob : Nat -> List Nat} {r : A} {v : Value} (h : NSt w0 S0 w S L) (hob : ∀ i, ob i = []) (hargs : ∀ y ∈ args, z4x y = false)
    (hr : ARel (hp w) S (fun _ => undef) r v []) (hrr : r.refs = []) : Ends w0 S0 args vals ob r outs (.returned v) w := by
  refine ⟨v, S, [], fun _ => [], rfl, ⟨h.wf.size, fun k hk _ => h.wf.same k hk (fun h => h), h.wf.tape, h.wf.os, h.wf.output⟩, h.sub, h.inw, fun k hk => ?_, ⟨hr, hrr⟩, (fun k hk => by cases hk), .nil, fun i y hy hbx => ?_, (fun i k hk => by cases hk), (fun i j k hi => by cases hi), fun i => .nil, fun i hi => rfl⟩
  . rcases h.new k hk with h | h
    . exact .inl h
    . exact .inr (.inr h)
  . have := hargs y (List.mem_of_getElem? hy)
    rw [hbx] at this; cases this

theorem NSt.lend3 {f : FuncId} {g : List A -> Res} (ct : ContractD P glob f g) (hg : GlobOk glob S) {t0 t1 t2 : T} {x0 : t0.den} {x1 : t1.den} {x2 : t2.den} {p0 p1 p2 E0 E1 E2 : Nat} {c0 c1 c2 : Array Value}
    (h : NSt w0 S0 w S ((p0, c0, E0) :: (p1, c1, E1) :: (p2, c2, E2) :: L)) (h01 : p0 ≠ p1) (h02 : p0 ≠ p2) (h12 : p1 ≠ p2) (r0 : Rd S t0 x0 c0.toList) (r1 : Rd S t1 x1 c1.toList) (r2 : Rd S t2 x2 c2.toList)
    (n0 : noOwn t0 = true) (n1 : noOwn t1 = true) (n2 : noOwn t2 = true) {y : (g [.box t0 x0, .box t1 x1, .box t2 x2]).X} (hy : (g [.box t0 x0, .box t1 x1, .box t2 x2]).val = some y) {y0 : t0.den} {y1 : t1.den} {y2 : t2.den}
    (ho : ((g [.box t0 x0, .box t1 x1, .box t2 x2]).out y).2 = [.box t0 y0, .box t1 y1, .box t2 y2]) :
    CallsD P f #[.pointer (some ⟨p0, 0, none⟩), .pointer (some ⟨p1, 0, none⟩), .pointer (some ⟨p2, 0, none⟩)] .returning w fun e u w' => (∃ v, e = .returned v) /\ u = .returning /\ ∃ S' d1 d2 F1 F2 q1 q2, Sub S S' /\ NSt w0 S0 w' S' [] ∧
      w'.heap[p1]? = some (.cells d1 F1 q1) /\ w'.heap[p2]? = some (.cells d2 F2 q2) /\ Rd S' t1 y1 d1.toList /\ Rd S' t2 y2 d2.toList := by
  obtain ⟨a1, a3, a4⟩ := h.own (p0, c0, E0) (by simp)
  obtain ⟨b1, b3, b4⟩ := h.own (p1, c1, E1) (by simp)
  obtain ⟨e1, e3, e4⟩ := h.own (p2, c2, E2) (by simp)
  simp only at a1 a3 a4 b1 b3 b4 e1 e3 e4
  have har : ArgsRel (hp w) S [.box t0 x0, .box t1 x1, .box t2 x2] [.pointer (some ⟨p0, 0, none⟩), .pointer (some ⟨p1, 0, none⟩), .pointer (some ⟨p2, 0, none⟩)] (fun i => match i with | 0 => [p0] | 1 => [p1] | 2 => [p2] | _ => []) := by
    refine ⟨rfl, fun i x hx => ?_, fun i hi => ?_, fun i j b hi hj => ?_, fun i => ?_, fun i b hb => ?_⟩
    . match i with
      | 0 => simp at hx; subst hx; exact ⟨⟨_, rfl, ⟨p0, c0, E0, (0, 0), [], rfl, rfl, a4, zbc _, RdO.of_rd t0 x0 _ r0⟩⟩, rfl⟩
      | 1 => simp at hx; subst hx; exact ⟨⟨_, rfl, ⟨p1, c1, E1, (0, 0), [], rfl, rfl, b4, zbc _, RdO.of_rd t1 x1 _ r1⟩⟩, rfl⟩
      | 2 => simp at hx; subst hx; exact ⟨⟨_, rfl, ⟨p2, c2, E2, (0, 0), [], rfl, rfl, e4, zbc _, RdO.of_rd t2 x2 _ r2⟩⟩, rfl⟩
      | i + 3 => simp at hx
    . match i with
      | 0 => simp at hi
      | 1 => simp at hi
      | 2 => simp at hi
      | i + 3 => rfl
    . match i, j with
      | 0, 0 => rfl
      | 1, 1 => rfl
      | 2, 2 => rfl
      | i + 3, _ => cases hi
      | 0, 1 => simp at hi hj; omega
      | 0, 2 => simp at hi hj; omega
      | 1, 0 => simp at hi hj; omega
      | 1, 2 => simp at hi hj; omega
      | 2, 0 => simp at hi hj; omega
      | 2, 1 => simp at hi hj; omega
      | 0, j + 3 => cases hj
      | 1, j + 3 => cases hj
      | 2, j + 3 => cases hj
    . match i with
      | 0 => simp
      | 1 => simp
      | 2 => simp
      | i + 3 => exact .nil
    . match i with
      | 0 => simp at hb; subst hb; exact a1
      | 1 => simp at hb; subst hb; exact b1
      | 2 => simp at hb; subst hb; exact e1
      | i + 3 => cases hb
  have hbl : ∀ b, (∃ i, b ∈ (fun i => match i with | 0 => [p0] | 1 => [p1] | 2 => [p2] | _ => [] : Nat -> List Nat) i) -> w0.heap.size <= b := by
    rintro b ⟨i, hi⟩
    match i with
    | 0 => simp at hi; omega
    | 1 => simp at hi; omega
    | 2 => simp at hi; omega
    | i + 3 => simp at hi
  refine CallsD.mono (ct w S _ _ _ har h.inw hg y hy) ?_
  rintro e u w' ⟨rfl, v, S', q, ob', rfl, hwf, hSS, hSw, hnew, _, _, _, houts, _⟩
  refine ⟨⟨v, rfl⟩, rfl, S', ?_⟩
  rw [ho] at houts
  obtain ⟨z1, v1, hz1, hv1, _, hA1⟩ := houts 1 _ rfl rfl
  obtain ⟨z2, v2, hz2, hv2, _, hA2⟩ := houts 2 _ rfl rfl
  simp at hz1 hv1 hz2 hv2
  subst hz1; subst hv1; subst hz2; subst hv2
  obtain ⟨b1', d1, F1, q1, bs1, _, g1, hb1, _, hr1⟩ := hA1
  obtain ⟨b2', d2, F2, q2, bs2, _, g2, hb2, _, hr2⟩ := hA2
  cases g1; cases g2
  refine ⟨d1, d2, F1, F2, q1, q2, hSS, ⟨⟨by have := h.wf.size; have := hwf.size; omega, fun k hk _ => ?_, hwf.tape.trans h.wf.tape, hwf.os.trans h.wf.os, hwf.output.trans h.wf.output⟩, h.sub.trans hSS, hSw, fun k hk => ?_, fun p hp => by cases hp⟩, hb1, hb2, (RdO.rd t1 y1 _ _ n1 hr1).2, (RdO.rd t2 y2 _ _ n2 hr2).2⟩
  . rw [hwf.same k (Nat.lt_of_lt_of_le hk h.wf.size) (fun hh => by have := hbl k hh; omega)]
    exact h.wf.same k hk (fun h => h)
  . rcases hnew k hk with h' | h' | h'
    . exact h.new k h'
    . exact .inr (hbl k h')
    . exact .inr (Nat.le_trans h.wf.size h')

end
end Go.Lift

set_option linter.all false
set_option maxRecDepth 100000
namespace Go.Proofs.YtlohplpnhopldaaLg
noncomputable section
open Go Go.Lift Go.Proofs

def znr (l : List EvT.den) : List Value := l.flatMap fun e => [.int .i64 e.1, .string ⟨⟨e.2.1⟩⟩, .int .i64 e.2.2.1, .int .i64 e.2.2.2.1, .string ⟨⟨e.2.2.2.2.1⟩⟩]

theorem z167 {S : Hp} : ∀ (l : List EvT.den), All (Rd S EvT) l (znr l)
  | [] => rfl
  | e :: l => ⟨[.int .i64 e.1, .string ⟨⟨e.2.1⟩⟩, .int .i64 e.2.2.1, .int .i64 e.2.2.2.1, .string ⟨⟨e.2.2.2.2.1⟩⟩], znr l, rfl, ⟨[_], [_, _, _, _], rfl, rfl, [_], [_, _, _], rfl, rfl, [_], [_, _], rfl, rfl, [_], [_], rfl, rfl, [_], [], rfl, rfl, rfl⟩, z167 l⟩

theorem z15h {S : Hp} {b n : Nat} {l : List EvT.den} {cs : Array Value} {E : Nat} {fr : Nat × Nat} (hS : S b = some (.cells cs E fr)) (hc : cs.toList = znr l) (hn : n = l.length) : VR S (.sl EvT) l (.slice (some ⟨b, 0, none⟩) n n) := by
  subst hn
  exact VR.of_one rfl ⟨_, l.length, rfl, Nat.le_refl _, .inr ⟨b, 0, znr l, rfl, ⟨_, _, _, [], [], hS, by simp [hc], rfl⟩, z167 l⟩⟩

abbrev PlT : List T := [.sl EvT, .int .i64]

theorem z12o (N : Nat) {f : FuncId} (ct : ContractD Go.Proofs.Try.prog zh f (z5l N)) {w0 w : World} {S0 S : Hp} {L : List (Nat × Array Value × Nat)} {ts : List TenT.den} {sv : Value} {ser : Int} {l : List EvT.den} {lv : Value} {c : Int} {z : List EvT.den × (Int × Unit)} {p0 p1 p2 : Nat}
    (h : NSt w0 S0 w S ((p0, #[sv, .int .i64 ser], 24) :: (p1, #[lv], 28) :: (p2, #[.int .i64 c], 29) :: L)) (h01 : p0 ≠ p1) (h02 : p0 ≠ p2) (h12 : p1 ≠ p2)
    (hs : VR S (.sl TenT) ts sv) (hl : VR S (.sl EvT) l lv) (hz : z1g N (ts, (ser, ())) l c = some z) {vals : List Value} {ob : Nat -> List Nat} {args : List A} (hob : ∀ i, ob i = []) (hargs : ∀ y ∈ args, z4x y = false) :
    CallsD Go.Proofs.Try.prog f #[.pointer (some ⟨p0, 0, none⟩), .pointer (some ⟨p1, 0, none⟩), .pointer (some ⟨p2, 0, none⟩)] .returning w fun r u w7 => (∃ v, r = .returned v) /\ u = .returning /\ ∃ q : Value, w7.cell? ⟨p1, 0, none⟩ = some q /\ w7.cell? ⟨p2, 0, none⟩ = some (.int .i64 z.2.1) ∧
      Lift.Ends w0 S0 args vals ob (z4j (.tup PlT) 2 z).1 (z4j (.tup PlT) 2 z).2 (.returned (.tuple #[q, .int .i64 z.2.1])) w7 := by
  have r0 : Rd S StT (ts, (ser, ())) #[sv, .int .i64 ser].toList := ⟨[sv], [.int .i64 ser], rfl, hs, [.int .i64 ser], [], rfl, rfl, rfl⟩
  have hy : (z5l N [.box StT (ts, (ser, ())), .box (.sl EvT) l, .box (.int .i64) c]).val = some ((), ((ts, (ser, ())), (z.1, (z.2.1, ())))) := by
    show zbx N (ts, (ser, ())) l c = some _
    rw [zbx, hz]; rfl
  have hb := NSt.lend3 ct (z7o S) (t0 := StT) (t1 := .sl EvT) (t2 := .int .i64) (x0 := (ts, (ser, ()))) (x1 := l) (x2 := c) (y0 := (ts, (ser, ()))) (y1 := z.1) (y2 := z.2.1) h h01 h02 h12 r0 hl rfl rfl rfl rfl hy rfl
  refine CallsD.mono hb ?_
  rintro r u w7 ⟨hr, rfl, S', d1, d2, F1, F2, q1, q2, hSS, hN, g1, g2, k1, k2⟩
  have k2' : d2.toList = [.int .i64 z.2.1] := k2
  have e2 : d2 = #[.int .i64 z.2.1] := by apply Array.toList_inj.1; rw [k2']
  subst e2
  have hlen := k1.length
  obtain ⟨q, hq⟩ := List.length_eq_one_iff.1 (hlen.trans rfl)
  have e1 : d1 = #[q] := by apply Array.toList_inj.1; rw [hq]
  subst e1
  refine ⟨hr, rfl, q, by simp [World.cell?, g1], by simp [World.cell?, g2], hN.ends hob hargs ⟨rfl, _, rfl, .cons k1 (.cons VR.int .nil)⟩ rfl⟩

structure PSt (w : World) (S0 : Hp) (W : World) (S : Hp) (p0 p1 p2 : Nat) (sv : Value) (ser : Int) (lv : Value) (c : Int) (L : List (Nat × Array Value × Nat)) : Prop where
  st : NSt w S0 W S ((p0, #[sv, .int .i64 ser], 24) :: (p1, #[lv], 28) :: (p2, #[.int .i64 c], 29) :: L)
  d01 : p0 ≠ p1
  d02 : p0 ≠ p2
  d12 : p1 ≠ p2
  far : ∀ q ∈ L, q.1 ≠ p0 /\ q.1 ≠ p1 /\ q.1 ≠ p2

section
variable {w W : World} {S0 S : Hp} {p0 p1 p2 : Nat} {sv lv : Value} {ser c : Int} {L : List (Nat × Array Value × Nat)}

theorem PSt.gser (h : PSt w S0 W S p0 p1 p2 sv ser lv c L) : W.cell? ⟨p0, 1, none⟩ = some (.int .i64 ser) := h.st.cell (.head _) rfl
theorem PSt.gsv (h : PSt w S0 W S p0 p1 p2 sv ser lv c L) : W.cell? ⟨p0, 0, none⟩ = some sv := h.st.cell (.head _) rfl
theorem PSt.glv (h : PSt w S0 W S p0 p1 p2 sv ser lv c L) : W.cell? ⟨p1, 0, none⟩ = some lv := h.st.cell (.tail _ (.head _)) rfl
theorem PSt.glf (h : PSt w S0 W S p0 p1 p2 sv ser lv c L) : W.frozen? ⟨p1, 0, none⟩ = false := h.st.free (.tail _ (.head _))
theorem PSt.gcv (h : PSt w S0 W S p0 p1 p2 sv ser lv c L) : W.cell? ⟨p2, 0, none⟩ = some (.int .i64 c) := h.st.cell (.tail _ (.tail _ (.head _))) rfl
theorem PSt.gcf (h : PSt w S0 W S p0 p1 p2 sv ser lv c L) : W.frozen? ⟨p2, 0, none⟩ = false := h.st.free (.tail _ (.tail _ (.head _)))

theorem PSt.start (hS : Lift.Sub S0 (hp w)) (sv : Value) (ser : Int) : PSt w S0 (((w.alloc (Obj.cells #[sv, .int .i64 ser] 24)).alloc (Obj.cells #[.slice none 0 0] 28)).alloc (Obj.cells #[.int .i64 0] 29)) S0 w.heap.size (w.heap.size + 1) (w.heap.size + 1 + 1) sv ser (.slice none 0 0) 0 [] :=
  ⟨((((NSt.start hS).new' (p := w.heap.size) rfl #[sv, .int .i64 ser] 24).new' (p := w.heap.size + 1) (zxo _ _) #[.slice none 0 0] 28).new' (p := w.heap.size + 1 + 1) ((congrArg (· + 1) (zxo _ _)).trans (zxo _ _)) #[.int .i64 0] 29).swap (by
    intro q hq
    simp only [List.mem_cons, List.not_mem_nil, or_false] at hq ⊢
    rcases hq with rfl | rfl | rfl <;> simp), by omega, by omega, by omega, fun q hq => by cases hq⟩

theorem PSt.alloc (h : PSt w S0 W S p0 p1 p2 sv ser lv c L) (cs : Array Value) (E : Nat) : PSt w S0 (W.alloc (.cells cs E)) S p0 p1 p2 sv ser lv c ((W.heap.size, cs, E) :: L) := by
  have hlt := h.st.lt
  refine ⟨(h.st.alloc cs E).swap (by intro q hq; simp only [List.mem_cons] at hq ⊢; rcases hq with h | h | h | h | h <;> simp [h]), h.d01, h.d02, h.d12, fun q hq => ?_⟩
  rcases List.mem_cons.1 hq with rfl | hq
  . have a := hlt _ (.head _)
    have b := hlt _ (.tail _ (.head _))
    have d := hlt _ (.tail _ (.tail _ (.head _)))
    dsimp only at a b d ⊢
    omega
  . exact h.far q hq

theorem PSt.putL (h : PSt w S0 W S p0 p1 p2 sv ser lv c L) (u : Value) : PSt w S0 (W.setCell ⟨p1, 0, none⟩ u) S p0 p1 p2 sv ser u c L := by
  have d1 := h.d01
  have d2 := h.d12
  refine ⟨((h.st.swap (L' := (p1, #[lv], 28) :: (p0, #[sv, .int .i64 ser], 24) :: (p2, #[.int .i64 c], 29) :: L) (by intro q hq; simp only [List.mem_cons] at hq ⊢; rcases hq with h | h | h | h <;> simp [h])).set (fun q hq => ?_) 0 u).swap (by intro q hq; simp only [List.mem_cons] at hq ⊢; rcases hq with h | h | h | h <;> simp [h]), h.d01, h.d02, h.d12, h.far⟩
  simp only [List.mem_cons] at hq
  rcases hq with rfl | rfl | hq
  . exact d1
  . exact Ne.symm d2
  . exact (h.far q hq).2.1

theorem PSt.putC (h : PSt w S0 W S p0 p1 p2 sv ser lv c L) (u : Int) : PSt w S0 (W.setCell ⟨p2, 0, none⟩ (.int .i64 u)) S p0 p1 p2 sv ser lv u L := by
  have d1 := h.d02
  have d2 := h.d12
  refine ⟨((h.st.swap (L' := (p2, #[.int .i64 c], 29) :: (p0, #[sv, .int .i64 ser], 24) :: (p1, #[lv], 28) :: L) (by intro q hq; simp only [List.mem_cons] at hq ⊢; rcases hq with h | h | h | h <;> simp [h])).set (fun q hq => ?_) 0 (.int .i64 u)).swap (by intro q hq; simp only [List.mem_cons] at hq ⊢; rcases hq with h | h | h | h <;> simp [h]), h.d01, h.d02, h.d12, h.far⟩
  simp only [List.mem_cons] at hq
  rcases hq with rfl | rfl | hq
  . exact d1
  . exact d2
  . exact (h.far q hq).2.2

theorem PSt.row {b E : Nat} {cs : Array Value} (h : PSt w S0 W S p0 p1 p2 sv ser lv c ((b, cs, E) :: L)) (hb : ∀ q ∈ L, q.1 ≠ b) {l : List EvT.den} {n : Nat} (hc : cs.toList = znr l) (hn : n = l.length) :
    ∃ S', Lift.Sub S S' /\ VR S' (.sl EvT) l (.slice (some ⟨b, 0, none⟩) n n) /\ PSt w S0 W S' p0 p1 p2 sv ser lv c L := by
  have hf := h.far _ (.head _)
  dsimp only at hf
  have hg := (h.st.swap (L' := (b, cs, E) :: (p0, #[sv, .int .i64 ser], 24) :: (p1, #[lv], 28) :: (p2, #[.int .i64 c], 29) :: L) (by intro q hq; simp only [List.mem_cons] at hq ⊢; rcases hq with h | h | h | h | h <;> simp [h])).give (fun q hq => by
    simp only [List.mem_cons] at hq
    rcases hq with rfl | rfl | rfl | hq
    . exact Ne.symm hf.1
    . exact Ne.symm hf.2.1
    . exact Ne.symm hf.2.2
    . exact hb q hq)
  exact ⟨_, hg.2, z15h (if_pos rfl) hc hn, hg.1, h.d01, h.d02, h.d12, fun q hq => h.far q (.tail _ hq)⟩

theorem PSt.build (h : PSt w S0 W S p0 p1 p2 sv ser lv c L) {cs : Array Value} {E n : Nat} {l : List EvT.den} (hc : cs.toList = znr l) (hn : n = l.length) :
    ∃ S', Lift.Sub S S' /\ VR S' (.sl EvT) l (.slice (some ⟨W.heap.size, 0, none⟩) n n) /\ PSt w S0 ((W.alloc (.cells cs E)).setCell ⟨p1, 0, none⟩ (.slice (some ⟨W.heap.size, 0, none⟩) n n)) S' p0 p1 p2 sv ser (.slice (some ⟨W.heap.size, 0, none⟩) n n) c L := by
  have hlt := h.st.lt
  obtain ⟨S', h1, h2, h3⟩ := (h.alloc cs E).row (fun q hq => by have := hlt q (.tail _ (.tail _ (.tail _ hq))); omega) hc hn
  exact ⟨S', h1, h2, h3.putL _⟩

theorem PSt.plain {f : FuncId} {g : List A -> Res} (ct : Contract Go.Proofs.Try.prog zh f g) (h : PSt w S0 W S p0 p1 p2 sv ser lv c L) {args : List A} {vals : List Value}
    (hrel : ArgsRel (hp W) S args vals (fun _ => [])) {y : (g args).X} (hy : (g args).val = some y) :
    Calls Go.Proofs.Try.prog f vals.toArray W fun e w' => ∃ v S' o', e = .returned v /\ ARel (hp w') S' (fun _ => undef) ((g args).out y).1 v o' /\ Lift.Sub S S' /\ PSt w S0 w' S' p0 p1 p2 sv ser lv c L := by
  refine (h.st.plain ct (z7o S) hrel hy).mono ?_
  rintro e w' ⟨v, S', o', h1, h2, h3, h4⟩
  exact ⟨v, S', o', h1, h2, h3, h4, h.d01, h.d02, h.d12, h.far⟩

theorem PSt.out (h : PSt w S0 W S p0 p1 p2 sv ser lv c L) (N : Nat) {f : FuncId} (ct : ContractD Go.Proofs.Try.prog zh f (z5l N)) {ts : List TenT.den} {l : List EvT.den} {z : List EvT.den × (Int × Unit)}
    (hs : VR S (.sl TenT) ts sv) (hl : VR S (.sl EvT) l lv) (hz : z1g N (ts, (ser, ())) l c = some z) {vals : List Value} {ob : Nat -> List Nat} {args : List A} (hob : ∀ i, ob i = []) (hargs : ∀ y ∈ args, z4x y = false) :
    CallsD Go.Proofs.Try.prog f #[.pointer (some ⟨p0, 0, none⟩), .pointer (some ⟨p1, 0, none⟩), .pointer (some ⟨p2, 0, none⟩)] .returning W fun r u w7 => (∃ v, r = .returned v) /\ u = .returning /\ ∃ q : Value, w7.cell? ⟨p1, 0, none⟩ = some q /\ w7.cell? ⟨p2, 0, none⟩ = some (.int .i64 z.2.1) ∧
      Lift.Ends w S0 args vals ob (z4j (.tup PlT) 2 z).1 (z4j (.tup PlT) 2 z).2 (.returned (.tuple #[q, .int .i64 z.2.1])) w7 := z12o N ct h.st h.d01 h.d02 h.d12 hs hl hz hob hargs

theorem PSt.putTop {b E : Nat} {cs : Array Value} (h : PSt w S0 W S p0 p1 p2 sv ser lv c ((b, cs, E) :: L)) (hb : ∀ q ∈ L, q.1 ≠ b) (i : Nat) (u : Value) : PSt w S0 (W.setCell ⟨b, i, none⟩ u) S p0 p1 p2 sv ser lv c ((b, cs.setIfInBounds i u, E) :: L) := by
  have hf := h.far _ (.head _)
  dsimp only at hf
  refine ⟨((h.st.swap (L' := (b, cs, E) :: (p0, #[sv, .int .i64 ser], 24) :: (p1, #[lv], 28) :: (p2, #[.int .i64 c], 29) :: L) (by intro q hq; simp only [List.mem_cons] at hq ⊢; rcases hq with h | h | h | h | h <;> simp [h])).set (fun q hq => ?_) i u).swap (by intro q hq; simp only [List.mem_cons] at hq ⊢; rcases hq with h | h | h | h | h <;> simp [h]), h.d01, h.d02, h.d12, fun q hq => ?_⟩
  . simp only [List.mem_cons] at hq
    rcases hq with rfl | rfl | rfl | hq
    . exact Ne.symm hf.1
    . exact Ne.symm hf.2.1
    . exact Ne.symm hf.2.2
    . exact hb q hq
  . rcases List.mem_cons.1 hq with rfl | hq
    . exact hf
    . exact h.far q (.tail _ hq)

theorem PSt.topLt (h : PSt w S0 W S p0 p1 p2 sv ser lv c L) : ∀ q ∈ L, q.1 ≠ W.heap.size := fun q hq => by
  have := h.st.lt q (.tail _ (.tail _ (.tail _ hq)))
  omega

theorem PSt.topCell {b E i : Nat} {cs : Array Value} {v : Value} (h : PSt w S0 W S p0 p1 p2 sv ser lv c ((b, cs, E) :: L)) (hv : cs[i]? = some v) : W.cell? ⟨b, i, none⟩ = some v := h.st.cell (.tail _ (.tail _ (.tail _ (.head _)))) hv
theorem PSt.key (h : PSt w S0 W S p0 p1 p2 sv ser lv c []) (a b : Value) (cs : Array Value) (hcs : cs.size = 2) (E : Nat) : PSt w S0 (((W.alloc (.cells cs E)).setCell ⟨W.heap.size, 0, none⟩ a).setCell ⟨W.heap.size, 1, none⟩ b) S p0 p1 p2 sv ser lv c [(W.heap.size, #[a, b], E)] := by
  have h1 := ((h.alloc cs E).putTop h.topLt 0 a).putTop h.topLt 1 b
  have e : (cs.setIfInBounds 0 a).setIfInBounds 1 b = #[a, b] := by
    match cs, hcs with
    | ⟨[x, y]⟩, _ => rfl
  rwa [e] at h1

end

theorem z177 {S : Hp} {k : KeyT.den} {v : Value} (h : VR S KeyT k v) : v = .agg #[.int .i64 k.1, .string ⟨⟨k.2.1⟩⟩] := by
  obtain ⟨cs, rfl, d1, d2, q1, k1, d3, d4, q2, k2, k3⟩ := h
  have i1 : d1 = [.int .i64 k.1] := k1
  have i2 : d3 = [.string ⟨⟨k.2.1⟩⟩] := k2
  have i3 : d4 = [] := k3
  congr 1
  apply Array.toList_inj.1
  rw [q1, q2, i1, i2, i3]
  rfl

theorem zr9 (N : Nat) {w W : World} {S0 S : Hp} {p0 p1 p2 : Nat} {sv lv : Value} {ser c : Int} {L : List (Nat × Array Value × Nat)} (h : PSt w S0 W S p0 p1 p2 sv ser lv c L) {ts : List TenT.den} (hv : VR S (.sl TenT) ts sv) {tn : List UInt8} {y : KeyT.den × (Bool × Unit)} (hy : z5u N (ts, (ser, ())) tn = some y) :
    Calls Go.Proofs.Try.prog 17 #[.agg #[sv, .int .i64 ser], .string ⟨⟨tn⟩⟩] W fun e w' => ∃ S', e = .returned (.tuple #[.agg #[.int .i64 y.1.1, .string ⟨⟨y.1.2.1⟩⟩], .bool y.2.1]) /\ Lift.Sub S S' /\ PSt w S0 w' S' p0 p1 p2 sv ser lv c L := by
  refine (h.plain (zsg N) (z2k [(.v StT (ts, (ser, ())), .agg #[sv, .int .i64 ser]), (.v .str tn, .string ⟨⟨tn⟩⟩)] (fun p hp => by
    rcases List.mem_cons.1 hp with rfl | hp
    . exact ⟨⟨zpx hv, rfl⟩, rfl⟩
    . rw [List.mem_singleton.1 hp]; exact ⟨⟨VR.str, rfl⟩, rfl⟩)) (y := y) hy).mono ?_
  rintro e w' ⟨v, S', o', rfl, hr, h2, h3⟩
  obtain ⟨_, ⟨vs⟩, rfl, hvs⟩ := hr
  dsimp only at hvs
  cases hvs with
  | cons a1 hvs =>
    cases hvs with
    | cons a2 hvs =>
      cases hvs
      exact ⟨S', by rw [z177 a1, VR.bool_inv a2], h2, h3⟩

theorem z16v {S : Hp} {t : TenT.den} {v : Value} (h : VR S TenT t v) : ∃ ka kc, v = .agg #[.string ⟨⟨t.1⟩⟩, .int .i64 t.2.1, .int .i64 t.2.2.1, .slice ka t.2.2.2.1.length kc] := by
  obtain ⟨cs, rfl, d1, d2, e1, k1, d3, d4, e2, k2, d5, d6, e3, k3, d7, d8, e4, ⟨a, cap, k4, hcap, hk⟩, k5⟩ := h
  have i1 : d1 = [.string ⟨⟨t.1⟩⟩] := k1
  have i3 : d3 = [.int .i64 t.2.1] := k2
  have i5 : d5 = [.int .i64 t.2.2.1] := k3
  have i8 : d8 = [] := k5
  refine ⟨a, cap, ?_⟩
  congr 1
  apply Array.toList_inj.1
  rw [e1, e2, e3, e4, i1, i3, i5, k4, i8]
  rfl

section
variable {w W : World} {S0 S : Hp} {p0 p1 p2 : Nat} {sv lv : Value} {ser c : Int} {L : List (Nat × Array Value × Nat)}

theorem zkl (N : Nat) (h : PSt w S0 W S p0 p1 p2 sv ser lv c L) {ts : List TenT.den} (hv : VR S (.sl TenT) ts sv) {tn : List UInt8} {y : TenT.den × (Bool × Unit)} (hy : z80 N (ts, (ser, ())) tn = some y) :
    Calls Go.Proofs.Try.prog 39 #[.agg #[sv, .int .i64 ser], .string ⟨⟨tn⟩⟩] W fun e w' => ∃ ka kc S', e = .returned (.tuple #[.agg #[.string ⟨⟨y.1.1⟩⟩, .int .i64 y.1.2.1, .int .i64 y.1.2.2.1, .slice ka y.1.2.2.2.1.length kc], .bool y.2.1]) /\ Lift.Sub S S' /\ PSt w S0 w' S' p0 p1 p2 sv ser lv c L := by
  refine (h.plain (zwm N) (z2k [(.v StT (ts, (ser, ())), .agg #[sv, .int .i64 ser]), (.v .str tn, .string ⟨⟨tn⟩⟩)] (fun p hp => by
    rcases List.mem_cons.1 hp with rfl | hp
    . exact ⟨⟨zpx hv, rfl⟩, rfl⟩
    . rw [List.mem_singleton.1 hp]; exact ⟨⟨VR.str, rfl⟩, rfl⟩)) (y := y) hy).mono ?_
  rintro e w' ⟨v, S', o', rfl, hr, h2, h3⟩
  obtain ⟨_, ⟨vs⟩, rfl, hvs⟩ := hr
  dsimp only at hvs
  cases hvs with
  | cons a1 hvs =>
    cases hvs with
    | cons a2 hvs =>
      cases hvs
      obtain ⟨ka, kc, e1⟩ := z16v a1
      exact ⟨ka, kc, S', by rw [e1, VR.bool_inv a2], h2, h3⟩

theorem z11e (N : Nat) (h : PSt w S0 W S p0 p1 p2 sv ser lv c L) {ts : List TenT.den} (hv : VR S (.sl TenT) ts sv) {tn : List UInt8} {num : Int} {y : List UInt8 × (Bool × Unit)} (hy : zhc N (ts, (ser, ())) tn num = some y) :
    Calls Go.Proofs.Try.prog 18 #[.agg #[sv, .int .i64 ser], .string ⟨⟨tn⟩⟩, .int .i64 num] W fun e w' => ∃ S', e = .returned (.tuple #[.string ⟨⟨y.1⟩⟩, .bool y.2.1]) /\ Lift.Sub S S' /\ PSt w S0 w' S' p0 p1 p2 sv ser lv c L := by
  refine (h.plain (zxx N) (z2k [(.v StT (ts, (ser, ())), .agg #[sv, .int .i64 ser]), (.v .str tn, .string ⟨⟨tn⟩⟩), (.v (.int .i64) num, .int .i64 num)] (fun p hp => by
    rcases List.mem_cons.1 hp with rfl | hp
    . exact ⟨⟨zpx hv, rfl⟩, rfl⟩
    . rcases List.mem_cons.1 hp with rfl | hp
      . exact ⟨⟨VR.str, rfl⟩, rfl⟩
      . rw [List.mem_singleton.1 hp]; exact ⟨⟨VR.int, rfl⟩, rfl⟩)) (y := y) hy).mono ?_
  rintro e w' ⟨v, S', o', rfl, hr, h2, h3⟩
  obtain ⟨_, ⟨vs⟩, rfl, hvs⟩ := hr
  dsimp only at hvs
  cases hvs with
  | cons a1 hvs =>
    cases hvs with
    | cons a2 hvs =>
      cases hvs
      exact ⟨S', by rw [VR.str_inv a1, VR.bool_inv a2], h2, h3⟩

theorem zxm (N : Nat) (h : PSt w S0 W S p0 p1 p2 sv ser lv c L) {tn : List UInt8} {y : Bool} (hy : z82 N tn = some y) :
    Calls Go.Proofs.Try.prog 40 #[.string ⟨⟨tn⟩⟩] W fun e w' => ∃ S', e = .returned (.bool y) /\ Lift.Sub S S' /\ PSt w S0 w' S' p0 p1 p2 sv ser lv c L := by
  refine (h.plain (zgv N) (z2k [(.v .str tn, .string ⟨⟨tn⟩⟩)] (fun p hp => by
    rw [List.mem_singleton.1 hp]; exact ⟨⟨VR.str, rfl⟩, rfl⟩)) (y := y) hy).mono ?_
  rintro e w' ⟨v, S', o', rfl, hr, h2, h3⟩
  exact ⟨S', by rw [VR.bool_inv hr.1], h2, h3⟩

theorem zml (N : Nat) (h : PSt w S0 W S p0 p1 p2 sv ser lv c L) (tn : List UInt8) (ep nx : Int) :
    Calls Go.Proofs.Try.prog 28 #[.string ⟨⟨tn⟩⟩, .int .i64 ep, .int .i64 nx] W fun e w' => ∃ S', e = .returned (evV 1 tn nx ep []) /\ Lift.Sub S S' /\ PSt w S0 w' S' p0 p1 p2 sv ser lv c L := by
  refine (h.plain (zb2 N) (z2k [(.v .str tn, .string ⟨⟨tn⟩⟩), (.v (.int .i64) ep, .int .i64 ep), (.v (.int .i64) nx, .int .i64 nx)] (fun p hp => by
    rcases List.mem_cons.1 hp with rfl | hp
    . exact ⟨⟨VR.str, rfl⟩, rfl⟩
    . rcases List.mem_cons.1 hp with rfl | hp
      . exact ⟨⟨VR.int, rfl⟩, rfl⟩
      . rw [List.mem_singleton.1 hp]; exact ⟨⟨VR.int, rfl⟩, rfl⟩)) (y := ((1 : Int), (tn, (nx, (ep, (([] : List UInt8), ())))))) rfl).mono ?_
  rintro e w' ⟨v, S', o', rfl, hr, h2, h3⟩
  exact ⟨S', by rw [z140 hr.1], h2, h3⟩

theorem ztx (N : Nat) (h : PSt w S0 W S p0 p1 p2 sv ser lv c L) (tn : List UInt8) (nu : Int) (tx : List UInt8) :
    Calls Go.Proofs.Try.prog 29 #[.string ⟨⟨tn⟩⟩, .int .i64 nu, .string ⟨⟨tx⟩⟩] W fun e w' => ∃ S', e = .returned (evV 2 tn nu 0 tx) /\ Lift.Sub S S' /\ PSt w S0 w' S' p0 p1 p2 sv ser lv c L := by
  refine (h.plain (zev N) (z2k [(.v .str tn, .string ⟨⟨tn⟩⟩), (.v (.int .i64) nu, .int .i64 nu), (.v .str tx, .string ⟨⟨tx⟩⟩)] (fun p hp => by
    rcases List.mem_cons.1 hp with rfl | hp
    . exact ⟨⟨VR.str, rfl⟩, rfl⟩
    . rcases List.mem_cons.1 hp with rfl | hp
      . exact ⟨⟨VR.int, rfl⟩, rfl⟩
      . rw [List.mem_singleton.1 hp]; exact ⟨⟨VR.str, rfl⟩, rfl⟩)) (y := ((2 : Int), (tn, (nu, ((0 : Int), (tx, ())))))) rfl).mono ?_
  rintro e w' ⟨v, S', o', rfl, hr, h2, h3⟩
  exact ⟨S', by rw [z140 hr.1], h2, h3⟩
end

end
end Go.Proofs.YtlohplpnhopldaaLg

set_option linter.all false
set_option maxRecDepth 100000
namespace Go.Proofs.YtlohplpnhopldaaLg
noncomputable section
open Go Go.Lift Go.Proofs

def zgq (N : Nat) (s : StT.den) (tn : List UInt8) : Option (List EvT.den × (Int × Unit)) :=
 (z5u N s tn).bind fun f => z1g N s [((4 : Int), (([] : List UInt8), (Go.RowKit.wrap64 (s.2.1 + 1), ((0 : Int), (([] : List UInt8), ())))))] (if f.2.1 = false then 6 else if 1099511627776 <= s.2.1 then 3 else 0)

def ze7 (N : Nat) : List A -> Res := z1x [(0, .v StT), (0, .v .str)] (fun x => zgq N x.1 x.2.1) (z4j (.tup PlT) 2)

set_option maxHeartbeats 30000000 in
theorem zoh (N : Nat) : Contract Go.Proofs.Try.prog zh 20 (ze7 N) := by
  refine Contract.hand ⟨_, Go.Proofs.Try.func20, by kernel_rfl, by decide⟩ ?_
  intro w S vals ob x y har hS hg hy
  obtain ⟨⟨ts, ser, u0⟩, tn, u⟩ := x
  cases u; cases u0
  dsimp only at hy
  obtain ⟨⟨v0, hv0, hA0, ho0⟩, _⟩ := har.rel 0 _ rfl
  obtain ⟨⟨v1, hv1, hA1, ho1⟩, _⟩ := har.rel 1 _ rfl
  have hvals : vals = [v0, v1] := by
    match vals, har.len, hv0, hv1 with
    | [a0, a1], _, h0, h1 => simp at h0 h1; rw [h0, h1]
  subst hvals
  have hob : ∀ i, ob i = [] := by
    intro i
    match i with
    | 0 => exact ho0
    | 1 => exact ho1
    | i + 2 => exact har.out _ (by simp [mkS, z7p])
  have hargs : ∀ y ∈ mkS [(0, .v StT), (0, .v .str)] 0 ((ts, (ser, ())), (tn, ())), z4x y = false := by
    intro y hy
    simp [mkS, z7p, AS.mk] at hy
    rcases hy with rfl | rfl <;> rfl
  have e1 := hA1.str_inv
  subst e1
  obtain ⟨sv, rfl, hsv⟩ := zjl hA0
  obtain ⟨sa, scap, _, hsl, _, _, _⟩ := z9v hsv
  unfold zgq at hy
  try dsimp only at hy
  suffices HX : ∀ R : Ending -> World -> Prop, Go.RowKit.Hid (∀ q w', Lift.Ends w S (mkS [(0, .v StT), (0, .v .str)] 0 ((ts, (ser, ())), (tn, ()))) [.agg #[sv, .int .i64 ser], .string ⟨⟨tn⟩⟩] ob (z4j (.tup PlT) 2 y).1 (z4j (.tup PlT) 2 y).2 (.returned (.tuple #[q, .int .i64 y.2.1])) w' -> R (.returned (.tuple #[q, .int .i64 y.2.1])) w') -> Calls Go.Proofs.Try.prog 20 #[.agg #[sv, .int .i64 ser], .string ⟨⟨tn⟩⟩] w R from
    (HX (fun r w' => Lift.Ends w S (mkS [(0, .v StT), (0, .v .str)] 0 ((ts, (ser, ())), (tn, ()))) [.agg #[sv, .int .i64 ser], .string ⟨⟨tn⟩⟩] ob (z4j (.tup PlT) 2 y).1 (z4j (.tup PlT) 2 y).2 r w') (Go.Lib.hid (fun q w' h => h)))
  intro R HR
  have h3 := PSt.start hS sv ser
  subst hsl
  clear har hv0 hA0 hv1 hA1
  obtain ⟨sn, hsn⟩ : ∃ n, n = ts.length := ⟨_, rfl⟩
  rw [<- hsn] at h3 HR hsv ⊢
  have HSN := Go.Lib.hid hsn
  clear hsn
  go_enter_defers Go.Proofs.Try.func20, Go.Proofs.Try.ntmps20
  go_upto_region 2 with (fail)
  obtain ⟨A3, hA3⟩ : ∃ A3, A3 = (((w.alloc (Obj.cells #[.slice sa sn scap, .int .i64 ser] 24)).alloc (Obj.cells #[.slice none 0 0] 28)).alloc (Obj.cells #[.int .i64 0] 29)) := ⟨_, rfl⟩
  obtain ⟨p2, hp2⟩ : ∃ p, p = w.heap.size + 1 + 1 := ⟨_, rfl⟩
  obtain ⟨p1, hp1⟩ : ∃ p, p = w.heap.size + 1 := ⟨_, rfl⟩
  obtain ⟨p0, hp0⟩ : ∃ p, p = w.heap.size := ⟨_, rfl⟩
  rw [<- hA3, <- hp2, <- hp1, <- hp0] at h3 ⊢
  clear hA3 hp0 hp1 hp2
  obtain ⟨f, hf, hz⟩ := Option.bind_eq_some_iff.1 hy
  clear hy
  have k1 := h3.gser
  have f1 := fun cs E => (h3.alloc cs E).glf
  have c1 := fun cs E => (h3.alloc cs E).glv
  obtain ⟨S5, s5, v5, h5⟩ := h3.build (E := 51) (cs := #[.int .i64 4, .string ⟨#[]⟩, .int .i64 (Go.RowKit.wrap64 (ser + 1)), .int .i64 0, .string ⟨#[]⟩]) (n := 1) (l := [((4 : Int), (([] : List UInt8), (Go.RowKit.wrap64 (ser + 1), ((0 : Int), (([] : List UInt8), ())))))]) rfl rfl
  have H5 := Go.Lib.hid h5
  clear h3 h5
  go_upto_region 3 with (fail)
  have h5 := H5.out
  obtain ⟨A5, hA5⟩ : ∃ A5, A5 = (A3.alloc (Obj.cells #[.int .i64 4, .string ⟨#[]⟩, .int .i64 (Go.RowKit.wrap64 (ser + 1)), .int .i64 0, .string ⟨#[]⟩] 51)).setCell ⟨p1, 0, none⟩ (.slice (some ⟨A3.heap.size, 0, none⟩) 1 1) := ⟨_, rfl⟩
  obtain ⟨lb, hlb⟩ : ∃ lb, lb = A3.heap.size := ⟨_, rfl⟩
  rw [<- hA5] at h5 ⊢
  rw [<- hlb] at h5 v5 ⊢
  clear hA5 hlb H5 f1 c1
  clear k1
  have k0 := h5.gsv
  have k1 := h5.gser
  have hcn := zr9 N h5 (hsv.mono s5) hf
  obtain ⟨⟨fk, ft, u1⟩, fb, u2⟩ := f
  cases u1; cases u2
  clear h5
  go_upto_region 4 with (go_at_call 17; refine hcn.mono ?_; rintro _ w6 ⟨S6, rfl, s6, h6⟩; have H6 := Go.Lib.hid h6; have s6' := s6; clear h6 s6 hcn)
  have h7 := H6.out.alloc #[.int .i64 fk, .string ⟨⟨ft⟩⟩] 43
  obtain ⟨A7, hA7⟩ : ∃ A7, A7 = w6.alloc (Obj.cells #[.int .i64 fk, .string ⟨⟨ft⟩⟩] 43) := ⟨_, rfl⟩
  rw [<- hA7] at h7 ⊢
  clear hA7
  have l1 := h7.glv
  have l2 := h7.glf
  have l3 := (h7.putL (.slice (some ⟨lb, 0, none⟩) 1 1)).gcv
  have l4 := (h7.putL (.slice (some ⟨lb, 0, none⟩) 1 1)).gcf
  have k1 := h7.gser
  have H7 := Go.Lib.hid h7
  clear h7 k0
  rcases fb with _ | _
  . rw [if_pos rfl] at hz
    go_wp2
    refine leaves_cons (f := 41) (args := #[.pointer (some ⟨p0, 0, none⟩), .pointer (some ⟨p1, 0, none⟩), .pointer (some ⟨p2, 0, none⟩)]) (by simp) (by simp [go_sem]) ?_
    refine (((H7.out.putL (.slice (some ⟨lb, 0, none⟩) 1 1)).putC 6).out N (zco N) (vals := [.agg #[.slice sa sn scap, .int .i64 ser], .string ⟨⟨tn⟩⟩]) (hsv.mono (s5.trans s6')) (v5.mono s6') hz hob hargs).mono ?_
    rintro r u w7 ⟨⟨v, rfl⟩, rfl, q, c1, c2, hend⟩
    refine ⟨_, ?_, HR.out _ _ hend⟩
    simp [results, Go.Proofs.Try.results20, go_sem, c1, c2]
  . rw [if_neg (by decide)] at hz
    by_cases hlim : 1099511627776 <= ser
    . rw [if_pos hlim] at hz
      go_wp2
      refine leaves_cons (f := 41) (args := #[.pointer (some ⟨p0, 0, none⟩), .pointer (some ⟨p1, 0, none⟩), .pointer (some ⟨p2, 0, none⟩)]) (by simp) (by simp [go_sem]) ?_
      refine (((H7.out.putL (.slice (some ⟨lb, 0, none⟩) 1 1)).putC 3).out N (zco N) (vals := [.agg #[.slice sa sn scap, .int .i64 ser], .string ⟨⟨tn⟩⟩]) (hsv.mono (s5.trans s6')) (v5.mono s6') hz hob hargs).mono ?_
      rintro r u w7 ⟨⟨v, rfl⟩, rfl, q, c1, c2, hend⟩
      refine ⟨_, ?_, HR.out _ _ hend⟩
      simp [results, Go.Proofs.Try.results20, go_sem, c1, c2]
    . rw [if_neg hlim] at hz
      go_wp2
      refine leaves_cons (f := 41) (args := #[.pointer (some ⟨p0, 0, none⟩), .pointer (some ⟨p1, 0, none⟩), .pointer (some ⟨p2, 0, none⟩)]) (by simp) (by simp [go_sem]) ?_
      refine (((H7.out.putL (.slice (some ⟨lb, 0, none⟩) 1 1)).putC 0).out N (zco N) (vals := [.agg #[.slice sa sn scap, .int .i64 ser], .string ⟨⟨tn⟩⟩]) (hsv.mono (s5.trans s6')) (v5.mono s6') hz hob hargs).mono ?_
      rintro r u w7 ⟨⟨v, rfl⟩, rfl, q, c1, c2, hend⟩
      refine ⟨_, ?_, HR.out _ _ hend⟩
      simp [results, Go.Proofs.Try.results20, go_sem, c1, c2]

end
end Go.Proofs.YtlohplpnhopldaaLg

set_option linter.all false
set_option maxRecDepth 100000
namespace Go.Proofs.YtlohplpnhopldaaLg
noncomputable section
open Go Go.Lift Go.Proofs

def ze5 (N : Nat) (s : StT.den) (tn : List UInt8) : Option (List EvT.den × (Int × Unit)) :=
 (z80 N s tn).bind fun f => z1g N s [((1 : Int), (tn, (f.1.2.2.1, (Go.RowKit.wrap64 (f.1.2.1 + 1), (([] : List UInt8), ())))))] (if f.2.1 = false then 6 else if 1099511627776 <= f.1.2.1 then 3 else 0)

def zgn (N : Nat) : List A -> Res := z1x [(0, .v StT), (0, .v .str)] (fun x => ze5 N x.1 x.2.1) (z4j (.tup PlT) 2)

set_option maxHeartbeats 30000000 in
theorem zsq (N : Nat) : Contract Go.Proofs.Try.prog zh 23 (zgn N) := by
  refine Contract.hand ⟨_, Go.Proofs.Try.func23, by kernel_rfl, by decide⟩ ?_
  intro w S vals ob x y har hS hg hy
  obtain ⟨⟨ts, ser, u0⟩, tn, u⟩ := x
  cases u; cases u0
  dsimp only at hy
  obtain ⟨⟨v0, hv0, hA0, ho0⟩, _⟩ := har.rel 0 _ rfl
  obtain ⟨⟨v1, hv1, hA1, ho1⟩, _⟩ := har.rel 1 _ rfl
  have hvals : vals = [v0, v1] := by
    match vals, har.len, hv0, hv1 with
    | [a0, a1], _, h0, h1 => simp at h0 h1; rw [h0, h1]
  subst hvals
  have hob : ∀ i, ob i = [] := by
    intro i
    match i with
    | 0 => exact ho0
    | 1 => exact ho1
    | i + 2 => exact har.out _ (by simp [mkS, z7p])
  have hargs : ∀ y ∈ mkS [(0, .v StT), (0, .v .str)] 0 ((ts, (ser, ())), (tn, ())), z4x y = false := by
    intro y hy
    simp [mkS, z7p, AS.mk] at hy
    rcases hy with rfl | rfl <;> rfl
  have e1 := hA1.str_inv
  subst e1
  obtain ⟨sv, rfl, hsv⟩ := zjl hA0
  obtain ⟨sa, scap, _, hsl, _, _, _⟩ := z9v hsv
  unfold ze5 at hy
  try dsimp only at hy
  suffices HX : ∀ R : Ending -> World -> Prop, Go.RowKit.Hid (∀ q w', Lift.Ends w S (mkS [(0, .v StT), (0, .v .str)] 0 ((ts, (ser, ())), (tn, ()))) [.agg #[sv, .int .i64 ser], .string ⟨⟨tn⟩⟩] ob (z4j (.tup PlT) 2 y).1 (z4j (.tup PlT) 2 y).2 (.returned (.tuple #[q, .int .i64 y.2.1])) w' -> R (.returned (.tuple #[q, .int .i64 y.2.1])) w') -> Calls Go.Proofs.Try.prog 23 #[.agg #[sv, .int .i64 ser], .string ⟨⟨tn⟩⟩] w R from
    (HX (fun r w' => Lift.Ends w S (mkS [(0, .v StT), (0, .v .str)] 0 ((ts, (ser, ())), (tn, ()))) [.agg #[sv, .int .i64 ser], .string ⟨⟨tn⟩⟩] ob (z4j (.tup PlT) 2 y).1 (z4j (.tup PlT) 2 y).2 r w') (Go.Lib.hid (fun q w' h => h)))
  intro R HR
  have h3 := PSt.start hS sv ser
  subst hsl
  clear har hv0 hA0 hv1 hA1
  obtain ⟨sn, hsn⟩ : ∃ n, n = ts.length := ⟨_, rfl⟩
  rw [<- hsn] at h3 HR hsv ⊢
  have HSN := Go.Lib.hid hsn
  clear hsn
  go_enter_defers Go.Proofs.Try.func23, Go.Proofs.Try.ntmps23
  go_upto_region 2 with (fail)
  obtain ⟨A3, hA3⟩ : ∃ A3, A3 = (((w.alloc (Obj.cells #[.slice sa sn scap, .int .i64 ser] 24)).alloc (Obj.cells #[.slice none 0 0] 28)).alloc (Obj.cells #[.int .i64 0] 29)) := ⟨_, rfl⟩
  obtain ⟨p2, hp2⟩ : ∃ p, p = w.heap.size + 1 + 1 := ⟨_, rfl⟩
  obtain ⟨p1, hp1⟩ : ∃ p, p = w.heap.size + 1 := ⟨_, rfl⟩
  obtain ⟨p0, hp0⟩ : ∃ p, p = w.heap.size := ⟨_, rfl⟩
  rw [<- hA3, <- hp2, <- hp1, <- hp0] at h3 ⊢
  clear hA3 hp0 hp1 hp2
  obtain ⟨f, hf, hz⟩ := Option.bind_eq_some_iff.1 hy
  clear hy
  have k0 := h3.gsv
  have k1 := h3.gser
  have hcf := zkl N h3 hsv hf
  obtain ⟨⟨fn, fe, fx, fks, u1⟩, fb, u2⟩ := f
  cases u1; cases u2
  try dsimp only at hz
  try dsimp only at hcf
  obtain ⟨fl, hfl⟩ : ∃ n, n = fks.length := ⟨_, rfl⟩
  rw [<- hfl] at hcf
  clear h3 hfl
  go_upto_region 3 with (go_at_call 39; refine hcf.mono ?_; rintro _ w4 ⟨ka, kc, S4, rfl, s4, h4⟩; have H4 := Go.Lib.hid h4; have s4' := s4; clear h4 s4 hcf)
  have h4 := H4.out.alloc #[.string ⟨⟨fn⟩⟩, .int .i64 fe, .int .i64 fx, .slice ka fl kc] 41
  obtain ⟨A4, hA4⟩ : ∃ A4, A4 = w4.alloc (Obj.cells #[.string ⟨⟨fn⟩⟩, .int .i64 fe, .int .i64 fx, .slice ka fl kc] 41) := ⟨_, rfl⟩
  obtain ⟨tb, htb⟩ : ∃ b, b = w4.heap.size := ⟨_, rfl⟩
  rw [<- hA4, <- htb] at h4 ⊢
  clear hA4 htb H4 k0 k1
  have m1 : A4.cell? ⟨tb, 1, none⟩ = some (.int .i64 fe) := h4.topCell rfl
  have m2 : A4.cell? ⟨tb, 2, none⟩ = some (.int .i64 fx) := h4.topCell rfl
  have hce := zml N h4 tn (Go.RowKit.wrap64 (fe + 1)) fx
  unfold evV at hce
  clear h4
  go_upto_region 4 with (go_at_call 28; refine hce.mono ?_; rintro _ w5 ⟨S5, rfl, s5, h5⟩; have H5 := Go.Lib.hid h5; have s5' := s5; have f1 := fun cs E => (h5.alloc cs E).glf; have c1 := fun cs E => (h5.alloc cs E).glv; clear h5 s5 hce)
  obtain ⟨S6, s6, v6, h6⟩ := H5.out.build (E := 51) (cs := #[.int .i64 1, .string ⟨⟨tn⟩⟩, .int .i64 fx, .int .i64 (Go.RowKit.wrap64 (fe + 1)), .string ⟨#[]⟩]) (n := 1) (l := [((1 : Int), (tn, (fx, (Go.RowKit.wrap64 (fe + 1), (([] : List UInt8), ())))))]) rfl rfl
  obtain ⟨A6, hA6⟩ : ∃ A6, A6 = (w5.alloc (Obj.cells #[.int .i64 1, .string ⟨⟨tn⟩⟩, .int .i64 fx, .int .i64 (Go.RowKit.wrap64 (fe + 1)), .string ⟨#[]⟩] 51)).setCell ⟨p1, 0, none⟩ (.slice (some ⟨w5.heap.size, 0, none⟩) 1 1) := ⟨_, rfl⟩
  obtain ⟨lb, hlb⟩ : ∃ lb, lb = w5.heap.size := ⟨_, rfl⟩
  rw [<- hA6] at h6 ⊢
  rw [<- hlb] at h6 v6 ⊢
  clear hA6 hlb H5 f1 c1 m1 m2
  have m1 : A6.cell? ⟨tb, 1, none⟩ = some (.int .i64 fe) := h6.topCell rfl
  have l1 := h6.glv
  have l2 := h6.glf
  have l3 := (h6.putL (.slice (some ⟨lb, 0, none⟩) 1 1)).gcv
  have l4 := (h6.putL (.slice (some ⟨lb, 0, none⟩) 1 1)).gcf
  have H6 := Go.Lib.hid h6
  clear h6
  rcases fb with _ | _
  . rw [if_pos rfl] at hz
    go_wp2
    refine leaves_cons (f := 44) (args := #[.pointer (some ⟨p0, 0, none⟩), .pointer (some ⟨p1, 0, none⟩), .pointer (some ⟨p2, 0, none⟩)]) (by simp) (by simp [go_sem]) ?_
    refine (((H6.out.putL (.slice (some ⟨lb, 0, none⟩) 1 1)).putC 6).out N (z8a N) (vals := [.agg #[.slice sa sn scap, .int .i64 ser], .string ⟨⟨tn⟩⟩]) (hsv.mono (s4'.trans (s5'.trans s6))) v6 hz hob hargs).mono ?_
    rintro r u w7 ⟨⟨v, rfl⟩, rfl, q, c1, c2, hend⟩
    refine ⟨_, ?_, HR.out _ _ hend⟩
    simp [results, Go.Proofs.Try.results23, go_sem, c1, c2]
  . rw [if_neg (by decide)] at hz
    by_cases hlim : 1099511627776 <= fe
    . rw [if_pos hlim] at hz
      go_wp2
      refine leaves_cons (f := 44) (args := #[.pointer (some ⟨p0, 0, none⟩), .pointer (some ⟨p1, 0, none⟩), .pointer (some ⟨p2, 0, none⟩)]) (by simp) (by simp [go_sem]) ?_
      refine (((H6.out.putL (.slice (some ⟨lb, 0, none⟩) 1 1)).putC 3).out N (z8a N) (vals := [.agg #[.slice sa sn scap, .int .i64 ser], .string ⟨⟨tn⟩⟩]) (hsv.mono (s4'.trans (s5'.trans s6))) v6 hz hob hargs).mono ?_
      rintro r u w7 ⟨⟨v, rfl⟩, rfl, q, c1, c2, hend⟩
      refine ⟨_, ?_, HR.out _ _ hend⟩
      simp [results, Go.Proofs.Try.results23, go_sem, c1, c2]
    . rw [if_neg hlim] at hz
      go_wp2
      refine leaves_cons (f := 44) (args := #[.pointer (some ⟨p0, 0, none⟩), .pointer (some ⟨p1, 0, none⟩), .pointer (some ⟨p2, 0, none⟩)]) (by simp) (by simp [go_sem]) ?_
      refine (((H6.out.putL (.slice (some ⟨lb, 0, none⟩) 1 1)).putC 0).out N (z8a N) (vals := [.agg #[.slice sa sn scap, .int .i64 ser], .string ⟨⟨tn⟩⟩]) (hsv.mono (s4'.trans (s5'.trans s6))) v6 hz hob hargs).mono ?_
      rintro r u w7 ⟨⟨v, rfl⟩, rfl, q, c1, c2, hend⟩
      refine ⟨_, ?_, HR.out _ _ hend⟩
      simp [results, Go.Proofs.Try.results23, go_sem, c1, c2]

end
end Go.Proofs.YtlohplpnhopldaaLg

set_option linter.all false
set_option maxRecDepth 100000
namespace Go.Proofs.YtlohplpnhopldaaLg
noncomputable section
open Go Go.Lift Go.Proofs

def ze6 (N : Nat) (s : StT.den) (tn : List UInt8) (num : Int) : Option (List EvT.den × (Int × Unit)) :=
 (zhc N s tn num).bind fun f => if f.2.1 = false then z1g N s [((3 : Int), (tn, (num, ((0 : Int), (([] : List UInt8), ())))))] 6 else (z5u N s tn).bind fun g => z1g N s [((3 : Int), (tn, (num, ((0 : Int), (([] : List UInt8), ())))))] (if g.1.1 = num then 7 else 0)

def zgo (N : Nat) : List A -> Res := z1x [(0, .v StT), (0, .v .str), (0, .v (.int .i64))] (fun x => ze6 N x.1 x.2.1 x.2.2.1) (z4j (.tup PlT) 2)

set_option maxHeartbeats 30000000 in
theorem zsr (N : Nat) : Contract Go.Proofs.Try.prog zh 22 (zgo N) := by
  refine Contract.hand ⟨_, Go.Proofs.Try.func22, by kernel_rfl, by decide⟩ ?_
  intro w S vals ob x y har hS hg hy
  obtain ⟨⟨ts, ser, u0⟩, tn, num, u⟩ := x
  cases u; cases u0
  dsimp only at hy
  obtain ⟨⟨v0, hv0, hA0, ho0⟩, _⟩ := har.rel 0 _ rfl
  obtain ⟨⟨v1, hv1, hA1, ho1⟩, _⟩ := har.rel 1 _ rfl
  obtain ⟨⟨v2, hv2, hA2, ho2⟩, _⟩ := har.rel 2 _ rfl
  have hvals : vals = [v0, v1, v2] := by
    match vals, har.len, hv0, hv1, hv2 with
    | [a0, a1, a2], _, h0, h1, h2 => simp at h0 h1 h2; rw [h0, h1, h2]
  subst hvals
  have hob : ∀ i, ob i = [] := by
    intro i
    match i with
    | 0 => exact ho0
    | 1 => exact ho1
    | 2 => exact ho2
    | i + 3 => exact har.out _ (by simp [mkS, z7p])
  have hargs : ∀ y ∈ mkS [(0, .v StT), (0, .v .str), (0, .v (.int .i64))] 0 ((ts, (ser, ())), (tn, (num, ()))), z4x y = false := by
    intro y hy
    simp [mkS, z7p, AS.mk] at hy
    rcases hy with rfl | rfl | rfl <;> rfl
  have e1 := hA1.str_inv
  subst e1
  have e2 := VR.int_inv hA2
  subst e2
  obtain ⟨sv, rfl, hsv⟩ := zjl hA0
  obtain ⟨sa, scap, _, hsl, _, _, _⟩ := z9v hsv
  unfold ze6 at hy
  try dsimp only at hy
  suffices HX : ∀ R : Ending -> World -> Prop, Go.RowKit.Hid (∀ q w', Lift.Ends w S (mkS [(0, .v StT), (0, .v .str), (0, .v (.int .i64))] 0 ((ts, (ser, ())), (tn, (num, ())))) [.agg #[sv, .int .i64 ser], .string ⟨⟨tn⟩⟩, .int .i64 num] ob (z4j (.tup PlT) 2 y).1 (z4j (.tup PlT) 2 y).2 (.returned (.tuple #[q, .int .i64 y.2.1])) w' -> R (.returned (.tuple #[q, .int .i64 y.2.1])) w') -> Calls Go.Proofs.Try.prog 22 #[.agg #[sv, .int .i64 ser], .string ⟨⟨tn⟩⟩, .int .i64 num] w R from
    (HX (fun r w' => Lift.Ends w S (mkS [(0, .v StT), (0, .v .str), (0, .v (.int .i64))] 0 ((ts, (ser, ())), (tn, (num, ())))) [.agg #[sv, .int .i64 ser], .string ⟨⟨tn⟩⟩, .int .i64 num] ob (z4j (.tup PlT) 2 y).1 (z4j (.tup PlT) 2 y).2 r w') (Go.Lib.hid (fun q w' h => h)))
  intro R HR
  have h3 := PSt.start hS sv ser
  subst hsl
  clear har hv0 hA0 hv1 hA1 hv2 hA2
  obtain ⟨sn, hsn⟩ : ∃ n, n = ts.length := ⟨_, rfl⟩
  rw [<- hsn] at h3 HR hsv ⊢
  have HSN := Go.Lib.hid hsn
  clear hsn
  go_enter_defers Go.Proofs.Try.func22, Go.Proofs.Try.ntmps22
  go_upto_region 2 with (fail)
  obtain ⟨A3, hA3⟩ : ∃ A3, A3 = (((w.alloc (Obj.cells #[.slice sa sn scap, .int .i64 ser] 24)).alloc (Obj.cells #[.slice none 0 0] 28)).alloc (Obj.cells #[.int .i64 0] 29)) := ⟨_, rfl⟩
  obtain ⟨p2, hp2⟩ : ∃ p, p = w.heap.size + 1 + 1 := ⟨_, rfl⟩
  obtain ⟨p1, hp1⟩ : ∃ p, p = w.heap.size + 1 := ⟨_, rfl⟩
  obtain ⟨p0, hp0⟩ : ∃ p, p = w.heap.size := ⟨_, rfl⟩
  rw [<- hA3, <- hp2, <- hp1, <- hp0] at h3 ⊢
  clear hA3 hp0 hp1 hp2
  obtain ⟨f, hf, hz⟩ := Option.bind_eq_some_iff.1 hy
  clear hy
  have f1 := fun cs E => (h3.alloc cs E).glf
  have c1 := fun cs E => (h3.alloc cs E).glv
  obtain ⟨S5, s5, v5, h5⟩ := h3.build (E := 51) (cs := #[.int .i64 3, .string ⟨⟨tn⟩⟩, .int .i64 num, .int .i64 0, .string ⟨#[]⟩]) (n := 1) (l := [((3 : Int), (tn, (num, ((0 : Int), (([] : List UInt8), ())))))]) rfl rfl
  have H5 := Go.Lib.hid h5
  clear h3 h5
  go_upto_region 3 with (fail)
  have h5 := H5.out
  obtain ⟨A5, hA5⟩ : ∃ A5, A5 = (A3.alloc (Obj.cells #[.int .i64 3, .string ⟨⟨tn⟩⟩, .int .i64 num, .int .i64 0, .string ⟨#[]⟩] 51)).setCell ⟨p1, 0, none⟩ (.slice (some ⟨A3.heap.size, 0, none⟩) 1 1) := ⟨_, rfl⟩
  obtain ⟨lb, hlb⟩ : ∃ lb, lb = A3.heap.size := ⟨_, rfl⟩
  rw [<- hA5] at h5 ⊢
  rw [<- hlb] at h5 v5 ⊢
  clear hA5 hlb H5 f1 c1
  have k0 := h5.gsv
  have k1 := h5.gser
  have hcn := z11e N h5 (hsv.mono s5) hf
  obtain ⟨ft, fb, u2⟩ := f
  cases u2
  clear h5
  go_upto_region 4 with (go_at_call 18; refine hcn.mono ?_; rintro _ w6 ⟨S6, rfl, s6, h6⟩; have H6 := Go.Lib.hid h6; have s6' := s6; clear h6 s6 hcn)
  have h7 := H6.out
  clear k0 k1 H6
  have l1 := h7.glv
  have l2 := h7.glf
  have l3 := (h7.putL (.slice (some ⟨lb, 0, none⟩) 1 1)).gcv
  have l4 := (h7.putL (.slice (some ⟨lb, 0, none⟩) 1 1)).gcf
  have k0 := h7.gsv
  have k1 := h7.gser
  have H7 := Go.Lib.hid h7
  clear h7
  rcases fb with _ | _
  . rw [if_pos rfl] at hz
    go_wp2
    refine leaves_cons (f := 43) (args := #[.pointer (some ⟨p0, 0, none⟩), .pointer (some ⟨p1, 0, none⟩), .pointer (some ⟨p2, 0, none⟩)]) (by simp) (by simp [go_sem]) ?_
    refine (((H7.out.putL (.slice (some ⟨lb, 0, none⟩) 1 1)).putC 6).out N (z8b N) (vals := [.agg #[.slice sa sn scap, .int .i64 ser], .string ⟨⟨tn⟩⟩, .int .i64 num]) (hsv.mono (s5.trans s6')) (v5.mono s6') hz hob hargs).mono ?_
    rintro r u w7 ⟨⟨v, rfl⟩, rfl, q, c1, c2, hend⟩
    refine ⟨_, ?_, HR.out _ _ hend⟩
    simp [results, Go.Proofs.Try.results22, go_sem, c1, c2]
  . rw [if_neg (by decide)] at hz
    obtain ⟨g, hg2, hz⟩ := Option.bind_eq_some_iff.1 hz
    have hcm := zr9 N H7.out (hsv.mono (s5.trans s6')) hg2
    obtain ⟨⟨gk, gt, u1⟩, gb, u2⟩ := g
    cases u1; cases u2
    clear l1 l2 l3 l4
    go_upto_region 7 with (go_at_call 17; refine hcm.mono ?_; rintro _ w8 ⟨S8, rfl, s8, h8⟩; have H8 := Go.Lib.hid h8; have s8' := s8; clear h8 s8 hcm)
    have h9 := H8.out.alloc #[.int .i64 gk, .string ⟨⟨gt⟩⟩] 43
    obtain ⟨A9, hA9⟩ : ∃ A9, A9 = w8.alloc (Obj.cells #[.int .i64 gk, .string ⟨⟨gt⟩⟩] 43) := ⟨_, rfl⟩
    obtain ⟨tb, htb⟩ : ∃ b, b = w8.heap.size := ⟨_, rfl⟩
    rw [<- hA9, <- htb] at h9 ⊢
    clear hA9 htb H8 k0 k1
    have m1 : A9.cell? ⟨tb, 0, none⟩ = some (.int .i64 gk) := h9.topCell rfl
    have l1 := h9.glv
    have l2 := h9.glf
    have l3 := (h9.putL (.slice (some ⟨lb, 0, none⟩) 1 1)).gcv
    have l4 := (h9.putL (.slice (some ⟨lb, 0, none⟩) 1 1)).gcf
    have H9 := Go.Lib.hid h9
    clear h9
    by_cases hlim : gk = num
    . rw [if_pos hlim] at hz
      go_wp2
      refine leaves_cons (f := 43) (args := #[.pointer (some ⟨p0, 0, none⟩), .pointer (some ⟨p1, 0, none⟩), .pointer (some ⟨p2, 0, none⟩)]) (by simp) (by simp [go_sem]) ?_
      refine (((H9.out.putL (.slice (some ⟨lb, 0, none⟩) 1 1)).putC 7).out N (z8b N) (vals := [.agg #[.slice sa sn scap, .int .i64 ser], .string ⟨⟨tn⟩⟩, .int .i64 num]) (hsv.mono (s5.trans (s6'.trans s8'))) (v5.mono (s6'.trans s8')) hz hob hargs).mono ?_
      rintro r u w7 ⟨⟨v, rfl⟩, rfl, q, c1, c2, hend⟩
      refine ⟨_, ?_, HR.out _ _ hend⟩
      simp [results, Go.Proofs.Try.results22, go_sem, c1, c2]
    . rw [if_neg hlim] at hz
      go_wp2
      refine leaves_cons (f := 43) (args := #[.pointer (some ⟨p0, 0, none⟩), .pointer (some ⟨p1, 0, none⟩), .pointer (some ⟨p2, 0, none⟩)]) (by simp) (by simp [go_sem]) ?_
      refine (((H9.out.putL (.slice (some ⟨lb, 0, none⟩) 1 1)).putC 0).out N (z8b N) (vals := [.agg #[.slice sa sn scap, .int .i64 ser], .string ⟨⟨tn⟩⟩, .int .i64 num]) (hsv.mono (s5.trans (s6'.trans s8'))) (v5.mono (s6'.trans s8')) hz hob hargs).mono ?_
      rintro r u w7 ⟨⟨v, rfl⟩, rfl, q, c1, c2, hend⟩
      refine ⟨_, ?_, HR.out _ _ hend⟩
      simp [results, Go.Proofs.Try.results22, go_sem, c1, c2]

end
end Go.Proofs.YtlohplpnhopldaaLg

set_option linter.all false
set_option maxRecDepth 100000
namespace Go.Proofs.YtlohplpnhopldaaLg
noncomputable section
open Go Go.Lift Go.Proofs

def zb5 (N : Nat) (s : StT.den) (tn : List UInt8) (key : List UInt8) : Option (List EvT.den × (Int × Unit)) :=
 (z80 N s tn).bind fun f => (z82 N tn).bind fun g => z1g N s [((1 : Int), (tn, ((2 : Int), ((0 : Int), (([] : List UInt8), ()))))), ((2 : Int), (tn, ((1 : Int), ((0 : Int), (key, ())))))] (if g = false then 4 else if key.length ≠ 32 then 7 else if f.2.1 = true then 5 else if 16 <= s.1.length then 3 else 0)

def zb4 (N : Nat) : List A -> Res := z1x [(0, .v StT), (0, .v .str), (0, .v .str)] (fun x => zb5 N x.1 x.2.1 x.2.2.1) (z4j (.tup PlT) 2)

set_option maxHeartbeats 30000000 in
theorem zj5 (N : Nat) : Contract Go.Proofs.Try.prog zh 19 (zb4 N) := by
  refine Contract.hand ⟨_, Go.Proofs.Try.func19, by kernel_rfl, by decide⟩ ?_
  intro w S vals ob x y har hS hg hy
  obtain ⟨⟨ts, ser, u0⟩, tn, key, u⟩ := x
  cases u; cases u0
  dsimp only at hy
  obtain ⟨⟨v0, hv0, hA0, ho0⟩, _⟩ := har.rel 0 _ rfl
  obtain ⟨⟨v1, hv1, hA1, ho1⟩, _⟩ := har.rel 1 _ rfl
  obtain ⟨⟨v2, hv2, hA2, ho2⟩, _⟩ := har.rel 2 _ rfl
  have hvals : vals = [v0, v1, v2] := by
    match vals, har.len, hv0, hv1, hv2 with
    | [a0, a1, a2], _, h0, h1, h2 => simp at h0 h1 h2; rw [h0, h1, h2]
  subst hvals
  have hob : ∀ i, ob i = [] := by
    intro i
    match i with
    | 0 => exact ho0
    | 1 => exact ho1
    | 2 => exact ho2
    | i + 3 => exact har.out _ (by simp [mkS, z7p])
  have hargs : ∀ y ∈ mkS [(0, .v StT), (0, .v .str), (0, .v .str)] 0 ((ts, (ser, ())), (tn, (key, ()))), z4x y = false := by
    intro y hy
    simp [mkS, z7p, AS.mk] at hy
    rcases hy with rfl | rfl | rfl <;> rfl
  have e1 := hA1.str_inv
  subst e1
  have e2 := hA2.str_inv
  subst e2
  obtain ⟨sv, rfl, hsv⟩ := zjl hA0
  obtain ⟨sa, scap, _, hsl, _, _, _⟩ := z9v hsv
  unfold zb5 at hy
  try dsimp only at hy
  suffices HX : ∀ R : Ending -> World -> Prop, Go.RowKit.Hid (∀ q w', Lift.Ends w S (mkS [(0, .v StT), (0, .v .str), (0, .v .str)] 0 ((ts, (ser, ())), (tn, (key, ())))) [.agg #[sv, .int .i64 ser], .string ⟨⟨tn⟩⟩, .string ⟨⟨key⟩⟩] ob (z4j (.tup PlT) 2 y).1 (z4j (.tup PlT) 2 y).2 (.returned (.tuple #[q, .int .i64 y.2.1])) w' -> R (.returned (.tuple #[q, .int .i64 y.2.1])) w') -> Calls Go.Proofs.Try.prog 19 #[.agg #[sv, .int .i64 ser], .string ⟨⟨tn⟩⟩, .string ⟨⟨key⟩⟩] w R from
    (HX (fun r w' => Lift.Ends w S (mkS [(0, .v StT), (0, .v .str), (0, .v .str)] 0 ((ts, (ser, ())), (tn, (key, ())))) [.agg #[sv, .int .i64 ser], .string ⟨⟨tn⟩⟩, .string ⟨⟨key⟩⟩] ob (z4j (.tup PlT) 2 y).1 (z4j (.tup PlT) 2 y).2 r w') (Go.Lib.hid (fun q w' h => h)))
  intro R HR
  have h3 := PSt.start hS sv ser
  subst hsl
  clear har hv0 hA0 hv1 hA1 hv2 hA2
  obtain ⟨sn, hsn⟩ : ∃ n, n = ts.length := ⟨_, rfl⟩
  rw [<- hsn] at h3 HR hsv ⊢
  have HSN := Go.Lib.hid hsn
  clear hsn
  go_enter_defers Go.Proofs.Try.func19, Go.Proofs.Try.ntmps19
  go_upto_region 2 with (fail)
  obtain ⟨A3, hA3⟩ : ∃ A3, A3 = (((w.alloc (Obj.cells #[.slice sa sn scap, .int .i64 ser] 24)).alloc (Obj.cells #[.slice none 0 0] 28)).alloc (Obj.cells #[.int .i64 0] 29)) := ⟨_, rfl⟩
  obtain ⟨p2, hp2⟩ : ∃ p, p = w.heap.size + 1 + 1 := ⟨_, rfl⟩
  obtain ⟨p1, hp1⟩ : ∃ p, p = w.heap.size + 1 := ⟨_, rfl⟩
  obtain ⟨p0, hp0⟩ : ∃ p, p = w.heap.size := ⟨_, rfl⟩
  rw [<- hA3, <- hp2, <- hp1, <- hp0] at h3 ⊢
  clear hA3 hp0 hp1 hp2
  obtain ⟨f, hf, hy⟩ := Option.bind_eq_some_iff.1 hy
  obtain ⟨g, hgw, hz⟩ := Option.bind_eq_some_iff.1 hy
  clear hy
  have hce := zml N h3 tn 0 2
  unfold evV at hce
  clear h3
  go_upto_region 3 with (first | (go_at_call 28; refine hce.mono ?_; rintro _ w4 ⟨S4, rfl, s4, h4⟩; have s4' := s4; have hck := ztx N h4 tn 1 key; unfold evV at hck; clear h4 s4 hce) | (go_at_call 29; refine hck.mono ?_; rintro _ w5 ⟨S5, rfl, s5, h5⟩; have H5 := Go.Lib.hid h5; have s5' := s5; have f1 := fun cs E => (h5.alloc cs E).glf; have c1 := fun cs E => (h5.alloc cs E).glv; clear h5 s5 hck))
  obtain ⟨S6, s6, v6, h6⟩ := H5.out.build (E := 51) (cs := #[.int .i64 1, .string ⟨⟨tn⟩⟩, .int .i64 2, .int .i64 0, .string ⟨#[]⟩, .int .i64 2, .string ⟨⟨tn⟩⟩, .int .i64 1, .int .i64 0, .string ⟨⟨key⟩⟩]) (n := 2) (l := [((1 : Int), (tn, ((2 : Int), ((0 : Int), (([] : List UInt8), ()))))), ((2 : Int), (tn, ((1 : Int), ((0 : Int), (key, ())))))]) rfl rfl
  obtain ⟨A6, hA6⟩ : ∃ A6, A6 = (w5.alloc (Obj.cells #[.int .i64 1, .string ⟨⟨tn⟩⟩, .int .i64 2, .int .i64 0, .string ⟨#[]⟩, .int .i64 2, .string ⟨⟨tn⟩⟩, .int .i64 1, .int .i64 0, .string ⟨⟨key⟩⟩] 51)).setCell ⟨p1, 0, none⟩ (.slice (some ⟨w5.heap.size, 0, none⟩) 2 2) := ⟨_, rfl⟩
  obtain ⟨lb, hlb⟩ : ∃ lb, lb = w5.heap.size := ⟨_, rfl⟩
  rw [<- hA6] at h6 ⊢
  rw [<- hlb] at h6 v6 ⊢
  clear hA6 hlb H5 f1 c1
  have k0 := h6.gsv
  have k1 := h6.gser
  have s6' := s4'.trans (s5'.trans s6)
  have hcf := zkl N h6 (hsv.mono s6') hf
  obtain ⟨⟨fn, fe, fx, fks, u1⟩, fb, u2⟩ := f
  cases u1; cases u2
  try dsimp only at hz
  try dsimp only at hcf
  obtain ⟨fl, hfl⟩ : ∃ n, n = fks.length := ⟨_, rfl⟩
  rw [<- hfl] at hcf
  clear h6 hfl
  go_upto_region 4 with (go_at_call 39; refine hcf.mono ?_; rintro _ w7 ⟨ka, kc, S7, rfl, s7, h7⟩; have H7 := Go.Lib.hid h7; have s7' := s7; clear h7 s7 hcf)
  have h7 := H7.out.alloc #[.string ⟨⟨fn⟩⟩, .int .i64 fe, .int .i64 fx, .slice ka fl kc] 41
  obtain ⟨A7, hA7⟩ : ∃ A7, A7 = w7.alloc (Obj.cells #[.string ⟨⟨fn⟩⟩, .int .i64 fe, .int .i64 fx, .slice ka fl kc] 41) := ⟨_, rfl⟩
  obtain ⟨tb, htb⟩ : ∃ b, b = w7.heap.size := ⟨_, rfl⟩
  rw [<- hA7, <- htb] at h7 ⊢
  clear hA7 htb H7 k0 k1
  have hcw := zxm N h7 hgw
  clear h7
  rcases g with _ | _
  . rw [if_pos rfl] at hz
    go_upto_region 5 with (go_at_call 40; refine hcw.mono ?_; rintro _ w8 ⟨S8, rfl, s8, h8⟩; have H8 := Go.Lib.hid h8; have s8' := s8; clear h8 s8 hcw)
    have h8 := H8.out
    have l1 := h8.glv
    have l2 := h8.glf
    have l3 := (h8.putL (.slice (some ⟨lb, 0, none⟩) 2 2)).gcv
    have l4 := (h8.putL (.slice (some ⟨lb, 0, none⟩) 2 2)).gcf
    clear h8
    go_wp2
    refine leaves_cons (f := 37) (args := #[.pointer (some ⟨p0, 0, none⟩), .pointer (some ⟨p1, 0, none⟩), .pointer (some ⟨p2, 0, none⟩)]) (by simp) (by simp [go_sem]) ?_
    refine (((H8.out.putL (.slice (some ⟨lb, 0, none⟩) 2 2)).putC 4).out N (z3x N) (vals := [.agg #[.slice sa sn scap, .int .i64 ser], .string ⟨⟨tn⟩⟩, .string ⟨⟨key⟩⟩]) (hsv.mono (s6'.trans (s7'.trans s8'))) (v6.mono (s7'.trans s8')) hz hob hargs).mono ?_
    rintro r u w7 ⟨⟨v, rfl⟩, rfl, q, c1, c2, hend⟩
    refine ⟨_, ?_, HR.out _ _ hend⟩
    simp [results, Go.Proofs.Try.results19, go_sem, c1, c2]
  . rw [if_neg (show ¬ (true = false) by decide)] at hz
    go_upto_region 6 with (go_at_call 40; refine hcw.mono ?_; rintro _ w8 ⟨S8, rfl, s8, h8⟩; have H8 := Go.Lib.hid h8; have s8' := s8; clear h8 s8 hcw)
    have h8 := H8.out
    have l1 := h8.glv
    have l2 := h8.glf
    have l3 := (h8.putL (.slice (some ⟨lb, 0, none⟩) 2 2)).gcv
    have l4 := (h8.putL (.slice (some ⟨lb, 0, none⟩) 2 2)).gcf
    have k0 := h8.gsv
    clear h8
    by_cases hk : key.length = 32
    . rw [if_neg (by omega)] at hz
      rcases fb with _ | _
      . rw [if_neg (show ¬ (false = true) by decide)] at hz
        have hsn := HSN.out
        rw [<- hsn] at hz
        by_cases hlim : 16 <= sn
        . rw [if_pos hlim] at hz
          clear hsn
          go_wp2
          refine leaves_cons (f := 37) (args := #[.pointer (some ⟨p0, 0, none⟩), .pointer (some ⟨p1, 0, none⟩), .pointer (some ⟨p2, 0, none⟩)]) (by simp) (by simp [go_sem]) ?_
          refine (((H8.out.putL (.slice (some ⟨lb, 0, none⟩) 2 2)).putC 3).out N (z3x N) (vals := [.agg #[.slice sa sn scap, .int .i64 ser], .string ⟨⟨tn⟩⟩, .string ⟨⟨key⟩⟩]) (hsv.mono (s6'.trans (s7'.trans s8'))) (v6.mono (s7'.trans s8')) hz hob hargs).mono ?_
          rintro r u w7 ⟨⟨v, rfl⟩, rfl, q, c1, c2, hend⟩
          refine ⟨_, ?_, HR.out _ _ hend⟩
          simp [results, Go.Proofs.Try.results19, go_sem, c1, c2]
        . rw [if_neg hlim] at hz
          clear hsn
          go_wp2
          refine leaves_cons (f := 37) (args := #[.pointer (some ⟨p0, 0, none⟩), .pointer (some ⟨p1, 0, none⟩), .pointer (some ⟨p2, 0, none⟩)]) (by simp) (by simp [go_sem]) ?_
          refine (((H8.out.putL (.slice (some ⟨lb, 0, none⟩) 2 2)).putC 0).out N (z3x N) (vals := [.agg #[.slice sa sn scap, .int .i64 ser], .string ⟨⟨tn⟩⟩, .string ⟨⟨key⟩⟩]) (hsv.mono (s6'.trans (s7'.trans s8'))) (v6.mono (s7'.trans s8')) hz hob hargs).mono ?_
          rintro r u w7 ⟨⟨v, rfl⟩, rfl, q, c1, c2, hend⟩
          refine ⟨_, ?_, HR.out _ _ hend⟩
          simp [results, Go.Proofs.Try.results19, go_sem, c1, c2]
      . rw [if_pos rfl] at hz
        go_wp2
        refine leaves_cons (f := 37) (args := #[.pointer (some ⟨p0, 0, none⟩), .pointer (some ⟨p1, 0, none⟩), .pointer (some ⟨p2, 0, none⟩)]) (by simp) (by simp [go_sem]) ?_
        refine (((H8.out.putL (.slice (some ⟨lb, 0, none⟩) 2 2)).putC 5).out N (z3x N) (vals := [.agg #[.slice sa sn scap, .int .i64 ser], .string ⟨⟨tn⟩⟩, .string ⟨⟨key⟩⟩]) (hsv.mono (s6'.trans (s7'.trans s8'))) (v6.mono (s7'.trans s8')) hz hob hargs).mono ?_
        rintro r u w7 ⟨⟨v, rfl⟩, rfl, q, c1, c2, hend⟩
        refine ⟨_, ?_, HR.out _ _ hend⟩
        simp [results, Go.Proofs.Try.results19, go_sem, c1, c2]
    . rw [if_pos hk] at hz
      go_wp2
      refine leaves_cons (f := 37) (args := #[.pointer (some ⟨p0, 0, none⟩), .pointer (some ⟨p1, 0, none⟩), .pointer (some ⟨p2, 0, none⟩)]) (by simp) (by simp [go_sem]) ?_
      refine (((H8.out.putL (.slice (some ⟨lb, 0, none⟩) 2 2)).putC 7).out N (z3x N) (vals := [.agg #[.slice sa sn scap, .int .i64 ser], .string ⟨⟨tn⟩⟩, .string ⟨⟨key⟩⟩]) (hsv.mono (s6'.trans (s7'.trans s8'))) (v6.mono (s7'.trans s8')) hz hob hargs).mono ?_
      rintro r u w7 ⟨⟨v, rfl⟩, rfl, q, c1, c2, hend⟩
      refine ⟨_, ?_, HR.out _ _ hend⟩
      simp [results, Go.Proofs.Try.results19, go_sem, c1, c2]

end
end Go.Proofs.YtlohplpnhopldaaLg

set_option linter.all false
set_option maxRecDepth 100000
namespace Go.Proofs.YtlohplpnhopldaaLg
noncomputable section
open Go Go.Lift Go.Proofs

def ze4 (N : Nat) (s : StT.den) (tn : List UInt8) (key : List UInt8) : Option (List EvT.den × (Int × Unit)) :=
 (z80 N s tn).bind fun f => z1g N s [((1 : Int), (tn, (Go.IntKind.wrap .i64 (f.1.2.2.1 + 1), (f.1.2.1, (([] : List UInt8), ()))))), ((2 : Int), (tn, (f.1.2.2.1, ((0 : Int), (key, ())))))] (if f.2.1 = false then 6 else if key.length ≠ 32 then 7 else if 8 <= f.1.2.2.2.1.length then 3 else if 1099511627776 <= f.1.2.2.1 then 3 else 0)

def zgm (N : Nat) : List A -> Res := z1x [(0, .v StT), (0, .v .str), (0, .v .str)] (fun x => ze4 N x.1 x.2.1 x.2.2.1) (z4j (.tup PlT) 2)

set_option maxHeartbeats 30000000 in
theorem zsp (N : Nat) : Contract Go.Proofs.Try.prog zh 21 (zgm N) := by
  refine Contract.hand ⟨_, Go.Proofs.Try.func21, by kernel_rfl, by decide⟩ ?_
  intro w S vals ob x y har hS hg hy
  obtain ⟨⟨ts, ser, u0⟩, tn, key, u⟩ := x
  cases u; cases u0
  dsimp only at hy
  obtain ⟨⟨v0, hv0, hA0, ho0⟩, _⟩ := har.rel 0 _ rfl
  obtain ⟨⟨v1, hv1, hA1, ho1⟩, _⟩ := har.rel 1 _ rfl
  obtain ⟨⟨v2, hv2, hA2, ho2⟩, _⟩ := har.rel 2 _ rfl
  have hvals : vals = [v0, v1, v2] := by
    match vals, har.len, hv0, hv1, hv2 with
    | [a0, a1, a2], _, h0, h1, h2 => simp at h0 h1 h2; rw [h0, h1, h2]
  subst hvals
  have hob : ∀ i, ob i = [] := by
    intro i
    match i with
    | 0 => exact ho0
    | 1 => exact ho1
    | 2 => exact ho2
    | i + 3 => exact har.out _ (by simp [mkS, z7p])
  have hargs : ∀ y ∈ mkS [(0, .v StT), (0, .v .str), (0, .v .str)] 0 ((ts, (ser, ())), (tn, (key, ()))), z4x y = false := by
    intro y hy
    simp [mkS, z7p, AS.mk] at hy
    rcases hy with rfl | rfl | rfl <;> rfl
  have e1 := hA1.str_inv
  subst e1
  have e2 := hA2.str_inv
  subst e2
  obtain ⟨sv, rfl, hsv⟩ := zjl hA0
  obtain ⟨sa, scap, _, hsl, _, _, _⟩ := z9v hsv
  unfold ze4 at hy
  try dsimp only at hy
  suffices HX : ∀ R : Ending -> World -> Prop, Go.RowKit.Hid (∀ q w', Lift.Ends w S (mkS [(0, .v StT), (0, .v .str), (0, .v .str)] 0 ((ts, (ser, ())), (tn, (key, ())))) [.agg #[sv, .int .i64 ser], .string ⟨⟨tn⟩⟩, .string ⟨⟨key⟩⟩] ob (z4j (.tup PlT) 2 y).1 (z4j (.tup PlT) 2 y).2 (.returned (.tuple #[q, .int .i64 y.2.1])) w' -> R (.returned (.tuple #[q, .int .i64 y.2.1])) w') -> Calls Go.Proofs.Try.prog 21 #[.agg #[sv, .int .i64 ser], .string ⟨⟨tn⟩⟩, .string ⟨⟨key⟩⟩] w R from
    (HX (fun r w' => Lift.Ends w S (mkS [(0, .v StT), (0, .v .str), (0, .v .str)] 0 ((ts, (ser, ())), (tn, (key, ())))) [.agg #[sv, .int .i64 ser], .string ⟨⟨tn⟩⟩, .string ⟨⟨key⟩⟩] ob (z4j (.tup PlT) 2 y).1 (z4j (.tup PlT) 2 y).2 r w') (Go.Lib.hid (fun q w' h => h)))
  intro R HR
  have h3 := PSt.start hS sv ser
  subst hsl
  clear har hv0 hA0 hv1 hA1 hv2 hA2
  obtain ⟨sn, hsn⟩ : ∃ n, n = ts.length := ⟨_, rfl⟩
  rw [<- hsn] at h3 HR hsv ⊢
  have HSN := Go.Lib.hid hsn
  clear hsn
  go_enter_defers Go.Proofs.Try.func21, Go.Proofs.Try.ntmps21
  go_upto_region 2 with (fail)
  obtain ⟨A3, hA3⟩ : ∃ A3, A3 = (((w.alloc (Obj.cells #[.slice sa sn scap, .int .i64 ser] 24)).alloc (Obj.cells #[.slice none 0 0] 28)).alloc (Obj.cells #[.int .i64 0] 29)) := ⟨_, rfl⟩
  obtain ⟨p2, hp2⟩ : ∃ p, p = w.heap.size + 1 + 1 := ⟨_, rfl⟩
  obtain ⟨p1, hp1⟩ : ∃ p, p = w.heap.size + 1 := ⟨_, rfl⟩
  obtain ⟨p0, hp0⟩ : ∃ p, p = w.heap.size := ⟨_, rfl⟩
  rw [<- hA3, <- hp2, <- hp1, <- hp0] at h3 ⊢
  clear hA3 hp0 hp1 hp2
  obtain ⟨f, hf, hz⟩ := Option.bind_eq_some_iff.1 hy
  clear hy
  have k0 := h3.gsv
  have k1 := h3.gser
  have hcf := zkl N h3 hsv hf
  obtain ⟨⟨fn, fe, fx, fks, u1⟩, fb, u2⟩ := f
  cases u1; cases u2
  try dsimp only at hz
  try dsimp only at hcf
  obtain ⟨fl, hfl⟩ : ∃ n, n = fks.length := ⟨_, rfl⟩
  rw [<- hfl] at hcf hz
  clear h3 hfl
  go_upto_region 3 with (go_at_call 39; refine hcf.mono ?_; rintro _ w4 ⟨ka, kc, S4, rfl, s4, h4⟩; have H4 := Go.Lib.hid h4; have s4' := s4; clear h4 s4 hcf)
  have h4 := H4.out.alloc #[.string ⟨⟨fn⟩⟩, .int .i64 fe, .int .i64 fx, .slice ka fl kc] 41
  obtain ⟨A4, hA4⟩ : ∃ A4, A4 = w4.alloc (Obj.cells #[.string ⟨⟨fn⟩⟩, .int .i64 fe, .int .i64 fx, .slice ka fl kc] 41) := ⟨_, rfl⟩
  obtain ⟨tb, htb⟩ : ∃ b, b = w4.heap.size := ⟨_, rfl⟩
  rw [<- hA4, <- htb] at h4 ⊢
  clear hA4 htb H4 k0 k1
  obtain ⟨Q, hQ⟩ : ∃ Q : World -> Prop, Q = fun W' => ∃ S', Lift.Sub S4 S' /\ PSt w S W' S' p0 p1 p2 (.slice sa sn scap) ser (.slice none 0 0) 0 [(tb, #[.string ⟨⟨fn⟩⟩, .int .i64 fe, .int .i64 fx, .slice ka fl kc], 41)] := ⟨_, rfl⟩
  have q0 : Q A4 := by rw [hQ]; exact ⟨S4, Lift.Sub.refl _, h4⟩
  have qc : ∀ W', Q W' -> W'.cell? ⟨tb, 1, none⟩ = some (.int .i64 fe) /\ W'.cell? ⟨tb, 2, none⟩ = some (.int .i64 fx) := by
    intro W' h; rw [hQ] at h
    obtain ⟨S', _, h⟩ := h
    exact ⟨h.topCell rfl, h.topCell rfl⟩
  have qd : ∀ W', Q W' -> Q W'.drew := by
    intro W' h; rw [hQ] at h ⊢
    obtain ⟨S', h1, h⟩ := h
    exact ⟨S', h1, h.st.drew, h.d01, h.d02, h.d12, h.far⟩
  have qt : ∀ W', Q W' -> Calls Go.Proofs.Try.prog 28 #[.string ⟨⟨tn⟩⟩, .int .i64 fe, .int .i64 (Go.IntKind.wrap .i64 (fx + 1))] W' fun e w' => e = .returned (evV 1 tn (Go.IntKind.wrap .i64 (fx + 1)) fe []) /\ Q w' := by
    intro W' h; rw [hQ] at h ⊢
    obtain ⟨S', h1, h⟩ := h
    refine (zml N h tn fe (Go.IntKind.wrap .i64 (fx + 1))).mono ?_
    rintro e w' ⟨S2, rfl, h2, h3⟩
    exact ⟨rfl, S2, h1.trans h2, h3⟩
  have qk : ∀ W', Q W' -> Calls Go.Proofs.Try.prog 29 #[.string ⟨⟨tn⟩⟩, .int .i64 fx, .string ⟨⟨key⟩⟩] W' fun e w' => e = .returned (evV 2 tn fx 0 key) /\ Q w' := by
    intro W' h; rw [hQ] at h ⊢
    obtain ⟨S', h1, h⟩ := h
    refine (ztx N h tn fx key).mono ?_
    rintro e w' ⟨S2, rfl, h2, h3⟩
    exact ⟨rfl, S2, h1.trans h2, h3⟩
  have qb : ∀ W', Q W' -> (∀ cs E, (W'.alloc (.cells cs E)).frozen? ⟨p1, 0, none⟩ = false) /\ (∀ cs E, (W'.alloc (.cells cs E)).cell? ⟨p1, 0, none⟩ = some (.slice none 0 0)) := by
    intro W' h; rw [hQ] at h
    obtain ⟨S', h1, h⟩ := h
    exact ⟨fun cs E => (h.alloc cs E).glf, fun cs E => (h.alloc cs E).glv⟩
  unfold evV at qt qk
  have HQ := Go.Lib.hid hQ
  have hcell := qc _ q0
  have m1 := hcell.1
  have m2 := hcell.2
  have hcd := qc _ (qd _ q0)
  clear h4 hQ hcell
  have qe : ∀ W', Q W' -> ∀ cs E v, ((W'.alloc (.cells cs E)).cell? ⟨tb, 1, none⟩ = some (.int .i64 fe) /\ (W'.alloc (.cells cs E)).cell? ⟨tb, 2, none⟩ = some (.int .i64 fx)) /\ (((W'.alloc (.cells cs E)).setCell ⟨p1, 0, none⟩ v).cell? ⟨tb, 1, none⟩ = some (.int .i64 fe) /\ ((W'.alloc (.cells cs E)).setCell ⟨p1, 0, none⟩ v).cell? ⟨tb, 2, none⟩ = some (.int .i64 fx)) := by
    intro W' h cs E v; rw [HQ.out] at h
    obtain ⟨S', h1, h⟩ := h
    have e1 := h.alloc cs E
    have e2 := e1.putL v
    exact ⟨⟨e1.st.cell (.tail _ (.tail _ (.tail _ (.tail _ (.head _))))) rfl, e1.st.cell (.tail _ (.tail _ (.tail _ (.tail _ (.head _))))) rfl⟩, e2.st.cell (.tail _ (.tail _ (.tail _ (.tail _ (.head _))))) rfl, e2.st.cell (.tail _ (.tail _ (.tail _ (.tail _ (.head _))))) rfl⟩
  go_region_held3 (fun W' => W'.cell? ⟨tb, 1, none⟩ = some (.int .i64 fe) /\ W'.cell? ⟨tb, 2, none⟩ = some (.int .i64 fx))
    (first | exact ⟨m1, m2⟩ | exact hcd | assumption | exact (g6e _ _ (.slice none 0 0)).1 | exact (g6e _ _ _).2)
    (first
      | (go_at_call 28; refine (qt _ (by first | assumption | exact qd _ q0)).mono ?_; rintro _ w5 ⟨rfl, g5⟩; have g5c := qc _ g5)
      | (go_at_call 29; refine (qk _ (by first | assumption | exact qd _ q0)).mono ?_; rintro _ w6 ⟨rfl, g6⟩; have g6c := qc _ g6; have g6a := (qb _ g6).1; have g6b := (qb _ g6).2; have g6e := qe _ g6))
  have g6' := g6
  rw [HQ.out] at g6'
  obtain ⟨S5, s5, h5⟩ := g6'
  obtain ⟨S6, s6, v6, h6⟩ := h5.build (E := 51) (cs := #[.int .i64 1, .string ⟨⟨tn⟩⟩, .int .i64 (Go.IntKind.wrap .i64 (fx + 1)), .int .i64 fe, .string ⟨#[]⟩, .int .i64 2, .string ⟨⟨tn⟩⟩, .int .i64 fx, .int .i64 0, .string ⟨⟨key⟩⟩]) (n := 2) (l := [((1 : Int), (tn, (Go.IntKind.wrap .i64 (fx + 1), (fe, (([] : List UInt8), ()))))), ((2 : Int), (tn, (fx, ((0 : Int), (key, ())))))]) rfl rfl
  obtain ⟨A6, hA6⟩ : ∃ A6, A6 = (w6.alloc (Obj.cells #[.int .i64 1, .string ⟨⟨tn⟩⟩, .int .i64 (Go.IntKind.wrap .i64 (fx + 1)), .int .i64 fe, .string ⟨#[]⟩, .int .i64 2, .string ⟨⟨tn⟩⟩, .int .i64 fx, .int .i64 0, .string ⟨⟨key⟩⟩] 51)).setCell ⟨p1, 0, none⟩ (.slice (some ⟨w6.heap.size, 0, none⟩) 2 2) := ⟨_, rfl⟩
  obtain ⟨lb, hlb⟩ : ∃ lb, lb = w6.heap.size := ⟨_, rfl⟩
  rw [<- hA6] at h6 ⊢
  rw [<- hlb] at h6 v6 ⊢
  clear hA6 hlb h5 g6 g6c g6a g6b g6e g5 g5c q0 qc qd qt qk qb qe m1 m2 hcd
  have m2 : A6.cell? ⟨tb, 2, none⟩ = some (.int .i64 fx) := h6.topCell rfl
  have m3 : A6.cell? ⟨tb, 3, none⟩ = some (.slice ka fl kc) := h6.topCell rfl
  have l1 := h6.glv
  have l2 := h6.glf
  have l3 := (h6.putL (.slice (some ⟨lb, 0, none⟩) 2 2)).gcv
  have l4 := (h6.putL (.slice (some ⟨lb, 0, none⟩) 2 2)).gcf
  have H6 := Go.Lib.hid h6
  clear h6
  rcases fb with _ | _
  . rw [if_pos rfl] at hz
    go_wp2
    refine leaves_cons (f := 42) (args := #[.pointer (some ⟨p0, 0, none⟩), .pointer (some ⟨p1, 0, none⟩), .pointer (some ⟨p2, 0, none⟩)]) (by simp) (by simp [go_sem]) ?_
    refine (((H6.out.putL (.slice (some ⟨lb, 0, none⟩) 2 2)).putC 6).out N (z3y N) (vals := [.agg #[.slice sa sn scap, .int .i64 ser], .string ⟨⟨tn⟩⟩, .string ⟨⟨key⟩⟩]) (hsv.mono (s4'.trans (s5.trans s6))) v6 hz hob hargs).mono ?_
    rintro r u w7 ⟨⟨v, rfl⟩, rfl, q, c1, c2, hend⟩
    refine ⟨_, ?_, HR.out _ _ hend⟩
    simp [results, Go.Proofs.Try.results21, go_sem, c1, c2]
  . rw [if_neg (show ¬ (true = false) by decide)] at hz
    by_cases hk : key.length = 32
    . rw [if_neg (by omega)] at hz
      by_cases h8 : 8 <= fl
      . rw [if_pos h8] at hz
        go_wp2
        refine leaves_cons (f := 42) (args := #[.pointer (some ⟨p0, 0, none⟩), .pointer (some ⟨p1, 0, none⟩), .pointer (some ⟨p2, 0, none⟩)]) (by simp) (by simp [go_sem]) ?_
        refine (((H6.out.putL (.slice (some ⟨lb, 0, none⟩) 2 2)).putC 3).out N (z3y N) (vals := [.agg #[.slice sa sn scap, .int .i64 ser], .string ⟨⟨tn⟩⟩, .string ⟨⟨key⟩⟩]) (hsv.mono (s4'.trans (s5.trans s6))) v6 hz hob hargs).mono ?_
        rintro r u w7 ⟨⟨v, rfl⟩, rfl, q, c1, c2, hend⟩
        refine ⟨_, ?_, HR.out _ _ hend⟩
        simp [results, Go.Proofs.Try.results21, go_sem, c1, c2]
      . rw [if_neg h8] at hz
        by_cases hlim : 1099511627776 <= fx
        . rw [if_pos hlim] at hz
          go_wp2
          refine leaves_cons (f := 42) (args := #[.pointer (some ⟨p0, 0, none⟩), .pointer (some ⟨p1, 0, none⟩), .pointer (some ⟨p2, 0, none⟩)]) (by simp) (by simp [go_sem]) ?_
          refine (((H6.out.putL (.slice (some ⟨lb, 0, none⟩) 2 2)).putC 3).out N (z3y N) (vals := [.agg #[.slice sa sn scap, .int .i64 ser], .string ⟨⟨tn⟩⟩, .string ⟨⟨key⟩⟩]) (hsv.mono (s4'.trans (s5.trans s6))) v6 hz hob hargs).mono ?_
          rintro r u w7 ⟨⟨v, rfl⟩, rfl, q, c1, c2, hend⟩
          refine ⟨_, ?_, HR.out _ _ hend⟩
          simp [results, Go.Proofs.Try.results21, go_sem, c1, c2]
        . rw [if_neg hlim] at hz
          go_wp2
          refine leaves_cons (f := 42) (args := #[.pointer (some ⟨p0, 0, none⟩), .pointer (some ⟨p1, 0, none⟩), .pointer (some ⟨p2, 0, none⟩)]) (by simp) (by simp [go_sem]) ?_
          refine (((H6.out.putL (.slice (some ⟨lb, 0, none⟩) 2 2)).putC 0).out N (z3y N) (vals := [.agg #[.slice sa sn scap, .int .i64 ser], .string ⟨⟨tn⟩⟩, .string ⟨⟨key⟩⟩]) (hsv.mono (s4'.trans (s5.trans s6))) v6 hz hob hargs).mono ?_
          rintro r u w7 ⟨⟨v, rfl⟩, rfl, q, c1, c2, hend⟩
          refine ⟨_, ?_, HR.out _ _ hend⟩
          simp [results, Go.Proofs.Try.results21, go_sem, c1, c2]
    . rw [if_pos hk] at hz
      go_wp2
      refine leaves_cons (f := 42) (args := #[.pointer (some ⟨p0, 0, none⟩), .pointer (some ⟨p1, 0, none⟩), .pointer (some ⟨p2, 0, none⟩)]) (by simp) (by simp [go_sem]) ?_
      refine (((H6.out.putL (.slice (some ⟨lb, 0, none⟩) 2 2)).putC 7).out N (z3y N) (vals := [.agg #[.slice sa sn scap, .int .i64 ser], .string ⟨⟨tn⟩⟩, .string ⟨⟨key⟩⟩]) (hsv.mono (s4'.trans (s5.trans s6))) v6 hz hob hargs).mono ?_
      rintro r u w7 ⟨⟨v, rfl⟩, rfl, q, c1, c2, hend⟩
      refine ⟨_, ?_, HR.out _ _ hend⟩
      simp [results, Go.Proofs.Try.results21, go_sem, c1, c2]

end
end Go.Proofs.YtlohplpnhopldaaLg

set_option linter.all false
set_option maxRecDepth 100000
namespace Go.Proofs.YtlohplpnhopldaaLg
noncomputable section
open Go Go.Lift

def zdy : Code := (Go.Proofs.Try.f14.body).getD .skip

def zms : List (List Nat × List Nat) := [([0], [2, 4, 1]), ([0, 0, 1], [12, 4, 2, 1]), ([1, 0, 1], [2, 1, 4]), ([0, 0, 1, 0, 1], [4, 5]), ([1, 0, 1, 0, 1], [4, 5]), ([0, 1, 1], [1, 6, 4]), ([0, 0, 1, 1, 1], [18, 17, 16, 6, 4]), ([0, 1, 0, 1, 1, 1], [18, 17, 16, 6, 4]), ([0, 0, 0, 1, 0, 1, 1, 1], [19, 16, 18, 6, 4, 17]), ([0, 1, 0, 0, 1, 0, 1, 1, 1], [16, 18, 6, 4, 17]), ([1, 0, 1, 0, 0, 1, 0, 1, 1, 1], [6, 4]), ([0, 0, 0, 1, 1, 0, 0, 1, 0, 1, 1, 1], [6, 8, 4, 18, 17, 16]), ([0, 1, 0, 0, 1, 1, 0, 0, 1, 0, 1, 1, 1], [6, 8, 4, 18, 17, 16]), ([0, 1, 1, 0, 0, 1, 1, 0, 0, 1, 0, 1, 1, 1], [9, 4, 18, 17, 16, 6]), ([0, 1, 1, 1, 0, 0, 1, 1, 0, 0, 1, 0, 1, 1, 1], [29, 9, 4, 18, 17, 16, 6]), ([1, 1, 1, 1, 0, 0, 1, 1, 0, 0, 1, 0, 1, 1, 1], [18, 17, 16, 6, 4]), ([0, 0, 1, 1, 1, 1, 0, 0, 1, 1, 0, 0, 1, 0, 1, 1, 1], [4, 5]), ([1, 0, 1, 1, 1, 1, 0, 0, 1, 1, 0, 0, 1, 0, 1, 1, 1], [4, 5]), ([0, 1, 1, 0, 0, 1, 0, 1, 1, 1], [18, 17, 16, 6, 4]), ([1, 1, 1, 0, 0, 1, 0, 1, 1, 1], [18, 17, 16, 6, 4]), ([1, 0, 1, 1, 1], [6, 4]), ([0, 1, 1, 1, 1], [4, 5]), ([1, 1, 1, 1, 1], [4, 5])]

def zhd (N : Nat) : Env := z30 tys zh [(13, z7s N), (32, ziw N), (33, zj1 N)] [] [] [] false [] []

theorem zwc (N : Nat) : EnvOk Go.Proofs.Try.prog (zhd N) := zz mixed z1w (FnsOk.cons (z9j N) (FnsOk.cons (zum N) (FnsOk.cons (zux N) (FnsOk.nil)))) (ItsOk.nil)

def zqo (N : Nat) (x4 : ((List ((List UInt8) × (Int × (Int × ((List (Int × ((List UInt8) × Unit))) × Unit))))) × (Int × Unit))) (x16 : (List (Int × ((List UInt8) × (Int × (Int × ((List UInt8) × Unit))))))) (x17 : Int) (after : ((List ((List UInt8) × (Int × (Int × ((List (Int × ((List UInt8) × Unit))) × Unit))))) × (Int × Unit))) (x18 : Int) (rec : ((List ((List UInt8) × (Int × (Int × ((List (Int × ((List UInt8) × Unit))) × Unit))))) × (Int × Unit)) -> Int -> Option (((List ((List UInt8) × (Int × (Int × ((List (Int × ((List UInt8) × Unit))) × Unit))))) × (Int × Unit)) × Int × Unit)) (k0 : ((List ((List UInt8) × (Int × (Int × ((List (Int × ((List UInt8) × Unit))) × Unit))))) × (Int × Unit)) -> Int -> Option (((List ((List UInt8) × (Int × (Int × ((List (Int × ((List UInt8) × Unit))) × Unit))))) × (Int × Unit)) × Int × Unit)) (k1 : ((List ((List UInt8) × (Int × (Int × ((List (Int × ((List UInt8) × Unit))) × Unit))))) × (Int × Unit)) -> Option (((List ((List UInt8) × (Int × (Int × ((List (Int × ((List UInt8) × Unit))) × Unit))))) × (Int × Unit)) × Int × Unit)) : Option (((List ((List UInt8) × (Int × (Int × ((List (Int × ((List UInt8) × Unit))) × Unit))))) × (Int × Unit)) × Int × Unit) :=
 cond (decide (x18 < x17))
 (cond (Go.Lift.inR x18 (List.length x16))
 ((zmr N after (List.getD x16 (Int.toNat x18) ((0 : Int), (([] : List UInt8), ((0 : Int), ((0 : Int), (([] : List UInt8), ()))))))).bind fun y =>
 cond (y.2.1 != (0 : Int))
 (k0 (([] : List ((List UInt8) × (Int × (Int × ((List (Int × ((List UInt8) × Unit))) × Unit))))), ((0 : Int), ())) y.2.1)
 (rec y.1 (Go.IntKind.wrap Go.IntKind.i64 (x18 + (1 : Int)))))
 (none))
 (k1 after)

def zxz (N : Nat) (x4 : ((List ((List UInt8) × (Int × (Int × ((List (Int × ((List UInt8) × Unit))) × Unit))))) × (Int × Unit))) (after : ((List ((List UInt8) × (Int × (Int × ((List (Int × ((List UInt8) × Unit))) × Unit))))) × (Int × Unit))) (x16 : (List (Int × ((List UInt8) × (Int × (Int × ((List UInt8) × Unit))))))) (x17 : Int) (x18 : Int) (k0 : ((List ((List UInt8) × (Int × (Int × ((List (Int × ((List UInt8) × Unit))) × Unit))))) × (Int × Unit)) -> Int -> Option (((List ((List UInt8) × (Int × (Int × ((List (Int × ((List UInt8) × Unit))) × Unit))))) × (Int × Unit)) × Int × Unit)) (k1 : ((List ((List UInt8) × (Int × (Int × ((List (Int × ((List UInt8) × Unit))) × Unit))))) × (Int × Unit)) -> Option (((List ((List UInt8) × (Int × (Int × ((List (Int × ((List UInt8) × Unit))) × Unit))))) × (Int × Unit)) × Int × Unit)) : Option (((List ((List UInt8) × (Int × (Int × ((List (Int × ((List UInt8) × Unit))) × Unit))))) × (Int × Unit)) × Int × Unit) :=
 iter (fun (v : (((List ((List UInt8) × (Int × (Int × ((List (Int × ((List UInt8) × Unit))) × Unit))))) × (Int × Unit)) × Int)) r => zqo N x4 x16 x17 v.1 v.2 (fun after x18 => (r (after, x18))) k0 k1) N (after, x18)

def zqq (N : Nat) (i : (((List ((List UInt8) × (Int × (Int × ((List (Int × ((List UInt8) × Unit))) × Unit))))) × (Int × Unit)) × (List (Int × ((List UInt8) × (Int × (Int × ((List UInt8) × Unit)))))) × Int)) (v : (((List ((List UInt8) × (Int × (Int × ((List (Int × ((List UInt8) × Unit))) × Unit))))) × (Int × Unit)) × Int)) (r : (((List ((List UInt8) × (Int × (Int × ((List (Int × ((List UInt8) × Unit))) × Unit))))) × (Int × Unit)) × Int) -> Option (((List ((List UInt8) × (Int × (Int × ((List (Int × ((List UInt8) × Unit))) × Unit))))) × (Int × Unit)) × Int × Unit)) (K : Ex -> List A -> Option (((List ((List UInt8) × (Int × (Int × ((List (Int × ((List UInt8) × Unit))) × Unit))))) × (Int × Unit)) × Int × Unit)) : Option (((List ((List UInt8) × (Int × (Int × ((List (Int × ((List UInt8) × Unit))) × Unit))))) × (Int × Unit)) × Int × Unit) :=
 zqo N i.1 i.2.1 i.2.2 v.1 v.2 (fun after x18 => (r (after, x18))) (fun a0 a1 => (K .ret (mkS [(4, .box (.pair (.sl (.pair .str (.pair (.int .i64) (.pair (.int .i64) (.pair (.sl (.pair (.int .i64) (.pair .str .unit))) .unit))))) (.pair (.int .i64) .unit))), (0, .v (.int .i64))] 28 (a0, a1, ())))) (fun a1 => (K (.exit 0) (mkS [(4, .box (.pair (.sl (.pair .str (.pair (.int .i64) (.pair (.int .i64) (.pair (.sl (.pair (.int .i64) (.pair .str .unit))) .unit))))) (.pair (.int .i64) .unit))), (1, .box (.pair (.sl (.pair .str (.pair (.int .i64) (.pair (.int .i64) (.pair (.sl (.pair (.int .i64) (.pair .str .unit))) .unit))))) (.pair (.int .i64) .unit)))] 27 (i.1, a1, ()))))

def zqp (N : Nat) : Hd (((List ((List UInt8) × (Int × (Int × ((List (Int × ((List UInt8) × Unit))) × Unit))))) × (Int × Unit)) × Int × Unit) := fun st K => (unS [(4, .box (.pair (.sl (.pair .str (.pair (.int .i64) (.pair (.int .i64) (.pair (.sl (.pair (.int .i64) (.pair .str .unit))) .unit))))) (.pair (.int .i64) .unit))), (1, .box (.pair (.sl (.pair .str (.pair (.int .i64) (.pair (.int .i64) (.pair (.sl (.pair (.int .i64) (.pair .str .unit))) .unit))))) (.pair (.int .i64) .unit))), (9, .v (.sl (.pair (.int .i64) (.pair .str (.pair (.int .i64) (.pair (.int .i64) (.pair .str .unit))))))), (0, .v (.int .i64)), (0, .v (.int .i64))] 15 (restr [18, 17, 16, 6, 4] 0 st)).bind fun x => iter (fun v r => zqq N ((fun x => (x.1, x.2.2.1, x.2.2.2.1)) x) v r K) N ((fun x => (x.2.1, x.2.2.2.2.1)) x)

def zxy (N : Nat) : Tab (((List ((List UInt8) × (Int × (Int × ((List (Int × ((List UInt8) × Unit))) × Unit))))) × (Int × Unit)) × Int × Unit) := []

theorem zwb {N : Nat} {c : Ctx} (hb : Base Go.Proofs.Try.prog (zhd N) c) : z11 Go.Proofs.Try.prog c (zj zdy [0, 1, 0, 1, 1, 1]) (zqp N) :=
  z3p (s := [(4, .box (.pair (.sl (.pair .str (.pair (.int .i64) (.pair (.int .i64) (.pair (.sl (.pair (.int .i64) (.pair .str .unit))) .unit))))) (.pair (.int .i64) .unit))), (1, .box (.pair (.sl (.pair .str (.pair (.int .i64) (.pair (.int .i64) (.pair (.sl (.pair (.int .i64) (.pair .str .unit))) .unit))))) (.pair (.int .i64) .unit))), (9, .v (.sl (.pair (.int .i64) (.pair .str (.pair (.int .i64) (.pair (.int .i64) (.pair .str .unit))))))), (0, .v (.int .i64)), (0, .v (.int .i64))]) (m := 15) (zqq N) [18, 17, 16, 6, 4] N (fun x => (x.1, x.2.2.1, x.2.2.2.1)) (fun x => (x.2.1, x.2.2.2.2.1)) (fun i v => (i.1, v.1, i.2.1, i.2.2, v.2, ())) (fun _ => rfl) (zd hb N (zxy N) zms zdy TabOk.nil [0, 0, 1, 0, 1, 1, 1] _ rfl) (fun i v r K => by kernel_rfl)

def zuz (N : Nat) (s : ((List ((List UInt8) × (Int × (Int × ((List (Int × ((List UInt8) × Unit))) × Unit))))) × (Int × Unit))) (l : (List (Int × ((List UInt8) × (Int × (Int × ((List UInt8) × Unit))))))) : Option (((List ((List UInt8) × (Int × (Int × ((List (Int × ((List UInt8) × Unit))) × Unit))))) × (Int × Unit)) × Int × Unit) :=
 (z4q N s).bind fun y =>
 cond (!y)
 (some ((([] : List ((List UInt8) × (Int × (Int × ((List (Int × ((List UInt8) × Unit))) × Unit))))), ((0 : Int), ())), ((7 : Int), ())))
 ((zmp N s).bind fun y1 =>
 zxz N (([] : List ((List UInt8) × (Int × (Int × ((List (Int × ((List UInt8) × Unit))) × Unit))))), ((0 : Int), ())) y1 l (((List.length l) : Nat) : Int) (0 : Int)
 (fun x4 x5 => some (x4, (x5, ())))
 (fun after => some (after, ((0 : Int), ()))))

def ztk (N : Nat) : Tab (((List ((List UInt8) × (Int × (Int × ((List (Int × ((List UInt8) × Unit))) × Unit))))) × (Int × Unit)) × Int × Unit) := [([0, 1, 0, 1, 1, 1], zqp N)]

theorem zuy (N : Nat) (x : z29 [(0, .v (.pair (.sl (.pair .str (.pair (.int .i64) (.pair (.int .i64) (.pair (.sl (.pair (.int .i64) (.pair .str .unit))) .unit))))) (.pair (.int .i64) .unit))), (0, .v (.sl (.pair (.int .i64) (.pair .str (.pair (.int .i64) (.pair (.int .i64) (.pair .str .unit)))))))]) : z9s (zhd N) N (ztk N) zms Go.Proofs.Try.f14 (mkS [(0, .v (.pair (.sl (.pair .str (.pair (.int .i64) (.pair (.int .i64) (.pair (.sl (.pair (.int .i64) (.pair .str .unit))) .unit))))) (.pair (.int .i64) .unit))), (0, .v (.sl (.pair (.int .i64) (.pair .str (.pair (.int .i64) (.pair (.int .i64) (.pair .str .unit)))))))] 0 x) (z49 (.tup [(.pair (.sl (.pair .str (.pair (.int .i64) (.pair (.int .i64) (.pair (.sl (.pair (.int .i64) (.pair .str .unit))) .unit))))) (.pair (.int .i64) .unit)), (.int .i64)]) 2) = zuz N x.1 x.2.1 := by kernel_rfl

def zo9 (N : Nat) : List A -> Res := z1x [(0, .v (.pair (.sl (.pair .str (.pair (.int .i64) (.pair (.int .i64) (.pair (.sl (.pair (.int .i64) (.pair .str .unit))) .unit))))) (.pair (.int .i64) .unit))), (0, .v (.sl (.pair (.int .i64) (.pair .str (.pair (.int .i64) (.pair (.int .i64) (.pair .str .unit)))))))] (fun x => zuz N x.1 x.2.1) (z4j (.tup [(.pair (.sl (.pair .str (.pair (.int .i64) (.pair (.int .i64) (.pair (.sl (.pair (.int .i64) (.pair .str .unit))) .unit))))) (.pair (.int .i64) .unit)), (.int .i64)]) 2)

theorem zy0 (N : Nat) : Contract Go.Proofs.Try.prog zh 14 (zo9 N) :=
  Contract.of (E := zhd N) (H := ztk N) (L := zms) (N := N) (body := zdy) (K := (z49 (.tup [(.pair (.sl (.pair .str (.pair (.int .i64) (.pair (.int .i64) (.pair (.sl (.pair (.int .i64) (.pair .str .unit))) .unit))))) (.pair (.int .i64) .unit)), (.int .i64)]) 2)) (zwc N) Go.Proofs.Try.func14 (by kernel_rfl) (by decide) (fun _ hb => (TabOk.cons (zwb hb) TabOk.nil)) (fun x y h => by rw [zuy]; exact h) (z1n (s := (.tup [(.pair (.sl (.pair .str (.pair (.int .i64) (.pair (.int .i64) (.pair (.sl (.pair (.int .i64) (.pair .str .unit))) .unit))))) (.pair (.int .i64) .unit)), (.int .i64)])) (m := 2))

def zfe : Code := (Go.Proofs.Try.f7.body).getD .skip

def zb1 : List (List Nat × List Nat) := [([0], []), ([0, 1], [1, 2]), ([0, 1, 1], [3, 2, 4, 1]), ([0, 1, 1, 1], [2, 4, 1, 6, 5, 3]), ([0, 1, 1, 1, 1], [0]), ([1, 1, 1, 1, 1], [0])]

def z63 (N : Nat) : Env := z30 tys zh [(14, zo9 N), (11, zcp N), (19, zb4 N), (20, ze7 N)] [(1, (.pair (.int .i64) (.pair .str (.pair (.int .i64) (.pair (.int .i64) (.pair .str .unit)))))), (5, (.pair (.int .i64) (.pair .str (.pair (.int .i64) (.pair (.int .i64) (.pair .str .unit))))))] [] [] false [] []

theorem zgf (N : Nat) : EnvOk Go.Proofs.Try.prog (z63 N) := zz mixed z1w (FnsOk.cons (zy0 N) (FnsOk.cons (zlt N) (FnsOk.cons (zj5 N) (FnsOk.cons (zoh N) (FnsOk.nil))))) (ItsOk.nil)

def z36 (N : Nat) : Option Bool :=
 (zb5 N (([] : List ((List UInt8) × (Int × (Int × ((List (Int × ((List UInt8) × Unit))) × Unit))))), ((6 : Int), ())) ([(97 : UInt8), (99 : UInt8), (109 : UInt8), (101 : UInt8)] : List UInt8) ([(48 : UInt8), (49 : UInt8), (50 : UInt8), (51 : UInt8), (52 : UInt8), (53 : UInt8), (54 : UInt8), (55 : UInt8), (56 : UInt8), (57 : UInt8), (97 : UInt8), (98 : UInt8), (99 : UInt8), (100 : UInt8), (101 : UInt8), (102 : UInt8), (48 : UInt8), (49 : UInt8), (50 : UInt8), (51 : UInt8), (52 : UInt8), (53 : UInt8), (54 : UInt8), (55 : UInt8), (56 : UInt8), (57 : UInt8), (97 : UInt8), (98 : UInt8), (99 : UInt8), (100 : UInt8), (101 : UInt8), (102 : UInt8)] : List UInt8)).bind fun y =>
 (zuz N (([] : List ((List UInt8) × (Int × (Int × ((List (Int × ((List UInt8) × Unit))) × Unit))))), ((6 : Int), ())) y.1).bind fun y1 =>
 (zgq N y1.1 ([(97 : UInt8), (99 : UInt8), (109 : UInt8), (101 : UInt8)] : List UInt8)).bind fun y2 =>
 cond (y.2.1 == (0 : Int))
 (cond (y1.2.1 == (0 : Int))
 (cond ((((List.length y.1) : Nat) : Int) == (2 : Int))
 (cond (y2.2.1 == (0 : Int))
 (cond ((((List.length y2.1) : Nat) : Int) == (1 : Int))
 (cond (Go.Lift.inR (0 : Int) (List.length y2.1))
 (cond (Go.Lift.eqD (Go.Lift.unT EvT) (List.getD y2.1 0 ((0 : Int), (([] : List UInt8), ((0 : Int), ((0 : Int), (([] : List UInt8), ())))))) ((4 : Int), (([] : List UInt8), ((7 : Int), ((0 : Int), (([] : List UInt8), ()))))))
 ((z9p N y1.1).bind fun y3 =>
 some ((((List.length y3) : Nat) : Int) == (3 : Int)))
 (some false))
 (none))
 (some false))
 (some false))
 (some false))
 (some false))
 (some false)

def zb0 (N : Nat) : Tab Bool := []

theorem zfd (N : Nat) (x : z29 []) : z9s (z63 N) N (zb0 N) zb1 Go.Proofs.Try.f7 (mkS [] 0 x) (z49 (.v .bool) 0) = z36 N := by kernel_rfl

def z7z (N : Nat) : List A -> Res := z1x [] (fun x => z36 N) (z4j (.v .bool) 0)

theorem zin (N : Nat) : Contract Go.Proofs.Try.prog zh 7 (z7z N) :=
  Contract.of (E := z63 N) (H := zb0 N) (L := zb1) (N := N) (body := zfe) (K := (z49 (.v .bool) 0)) (zgf N) Go.Proofs.Try.func7 (by kernel_rfl) (by decide) (fun _ hb => TabOk.nil) (fun x y h => by rw [zfd]; exact h) (z1n (s := (.v .bool)) (m := 0))

def zgh : Code := (Go.Proofs.Try.f8.body).getD .skip

def zbu : List (List Nat × List Nat) := [([0], [0, 6, 2, 3, 4]), ([0, 0, 1], [13, 6, 2, 3, 0, 4]), ([1, 0, 1], [0, 6, 2, 3, 4]), ([0, 0, 1, 0, 1], [10, 11]), ([1, 0, 1, 0, 1], [10, 11]), ([0, 0, 1, 1], [21, 6, 2, 3, 0, 4]), ([1, 0, 1, 1], [0, 6, 2, 4]), ([0, 0, 1, 0, 1, 1], [10, 11]), ([1, 0, 1, 0, 1, 1], [10, 11]), ([0, 0, 1, 1, 1], [29, 6, 2, 4, 0]), ([1, 0, 1, 1, 1], [0, 6, 2]), ([0, 0, 1, 0, 1, 1, 1], [10, 11]), ([1, 0, 1, 0, 1, 1, 1], [10, 11]), ([0, 0, 1, 1, 1, 1], [37, 6, 2]), ([1, 0, 1, 1, 1, 1], [6, 2]), ([0, 0, 1, 0, 1, 1, 1, 1], [10, 11]), ([1, 0, 1, 0, 1, 1, 1, 1], [10, 11]), ([0, 1, 1, 1, 1, 1], [10, 11]), ([1, 1, 1, 1, 1, 1], [10, 11])]

def z6x (N : Nat) : Env := z30 tys zh [(19, zb4 N), (20, ze7 N), (21, zgm N), (22, zgo N), (23, zgn N)] [] [] [] false [] []

theorem zio (N : Nat) : EnvOk Go.Proofs.Try.prog (z6x N) := zz mixed z1w (FnsOk.cons (zj5 N) (FnsOk.cons (zoh N) (FnsOk.cons (zsp N) (FnsOk.cons (zsr N) (FnsOk.cons (zsq N) (FnsOk.nil)))))) (ItsOk.nil)

def z3w (N : Nat) (op : Int) (s : ((List ((List UInt8) × (Int × (Int × ((List (Int × ((List UInt8) × Unit))) × Unit))))) × (Int × Unit))) (name : (List UInt8)) (key : (List UInt8)) (num : Int) : Option ((List (Int × ((List UInt8) × (Int × (Int × ((List UInt8) × Unit)))))) × Int × Unit) :=
 cond (op == (1 : Int))
 ((zb5 N s name key).bind fun y =>
 some (y.1, (y.2.1, ())))
 (cond (op == (2 : Int))
 ((ze4 N s name key).bind fun y1 =>
 some (y1.1, (y1.2.1, ())))
 (cond (op == (3 : Int))
 ((ze6 N s name num).bind fun y2 =>
 some (y2.1, (y2.2.1, ())))
 (cond (op == (4 : Int))
 ((ze5 N s name).bind fun y3 =>
 some (y3.1, (y3.2.1, ())))
 ((zgq N s name).bind fun y4 =>
 some (y4.1, (y4.2.1, ()))))))

def zbt (N : Nat) : Tab ((List (Int × ((List UInt8) × (Int × (Int × ((List UInt8) × Unit)))))) × Int × Unit) := []

theorem zgg (N : Nat) (x : z29 [(0, .v (.int .i64)), (0, .v (.pair (.sl (.pair .str (.pair (.int .i64) (.pair (.int .i64) (.pair (.sl (.pair (.int .i64) (.pair .str .unit))) .unit))))) (.pair (.int .i64) .unit))), (0, .v .str), (0, .v .str), (0, .v (.int .i64))]) : z9s (z6x N) N (zbt N) zbu Go.Proofs.Try.f8 (mkS [(0, .v (.int .i64)), (0, .v (.pair (.sl (.pair .str (.pair (.int .i64) (.pair (.int .i64) (.pair (.sl (.pair (.int .i64) (.pair .str .unit))) .unit))))) (.pair (.int .i64) .unit))), (0, .v .str), (0, .v .str), (0, .v (.int .i64))] 0 x) (z49 (.tup [(.sl (.pair (.int .i64) (.pair .str (.pair (.int .i64) (.pair (.int .i64) (.pair .str .unit)))))), (.int .i64)]) 5) = z3w N x.1 x.2.1 x.2.2.1 x.2.2.2.1 x.2.2.2.2.1 := by kernel_rfl

def z9f (N : Nat) : List A -> Res := z1x [(0, .v (.int .i64)), (0, .v (.pair (.sl (.pair .str (.pair (.int .i64) (.pair (.int .i64) (.pair (.sl (.pair (.int .i64) (.pair .str .unit))) .unit))))) (.pair (.int .i64) .unit))), (0, .v .str), (0, .v .str), (0, .v (.int .i64))] (fun x => z3w N x.1 x.2.1 x.2.2.1 x.2.2.2.1 x.2.2.2.2.1) (z4j (.tup [(.sl (.pair (.int .i64) (.pair .str (.pair (.int .i64) (.pair (.int .i64) (.pair .str .unit)))))), (.int .i64)]) 5)

theorem zkd (N : Nat) : Contract Go.Proofs.Try.prog zh 8 (z9f N) :=
  Contract.of (E := z6x N) (H := zbt N) (L := zbu) (N := N) (body := zgh) (K := (z49 (.tup [(.sl (.pair (.int .i64) (.pair .str (.pair (.int .i64) (.pair (.int .i64) (.pair .str .unit)))))), (.int .i64)]) 5)) (zio N) Go.Proofs.Try.func8 (by kernel_rfl) (by decide) (fun _ hb => TabOk.nil) (fun x y h => by rw [zgg]; exact h) (z1n (s := (.tup [(.sl (.pair (.int .i64) (.pair .str (.pair (.int .i64) (.pair (.int .i64) (.pair .str .unit)))))), (.int .i64)])) (m := 5))

def zl : Code := (Go.Proofs.Try.f3.body).getD .skip

def z1i : List (List Nat × List Nat) := [([0], [3, 4, 2]), ([0, 0, 1], [19, 3, 4, 2]), ([1, 0, 1], [3, 4, 2]), ([0, 0, 1, 0, 1], [6]), ([1, 0, 1, 0, 1], [6]), ([0, 0, 1, 1], [7, 3, 4, 2]), ([0, 1, 0, 1, 1], [7, 3, 4, 2]), ([0, 0, 0, 0, 1, 0, 1, 1], [22, 7, 3, 4, 2]), ([1, 0, 0, 0, 1, 0, 1, 1], [7, 3, 4, 2]), ([1, 1, 0, 0, 0, 1, 0, 1, 1], [3]), ([0, 0, 0, 1, 0, 0, 1, 0, 1, 1], [7, 3, 4, 2, 9, 8]), ([0, 1, 0, 0, 1, 0, 0, 1, 0, 1, 1], [9, 11, 8, 10, 7, 3, 4, 2]), ([0, 1, 1, 0, 0, 1, 0, 0, 1, 0, 1, 1], [55, 7, 3, 4, 2]), ([1, 1, 1, 0, 0, 1, 0, 0, 1, 0, 1, 1], [7, 3, 4, 2]), ([0, 0, 1, 1, 1, 0, 0, 1, 0, 0, 1, 0, 1, 1], [6]), ([1, 0, 1, 1, 1, 0, 0, 1, 0, 0, 1, 0, 1, 1], [6]), ([0, 1, 0, 0, 1, 0, 1, 1], [7, 3, 4, 2]), ([1, 1, 0, 0, 1, 0, 1, 1], [7, 3, 4, 2]), ([1, 0, 1, 1], [3]), ([0, 1, 1, 1], [6]), ([1, 1, 1, 1], [6])]

def z19 (N : Nat) : Env := z30 tys zh [(8, z9f N), (7, z7z N), (6, z7x N), (9, z8j N), (10, z5j N), (11, zcp N), (12, z7w N)] [] [] [] false [] []

theorem zcg (N : Nat) : EnvOk Go.Proofs.Try.prog (z19 N) := zz mixed z1w (FnsOk.cons (zkd N) (FnsOk.cons (zin N) (FnsOk.cons (zic N) (FnsOk.cons (zjz N) (FnsOk.cons (zdb N) (FnsOk.cons (zlt N) (FnsOk.cons (zhw N) (FnsOk.nil)))))))) (ItsOk.nil)

def z3a (N : Nat) (num : Int) (s : ((List ((List UInt8) × (Int × (Int × ((List (Int × ((List UInt8) × Unit))) × Unit))))) × (Int × Unit))) (l : (List (List UInt8))) (k0 : Bool -> Option Bool) : Option Bool :=
 (z35 N s).bind fun y =>
 cond y
 (k0 true)
 (cond (decide (0 < (List.length l)))
 (k0 (decide ((100 : Int) < (((List.length (List.getD l 0 ([] : List UInt8))) : Nat) : Int))))
 (none))

def z6l (N : Nat) (x : z29 [(2, .v (.int .i64)), (0, .box (.pair (.sl (.pair .str (.pair (.int .i64) (.pair (.int .i64) (.pair (.sl (.pair (.int .i64) (.pair .str .unit))) .unit))))) (.pair (.int .i64) .unit))), (0, .box (.arr 2 .str))]) (K : Ex -> List A -> Option Bool) : Option Bool :=
 z3a N x.1 x.2.1 x.2.2.1 (fun a3 => (K .normal (mkS [(2, .v (.int .i64)), (0, .box (.pair (.sl (.pair .str (.pair (.int .i64) (.pair (.int .i64) (.pair (.sl (.pair (.int .i64) (.pair .str .unit))) .unit))))) (.pair (.int .i64) .unit))), (0, .box (.arr 2 .str)), (14, .v .bool)] 44 (x.1, x.2.1, x.2.2.1, a3, ()))))

def z6g (N : Nat) : Hd Bool := fun st K => (unS [(2, .v (.int .i64)), (0, .box (.pair (.sl (.pair .str (.pair (.int .i64) (.pair (.int .i64) (.pair (.sl (.pair (.int .i64) (.pair .str .unit))) .unit))))) (.pair (.int .i64) .unit))), (0, .box (.arr 2 .str))] 59 (restr [3, 4, 2] 0 st)).bind fun x => z6l N x K

def zd7 (N : Nat) : Tab Bool := []

theorem zce {N : Nat} {c : Ctx} (hb : Base Go.Proofs.Try.prog (z19 N) c) : z11 Go.Proofs.Try.prog c (zj zl [0, 0, 1]) (z6g N) :=
  z1a (s := [(2, .v (.int .i64)), (0, .box (.pair (.sl (.pair .str (.pair (.int .i64) (.pair (.int .i64) (.pair (.sl (.pair (.int .i64) (.pair .str .unit))) .unit))))) (.pair (.int .i64) .unit))), (0, .box (.arr 2 .str))]) (m := 59) (g := z6l N) [3, 4, 2] (zd hb N (zd7 N) z1i zl TabOk.nil [0, 0, 1] _ rfl) (fun x K => by kernel_rfl)

def z3b (N : Nat) (num : Int) (s : ((List ((List UInt8) × (Int × (Int × ((List (Int × ((List UInt8) × Unit))) × Unit))))) × (Int × Unit))) (l : (List (List UInt8))) (k0 : Bool -> Option Bool) (k1 : Option Bool) : Option Bool :=
 z3a N num s l
 (fun x19 => cond x19
 ((z36 N).bind fun y =>
 k0 y)
 (k1))

def z6m (N : Nat) (x : z29 [(2, .v (.int .i64)), (0, .box (.pair (.sl (.pair .str (.pair (.int .i64) (.pair (.int .i64) (.pair (.sl (.pair (.int .i64) (.pair .str .unit))) .unit))))) (.pair (.int .i64) .unit))), (0, .box (.arr 2 .str))]) (K : Ex -> List A -> Option Bool) : Option Bool :=
 z3b N x.1 x.2.1 x.2.2.1 (fun a0 => (K .ret (mkS [(6, .v .bool)] 57 (a0, ())))) (K .normal (mkS [(2, .v (.int .i64)), (0, .box (.pair (.sl (.pair .str (.pair (.int .i64) (.pair (.int .i64) (.pair (.sl (.pair (.int .i64) (.pair .str .unit))) .unit))))) (.pair (.int .i64) .unit))), (0, .box (.arr 2 .str))] 59 (x.1, x.2.1, x.2.2.1, ())))

def z6h (N : Nat) : Hd Bool := fun st K => (unS [(2, .v (.int .i64)), (0, .box (.pair (.sl (.pair .str (.pair (.int .i64) (.pair (.int .i64) (.pair (.sl (.pair (.int .i64) (.pair .str .unit))) .unit))))) (.pair (.int .i64) .unit))), (0, .box (.arr 2 .str))] 59 (restr [3, 4, 2] 0 st)).bind fun x => z6m N x K

def zd8 (N : Nat) : Tab Bool := [([0, 0, 1], z6g N)]

theorem zcf {N : Nat} {c : Ctx} (hb : Base Go.Proofs.Try.prog (z19 N) c) : z11 Go.Proofs.Try.prog c (zj zl [0, 1]) (z6h N) :=
  z1a (s := [(2, .v (.int .i64)), (0, .box (.pair (.sl (.pair .str (.pair (.int .i64) (.pair (.int .i64) (.pair (.sl (.pair (.int .i64) (.pair .str .unit))) .unit))))) (.pair (.int .i64) .unit))), (0, .box (.arr 2 .str))]) (m := 59) (g := z6m N) [3, 4, 2] (zd hb N (zd8 N) z1i zl (TabOk.cons (zce hb) TabOk.nil) [0, 1] _ rfl) (fun x K => by kernel_rfl)

def z38 (N : Nat) (num : Int) (s : ((List ((List UInt8) × (Int × (Int × ((List (Int × ((List UInt8) × Unit))) × Unit))))) × (Int × Unit))) (l : (List (List UInt8))) (op : Int) (a : (List (Int × ((List UInt8) × (Int × (Int × ((List UInt8) × Unit))))))) (e : Int) (b : (List (Int × ((List UInt8) × (Int × (Int × ((List UInt8) × Unit))))))) (f : Int) (k0 : Bool -> Option Bool) : Option Bool :=
 cond (e != f)
 (k0 true)
 ((z20 N a b).bind fun y =>
 k0 (!y))

def z6i (N : Nat) (x : z29 [(2, .v (.int .i64)), (0, .box (.pair (.sl (.pair .str (.pair (.int .i64) (.pair (.int .i64) (.pair (.sl (.pair (.int .i64) (.pair .str .unit))) .unit))))) (.pair (.int .i64) .unit))), (0, .box (.arr 2 .str)), (2, .v (.int .i64)), (0, .v (.sl (.pair (.int .i64) (.pair .str (.pair (.int .i64) (.pair (.int .i64) (.pair .str .unit))))))), (0, .v (.int .i64)), (0, .v (.sl (.pair (.int .i64) (.pair .str (.pair (.int .i64) (.pair (.int .i64) (.pair .str .unit))))))), (0, .v (.int .i64))]) (K : Ex -> List A -> Option Bool) : Option Bool :=
 z38 N x.1 x.2.1 x.2.2.1 x.2.2.2.1 x.2.2.2.2.1 x.2.2.2.2.2.1 x.2.2.2.2.2.2.1 x.2.2.2.2.2.2.2.1 (fun a4 => (K .normal (mkS [(2, .v (.int .i64)), (0, .box (.pair (.sl (.pair .str (.pair (.int .i64) (.pair (.int .i64) (.pair (.sl (.pair (.int .i64) (.pair .str .unit))) .unit))))) (.pair (.int .i64) .unit))), (0, .box (.arr 2 .str)), (2, .v (.int .i64)), (47, .v .bool)] 8 (x.1, x.2.1, x.2.2.1, x.2.2.2.1, a4, ()))))

def z6d (N : Nat) : Hd Bool := fun st K => (unS [(2, .v (.int .i64)), (0, .box (.pair (.sl (.pair .str (.pair (.int .i64) (.pair (.int .i64) (.pair (.sl (.pair (.int .i64) (.pair .str .unit))) .unit))))) (.pair (.int .i64) .unit))), (0, .box (.arr 2 .str)), (2, .v (.int .i64)), (0, .v (.sl (.pair (.int .i64) (.pair .str (.pair (.int .i64) (.pair (.int .i64) (.pair .str .unit))))))), (0, .v (.int .i64)), (0, .v (.sl (.pair (.int .i64) (.pair .str (.pair (.int .i64) (.pair (.int .i64) (.pair .str .unit))))))), (0, .v (.int .i64))] 52 (restr [9, 11, 8, 10, 7, 3, 4, 2] 0 st)).bind fun x => z6i N x K

def zd4 (N : Nat) : Tab Bool := []

theorem zcb {N : Nat} {c : Ctx} (hb : Base Go.Proofs.Try.prog (z19 N) c) : z11 Go.Proofs.Try.prog c (zj zl [0, 1, 1, 0, 0, 1, 0, 0, 1, 0, 1, 1]) (z6d N) :=
  z1a (s := [(2, .v (.int .i64)), (0, .box (.pair (.sl (.pair .str (.pair (.int .i64) (.pair (.int .i64) (.pair (.sl (.pair (.int .i64) (.pair .str .unit))) .unit))))) (.pair (.int .i64) .unit))), (0, .box (.arr 2 .str)), (2, .v (.int .i64)), (0, .v (.sl (.pair (.int .i64) (.pair .str (.pair (.int .i64) (.pair (.int .i64) (.pair .str .unit))))))), (0, .v (.int .i64)), (0, .v (.sl (.pair (.int .i64) (.pair .str (.pair (.int .i64) (.pair (.int .i64) (.pair .str .unit))))))), (0, .v (.int .i64))]) (m := 52) (g := z6i N) [9, 11, 8, 10, 7, 3, 4, 2] (zd hb N (zd4 N) z1i zl TabOk.nil [0, 1, 1, 0, 0, 1, 0, 0, 1, 0, 1, 1] _ rfl) (fun x K => by kernel_rfl)

def z39 (N : Nat) (num : Int) (s : ((List ((List UInt8) × (Int × (Int × ((List (Int × ((List UInt8) × Unit))) × Unit))))) × (Int × Unit))) (l : (List (List UInt8))) (op : Int) (k0 : Bool -> Option Bool) (k1 : Option Bool) : Option Bool :=
 cond (decide (0 < (List.length l)))
 (cond (decide (1 < (List.length l)))
 ((z3w N op s (List.getD l 0 ([] : List UInt8)) (List.getD l 1 ([] : List UInt8)) num).bind fun y =>
 cond (decide (0 < (List.length l)))
 (cond (decide (1 < (List.length l)))
 ((z3v N op s (List.getD l 0 ([] : List UInt8)) (List.getD l 1 ([] : List UInt8)) num).bind fun y1 =>
 z38 N num s l op y.1 y.2.1 y1.1 y1.2.1
 (fun x55 => cond x55
 (k0 false)
 (k1)))
 (none))
 (none))
 (none))
 (none)

def z6j (N : Nat) (x : z29 [(2, .v (.int .i64)), (0, .box (.pair (.sl (.pair .str (.pair (.int .i64) (.pair (.int .i64) (.pair (.sl (.pair (.int .i64) (.pair .str .unit))) .unit))))) (.pair (.int .i64) .unit))), (0, .box (.arr 2 .str)), (2, .v (.int .i64))]) (K : Ex -> List A -> Option Bool) : Option Bool :=
 z39 N x.1 x.2.1 x.2.2.1 x.2.2.2.1 (fun a0 => (K .ret (mkS [(6, .v .bool)] 57 (a0, ())))) (K .normal (mkS [(2, .v (.int .i64)), (0, .box (.pair (.sl (.pair .str (.pair (.int .i64) (.pair (.int .i64) (.pair (.sl (.pair (.int .i64) (.pair .str .unit))) .unit))))) (.pair (.int .i64) .unit))), (0, .box (.arr 2 .str)), (2, .v (.int .i64))] 56 (x.1, x.2.1, x.2.2.1, x.2.2.2.1, ())))

def z6e (N : Nat) : Hd Bool := fun st K => (unS [(2, .v (.int .i64)), (0, .box (.pair (.sl (.pair .str (.pair (.int .i64) (.pair (.int .i64) (.pair (.sl (.pair (.int .i64) (.pair .str .unit))) .unit))))) (.pair (.int .i64) .unit))), (0, .box (.arr 2 .str)), (2, .v (.int .i64))] 56 (restr [7, 3, 4, 2] 0 st)).bind fun x => z6j N x K

def zd5 (N : Nat) : Tab Bool := [([0, 1, 1, 0, 0, 1, 0, 0, 1, 0, 1, 1], z6d N)]

theorem zcc {N : Nat} {c : Ctx} (hb : Base Go.Proofs.Try.prog (z19 N) c) : z11 Go.Proofs.Try.prog c (zj zl [0, 1, 0, 0, 1, 0, 1, 1]) (z6e N) :=
  z1a (s := [(2, .v (.int .i64)), (0, .box (.pair (.sl (.pair .str (.pair (.int .i64) (.pair (.int .i64) (.pair (.sl (.pair (.int .i64) (.pair .str .unit))) .unit))))) (.pair (.int .i64) .unit))), (0, .box (.arr 2 .str)), (2, .v (.int .i64))]) (m := 56) (g := z6j N) [7, 3, 4, 2] (zd hb N (zd5 N) z1i zl (TabOk.cons (zcb hb) TabOk.nil) [0, 1, 0, 0, 1, 0, 1, 1] _ rfl) (fun x K => by kernel_rfl)

def z37 (N : Nat) (num : Int) (s : ((List ((List UInt8) × (Int × (Int × ((List (Int × ((List UInt8) × Unit))) × Unit))))) × (Int × Unit))) (l : (List (List UInt8))) (op : Int) (rec : Int -> Option Bool) (k0 : Bool -> Option Bool) (k1 : Option Bool) : Option Bool :=
 cond (decide (op <= (5 : Int)))
 (z39 N num s l op
 (fun x6 => k0 x6)
 (rec (Go.IntKind.wrap Go.IntKind.i64 (op + (1 : Int)))))
 (k1)

def z6c (N : Nat) (num : Int) (s : ((List ((List UInt8) × (Int × (Int × ((List (Int × ((List UInt8) × Unit))) × Unit))))) × (Int × Unit))) (l : (List (List UInt8))) (op : Int) (k0 : Bool -> Option Bool) (k1 : Option Bool) : Option Bool :=
 iter (fun (v : Int) r => z37 N num s l v (fun op => (r op)) k0 k1) N op

def z6k (N : Nat) (i : (Int × ((List ((List UInt8) × (Int × (Int × ((List (Int × ((List UInt8) × Unit))) × Unit))))) × (Int × Unit)) × (List (List UInt8)))) (v : Int) (r : Int -> Option Bool) (K : Ex -> List A -> Option Bool) : Option Bool :=
 z37 N i.1 i.2.1 i.2.2 v (fun op => (r op)) (fun a0 => (K .ret (mkS [(6, .v .bool)] 57 (a0, ())))) (K (.exit 0) (mkS [(3, .box (.pair (.sl (.pair .str (.pair (.int .i64) (.pair (.int .i64) (.pair (.sl (.pair (.int .i64) (.pair .str .unit))) .unit))))) (.pair (.int .i64) .unit)))] 60 (i.2.1, ())))

def z6f (N : Nat) : Hd Bool := fun st K => (unS [(2, .v (.int .i64)), (0, .box (.pair (.sl (.pair .str (.pair (.int .i64) (.pair (.int .i64) (.pair (.sl (.pair (.int .i64) (.pair .str .unit))) .unit))))) (.pair (.int .i64) .unit))), (0, .box (.arr 2 .str)), (2, .v (.int .i64))] 56 (restr [7, 3, 4, 2] 0 st)).bind fun x => iter (fun v r => z6k N ((fun x => (x.1, x.2.1, x.2.2.1)) x) v r K) N ((fun x => x.2.2.2.1) x)

def zd6 (N : Nat) : Tab Bool := [([0, 1, 0, 0, 1, 0, 1, 1], z6e N)]

theorem zcd {N : Nat} {c : Ctx} (hb : Base Go.Proofs.Try.prog (z19 N) c) : z11 Go.Proofs.Try.prog c (zj zl [0, 1, 0, 1, 1]) (z6f N) :=
  z3p (s := [(2, .v (.int .i64)), (0, .box (.pair (.sl (.pair .str (.pair (.int .i64) (.pair (.int .i64) (.pair (.sl (.pair (.int .i64) (.pair .str .unit))) .unit))))) (.pair (.int .i64) .unit))), (0, .box (.arr 2 .str)), (2, .v (.int .i64))]) (m := 56) (z6k N) [7, 3, 4, 2] N (fun x => (x.1, x.2.1, x.2.2.1)) (fun x => x.2.2.2.1) (fun i v => (i.1, i.2.1, i.2.2, v, ())) (fun _ => rfl) (zd hb N (zd6 N) z1i zl (TabOk.cons (zcc hb) TabOk.nil) [0, 0, 1, 0, 1, 1] _ rfl) (fun i v r K => by kernel_rfl)

def z1z (N : Nat) (s : ((List ((List UInt8) × (Int × (Int × ((List (Int × ((List UInt8) × Unit))) × Unit))))) × (Int × Unit))) (l : (List (List UInt8))) (num : Int) : Option Bool :=
 z3b N num s l
 (fun x6 => some x6)
 (z6c N num s l (1 : Int)
 (fun x61 => some x61)
 ((z9p N s).bind fun y =>
 (z34 N s).bind fun y1 =>
 (z20 N y y1).bind fun y2 =>
 cond y2
 ((z36 N).bind fun y3 =>
 some y3)
 (some false)))

def z6y (N : Nat) : Tab Bool := [([0, 1], z6h N), ([0, 1, 0, 1, 1], z6f N)]

theorem zbf (N : Nat) (x : z29 [(0, .v (.pair (.sl (.pair .str (.pair (.int .i64) (.pair (.int .i64) (.pair (.sl (.pair (.int .i64) (.pair .str .unit))) .unit))))) (.pair (.int .i64) .unit))), (0, .v (.arr 2 .str)), (0, .v (.int .i64))]) : z9s (z19 N) N (z6y N) z1i Go.Proofs.Try.f3 (mkS [(0, .v (.pair (.sl (.pair .str (.pair (.int .i64) (.pair (.int .i64) (.pair (.sl (.pair (.int .i64) (.pair .str .unit))) .unit))))) (.pair (.int .i64) .unit))), (0, .v (.arr 2 .str)), (0, .v (.int .i64))] 0 x) (z49 (.v .bool) 3) = z1z N x.1 x.2.1 x.2.2.1 := by kernel_rfl

def zca (N : Nat) : List A -> Res := z1x [(0, .v (.pair (.sl (.pair .str (.pair (.int .i64) (.pair (.int .i64) (.pair (.sl (.pair (.int .i64) (.pair .str .unit))) .unit))))) (.pair (.int .i64) .unit))), (0, .v (.arr 2 .str)), (0, .v (.int .i64))] (fun x => z1z N x.1 x.2.1 x.2.2.1) (z4j (.v .bool) 3)

theorem zd9 (N : Nat) : Contract Go.Proofs.Try.prog zh 3 (zca N) :=
  Contract.of (E := z19 N) (H := z6y N) (L := z1i) (N := N) (body := zl) (K := (z49 (.v .bool) 3)) (zcg N) Go.Proofs.Try.func3 (by kernel_rfl) (by decide) (fun _ hb => (TabOk.cons (zcf hb) (TabOk.cons (zcd hb) TabOk.nil))) (fun x y h => by rw [zbf]; exact h) (z1n (s := (.v .bool)) (m := 3))

end
end Go.Proofs.YtlohplpnhopldaaLg

set_option linter.all false
set_option maxRecDepth 100000
namespace Go.Proofs.YtlohplpnhopldaaLg
noncomputable section
open Go Go.Lift Go.Proofs.YtlohplpnhopldaaPx

abbrev EvD := Int × (List UInt8 × (Int × (Int × (List UInt8 × Unit))))

def zkp {α : Type} (p : α -> Bool) : List α -> Nat -> Int
  | [], _ => -1
  | x :: l, i => if p x then (i : Int) else zkp p l (i + 1)

theorem zrq {α : Type} (p : α -> Bool) : ∀ (l : List α) (i : Nat), (zkp p l i = -1 /\ ∀ x ∈ l, p x = false) \/ ∃ j : Nat, zkp p l i = ((i + j : Nat) : Int) /\ ∃ h : j < l.length, p l[j] = true
  | [], i => .inl ⟨rfl, fun x hx => by cases hx⟩
  | x :: l, i => by
    rw [zkp]
    cases hp : p x with
    | true => exact .inr ⟨0, by simp, by simp, hp⟩
    | false =>
      simp only [Bool.false_eq_true, if_false]
      rcases zrq p l (i + 1) with ⟨h1, h2⟩ | ⟨j, h1, h2, h3⟩
      . refine .inl ⟨h1, fun y hy => ?_⟩
        rcases List.mem_cons.1 hy with rfl | hy
        . exact hp
        . exact h2 y hy
      . exact .inr ⟨j + 1, by rw [h1]; congr 1; omega, by simpa using h2, by simpa using h3⟩

theorem z125 {p : Option (List UInt8)} {t : zhk} {l : List zhk} : zdl p (t :: l) = true ↔ upL p t.1 = true /\ z10j t = true /\ zdl (some t.1) l = true := by
  rw [zdl]; simp only [Bool.and_eq_true]

theorem zks : ∀ {l : List zhk} {p : Option (List UInt8)}, zdl p l = true -> ∀ x ∈ l, z10j x = true
  | [], _, _, x, hx => by cases hx
  | t :: l, p, h, x, hx => by
    obtain ⟨h1, h2, h3⟩ := z125.1 h
    rcases List.mem_cons.1 hx with rfl | hx
    . exact h2
    . exact zks h3 x hx

theorem zct {t : zhk} (h : z10j t = true) : zmi t.1 = true /\ zu1 t.2.1 0 = true /\ zu1 t.2.2.1 1 = true /\ t.2.2.2.1.length <= 8 /\ zm1 t.2.2.1 0 t.2.2.2.1 = true := by
  unfold z10j at h
  simp only [Bool.and_eq_true, decide_eq_true_eq] at h
  exact ⟨h.1, h.2.1, h.2.2.1, h.2.2.2.1, h.2.2.2.2⟩

theorem z11i {x low : Int} : zu1 x low = true ↔ low <= x /\ x <= 1099511627776 := by
  unfold zu1; simp only [Bool.and_eq_true, decide_eq_true_eq]

theorem zdz {s : zdj} : z5i s = true ↔ s.1.length <= 16 /\ zu1 s.2.1 0 = true /\ zdl none s.1 = true := by
  unfold z5i; simp only [Bool.and_eq_true, decide_eq_true_eq]


end
end Go.Proofs.YtlohplpnhopldaaLg

set_option linter.all false
set_option maxRecDepth 100000
namespace Go.Proofs.YtlohplpnhopldaaLg
noncomputable section
open Go Go.Lift Go.Proofs.YtlohplpnhopldaaPx

theorem zm7 {α : Type} (p : α -> Bool) {s : List α} {i : Nat} (hi : i < s.length) : zkp p (s.drop i) i = if p s[i] then (i : Int) else zkp p (s.drop (i + 1)) (i + 1) := by
  rw [List.drop_eq_getElem_cons hi]
  rfl

theorem zyj (N : Nat) {s : List z10g} {f : Int × Unit} (hl : s.length <= 1000) (hN : s.length < N) : zm6 N s f = some (zkp (fun k => k.1 == f.1) s 0) := by
  rw [zm6, zrn]
  refine (z3q (fun v => ∃ (i : Nat), v = (i : Int) /\ i <= s.length) (fun v => s.length - v.toNat) (fun v => some (zkp (fun k => k.1 == f.1) (s.drop v.toNat) v.toNat)) ?_ N 0 ⟨0, rfl, Nat.zero_le _⟩ (by simpa using hN)).trans (by simp)
  rintro v r ⟨i, rfl, hi⟩ hr
  rw [zkj]
  simp only [Int.toNat_natCast]
  rcases Nat.lt_or_ge i s.length with hlt | hge
  . rw [zf (z3t (by omega)), zf (z1o hlt), zm7 _ hlt, z2h (by omega), hr _ ⟨i + 1, rfl, by omega⟩ (by simp; omega), Int.toNat_natCast]
    have hg : s.getD i ((0 : Int), (([] : List UInt8), ())) = s[i] := by simp [List.getD, List.getElem?_eq_getElem hlt]
    rw [hg]
    cases s[i].1 == f.1 <;> rfl
  . rw [zy (z46 (by omega)), List.drop_of_length_le hge]
    rfl

theorem z11m (N : Nat) {ks : List z10g} {num : Int} (hl : ks.length <= 1000) (hN : ks.length < N) : z69 N ks num = some (zkp (fun k => k.1 == num) ks 0) := by
  rw [z69, zyj N hl hN]
  rfl

theorem zt5 (N : Nat) {s : List zhk} {f : List UInt8 × Unit} (hl : s.length <= 1000) (hN : s.length < N) : zba N s f = some (zkp (fun k => k.1 == f.1) s 0) := by
  rw [zba, zjg]
  refine (z3q (fun v => ∃ (i : Nat), v = (i : Int) /\ i <= s.length) (fun v => s.length - v.toNat) (fun v => some (zkp (fun k => k.1 == f.1) (s.drop v.toNat) v.toNat)) ?_ N 0 ⟨0, rfl, Nat.zero_le _⟩ (by simpa using hN)).trans (by simp)
  rintro v r ⟨i, rfl, hi⟩ hr
  rw [zcq]
  simp only [Int.toNat_natCast]
  rcases Nat.lt_or_ge i s.length with hlt | hge
  . rw [zf (z3t (by omega)), zf (z1o hlt), zm7 _ hlt, z2h (by omega), hr _ ⟨i + 1, rfl, by omega⟩ (by simp; omega), Int.toNat_natCast]
    have hg : s.getD i (([] : List UInt8), ((0 : Int), ((0 : Int), (([] : List (Int × (List UInt8 × Unit))), ())))) = s[i] := by simp [List.getD, List.getElem?_eq_getElem hlt]
    rw [hg]
    cases s[i].1 == f.1 <;> rfl
  . rw [zy (z46 (by omega)), List.drop_of_length_le hge]
    rfl

theorem zrv (N : Nat) {s : zdj} {nm : List UInt8} (hl : s.1.length <= 1000) (hN : s.1.length < N) : z6t N s nm = some (zkp (fun t => t.1 == nm) s.1 0) := by
  rw [z6t, zt5 N hl hN]
  rfl

end
end Go.Proofs.YtlohplpnhopldaaLg

set_option linter.all false
set_option maxRecDepth 100000
namespace Go.Proofs.YtlohplpnhopldaaLg
noncomputable section
open Go Go.Lift Go.Proofs.YtlohplpnhopldaaPx

theorem zy1 (N : Nat) {s : List z10g} {num : Int} (hl : s.length <= 1000) (hN : s.length < N) : z4d N s num = some (zkp (fun k => k.1 == num) s 0) := by
  rw [z4d, zbn]
  refine (z3q (fun v => ∃ (i : Nat), v = (i : Int) /\ i <= s.length) (fun v => s.length - v.toNat) (fun v => some (zkp (fun k => k.1 == num) (s.drop v.toNat) v.toNat)) ?_ N 0 ⟨0, rfl, Nat.zero_le _⟩ (by simpa using hN)).trans (by simp)
  rintro v r ⟨i, rfl, hi⟩ hr
  rw [z6u]
  simp only [Int.toNat_natCast]
  rcases Nat.lt_or_ge i s.length with hlt | hge
  . rw [zf (z3t (by omega)), zf (z1o hlt), zm7 _ hlt, z2h (by omega), hr _ ⟨i + 1, rfl, by omega⟩ (by simp; omega), Int.toNat_natCast]
    have hg : s.getD i ((0 : Int), (([] : List UInt8), ())) = s[i] := by simp [List.getD, List.getElem?_eq_getElem hlt]
    rw [hg]
    cases s[i].1 == num <;> rfl
  . rw [zy (z46 (by omega)), List.drop_of_length_le hge]
    rfl

theorem zoc (N : Nat) {s : zdj} {nm : List UInt8} (hl : s.1.length <= 1000) (hN : s.1.length < N) : z2u N s nm = some (zkp (fun t => t.1 == nm) s.1 0) := by
  rw [z2u, zag]
  refine (z3q (fun v => ∃ (i : Nat), v = (i : Int) /\ i <= s.1.length) (fun v => s.1.length - v.toNat) (fun v => some (zkp (fun t => t.1 == nm) (s.1.drop v.toNat) v.toNat)) ?_ N 0 ⟨0, rfl, Nat.zero_le _⟩ (by simpa using hN)).trans (by simp)
  rintro v r ⟨i, rfl, hi⟩ hr
  rw [z5x]
  simp only [Int.toNat_natCast]
  rcases Nat.lt_or_ge i s.1.length with hlt | hge
  . rw [zf (z3t (by omega)), zf (z1o hlt), zm7 _ hlt, z2h (by omega), hr _ ⟨i + 1, rfl, by omega⟩ (by simp; omega), Int.toNat_natCast]
    have hg : s.1.getD i (([] : List UInt8), ((0 : Int), ((0 : Int), (([] : List (Int × (List UInt8 × Unit))), ())))) = s.1[i] := by simp [List.getD, List.getElem?_eq_getElem hlt]
    rw [hg]
    cases s.1[i].1 == nm <;> rfl
  . rw [zy (z46 (by omega)), List.drop_of_length_le hge]
    rfl


end
end Go.Proofs.YtlohplpnhopldaaLg

set_option linter.all false
set_option maxRecDepth 100000
namespace Go.Proofs.YtlohplpnhopldaaLg
noncomputable section
open Go Go.Lift Go.Proofs.YtlohplpnhopldaaPx

def Few (s : zdj) : Prop := s.1.length <= 20 /\ ∀ t ∈ s.1, t.2.2.2.1.length <= 12 /\ t.1.length <= 100

def atL (s : zdj) (tn : List UInt8) : Int := zkp (fun t => t.1 == tn) s.1 0

def z1l (s : zdj) (tn : List UInt8) : zhk := s.1.getD (atL s tn).toNat zbh

theorem zkn (s : zdj) (tn : List UInt8) : (atL s tn = -1 /\ ∀ x ∈ s.1, x.1 ≠ tn) \/ ∃ j : Nat, atL s tn = (j : Int) /\ j < s.1.length /\ z1l s tn = s.1.getD j zbh /\ (z1l s tn).1 = tn := by
  rcases zrq (fun t : zhk => t.1 == tn) s.1 0 with ⟨h1, h2⟩ | ⟨j, h1, hj, h3⟩
  . exact .inl ⟨h1, fun x hx e => by have := h2 x hx; rw [e, beq_self_eq_true] at this; cases this⟩
  . rw [Nat.zero_add] at h1
    have e : z1l s tn = s.1.getD j zbh := by unfold z1l atL; rw [h1, Int.toNat_natCast]
    refine .inr ⟨j, h1, hj, e, ?_⟩
    rw [e]
    simp only [List.getD_eq_getElem?_getD, List.getElem?_eq_getElem hj, Option.getD_some]
    exact beq_iff_eq.1 h3

theorem zyn {s : zdj} (h : Few s) (tn : List UInt8) : (z1l s tn).2.2.2.1.length <= 12 := by
  rcases zkn s tn with ⟨h1, _⟩ | ⟨j, h1, hj, h2, _⟩
  . unfold z1l; rw [h1]
    cases hs : s.1 with
    | nil => simp [zbh]
    | cons x l => exact (h.2 x (by rw [hs]; simp)).1
  . rw [h2]; exact (h.2 _ (zm8 s.1 zbh j hj)).1

def z13x (s : zdj) (tn : List UInt8) : zhk × (Bool × Unit) := if atL s tn < 0 then (zbh, (false, ())) else (z1l s tn, (true, ()))

theorem zru (N : Nat) (hN : 40 < N) {s : zdj} (h : Few s) (tn : List UInt8) : z80 N s tn = some (z13x s tn) := by
  have hl := h.1
  rw [z80, zrv N (by omega) (by omega), Option.bind_some, z13x]
  rcases zkn s tn with ⟨h1, _⟩ | ⟨j, h1, hj, h2, _⟩
  . unfold atL at h1 ⊢
    rw [h1]; rfl
  . rw [show zkp (fun t : zhk => t.1 == tn) s.1 0 = (j : Int) from h1, h1, zy (z46 (by omega)), if_neg (by omega), zf (z1o hj), h2]
    rfl

def kAt (s : zdj) (tn : List UInt8) (num : Int) : Int := zkp (fun k => k.1 == num) (z1l s tn).2.2.2.1 0

def z17o (s : zdj) (tn : List UInt8) (num : Int) : List UInt8 × (Bool × Unit) :=
 if atL s tn < 0 then ([], (false, ())) else if kAt s tn num < 0 then ([], (false, ())) else (((z1l s tn).2.2.2.1.getD (kAt s tn num).toNat zs5).2.1, (true, ()))

theorem z103 (s : zdj) (tn : List UInt8) (num : Int) : (kAt s tn num = -1 /\ ∀ x ∈ (z1l s tn).2.2.2.1, x.1 ≠ num) \/ ∃ j : Nat, kAt s tn num = (j : Int) /\ j < (z1l s tn).2.2.2.1.length /\ ((z1l s tn).2.2.2.1.getD j zs5).1 = num := by
  rcases zrq (fun k : z10g => k.1 == num) (z1l s tn).2.2.2.1 0 with ⟨h1, h2⟩ | ⟨j, h1, hj, h3⟩
  . exact .inl ⟨h1, fun x hx e => by have := h2 x hx; rw [e, beq_self_eq_true] at this; cases this⟩
  . rw [Nat.zero_add] at h1
    refine .inr ⟨j, h1, hj, ?_⟩
    simp only [List.getD_eq_getElem?_getD, List.getElem?_eq_getElem hj, Option.getD_some]
    exact beq_iff_eq.1 h3

theorem z178 (N : Nat) (hN : 40 < N) {s : zdj} (h : Few s) (tn : List UInt8) (num : Int) : zhc N s tn num = some (z17o s tn num) := by
  have hl := h.1
  rw [zhc, zrv N (by omega) (by omega), Option.bind_some, z17o]
  rcases zkn s tn with ⟨h1, _⟩ | ⟨j, h1, hj, h2, _⟩
  . rw [show zkp (fun t : zhk => t.1 == tn) s.1 0 = -1 from h1, h1]; rfl
  . have hk := zyn h tn
    rw [show zkp (fun t : zhk => t.1 == tn) s.1 0 = (j : Int) from h1, h1, zy (z46 (by omega)), if_neg (by omega), zf (z1o hj), Int.toNat_natCast,
      show (([] : List UInt8), ((0 : Int), ((0 : Int), (([] : List (Int × (List UInt8 × Unit))), ())))) = zbh from rfl, <- h2, z11m N (by omega) (by omega), Option.bind_some]
    rcases z103 s tn num with ⟨g1, _⟩ | ⟨i, g1, hi, _⟩
    . rw [show zkp (fun k : z10g => k.1 == num) (z1l s tn).2.2.2.1 0 = -1 from g1, g1]; rfl
    . rw [show zkp (fun k : z10g => k.1 == num) (z1l s tn).2.2.2.1 0 = (i : Int) from g1, g1, zy (z46 (by omega)), if_neg (by omega), zf (z1o hi)]
      rfl

theorem z10x (N : Nat) (hN : 40 < N) {s : zdj} (h : Few s) (tn : List UInt8) (num : Int) : z4f N s tn num = some (z17o s tn num) := by
  have hl := h.1
  rw [z4f, zoc N (by omega) (by omega), Option.bind_some, z17o]
  rcases zkn s tn with ⟨h1, _⟩ | ⟨j, h1, hj, h2, _⟩
  . rw [show zkp (fun t : zhk => t.1 == tn) s.1 0 = -1 from h1, h1]; rfl
  . have hk := zyn h tn
    rw [show zkp (fun t : zhk => t.1 == tn) s.1 0 = (j : Int) from h1, h1, zy (z46 (by omega)), if_neg (by omega)]
    simp only [z1o hj, cond_true, Int.toNat_natCast]
    rw [show (([] : List UInt8), ((0 : Int), ((0 : Int), (([] : List (Int × (List UInt8 × Unit))), ())))) = zbh from rfl, <- h2, zy1 N (by omega) (by omega), Option.bind_some]
    rcases z103 s tn num with ⟨g1, _⟩ | ⟨i, g1, hi, _⟩
    . rw [show zkp (fun k : z10g => k.1 == num) (z1l s tn).2.2.2.1 0 = -1 from g1, g1]; rfl
    . rw [show zkp (fun k : z10g => k.1 == num) (z1l s tn).2.2.2.1 0 = (i : Int) from g1, g1, zy (z46 (by omega)), if_neg (by omega), zf (z1o hi)]
      rfl

def newL (s : zdj) (tn : List UInt8) : z10g × (Bool × Unit) :=
 if atL s tn < 0 then (zs5, (false, ())) else if (z1l s tn).2.2.2.1.length = 0 then (zs5, (false, ())) else ((z1l s tn).2.2.2.1.getD ((z1l s tn).2.2.2.1.length - 1) zs5, (true, ()))

theorem z134 (N : Nat) (hN : 40 < N) {s : zdj} (h : Few s) (tn : List UInt8) : z5u N s tn = some (newL s tn) := by
  have hl := h.1
  rw [z5u, zrv N (by omega) (by omega), Option.bind_some, zc7, zc6, newL]
  rcases zkn s tn with ⟨h1, _⟩ | ⟨j, h1, hj, h2, _⟩
  . rw [show zkp (fun t : zhk => t.1 == tn) s.1 0 = -1 from h1, h1]; rfl
  . have hk := zyn h tn
    rw [show zkp (fun t : zhk => t.1 == tn) s.1 0 = (j : Int) from h1, h1, zy (z46 (by omega)), if_neg (by omega)]
    simp only [z1o hj, cond_true, Int.toNat_natCast]
    rw [show (([] : List UInt8), ((0 : Int), ((0 : Int), (([] : List (Int × (List UInt8 × Unit))), ())))) = zbh from rfl, <- h2]
    generalize z1l s tn = t at hk
    by_cases h0 : t.2.2.2.1.length = 0
    . rw [if_pos h0, zf (beq_iff_eq.2 (by omega))]; rfl
    . rw [if_neg h0, zy (beq_eq_false_iff_ne.2 (by omega)), z7f (x := ((t.2.2.2.1.length : Nat) : Int) - 1) (by unfold I64; omega), show ((t.2.2.2.1.length : Nat) : Int) - 1 = ((t.2.2.2.1.length - 1 : Nat) : Int) by omega]
      have hin : inR ((t.2.2.2.1.length - 1 : Nat) : Int) t.2.2.2.1.length = true := z1o (by omega)
      rw [hin, cond_true]
      rfl

def evT (tn : List UInt8) (ep nx : Int) : EvD := ((1 : Int), (tn, (nx, (ep, (([] : List UInt8), ())))))
def evK (tn : List UInt8) (nu : Int) (tx : List UInt8) : EvD := ((2 : Int), (tn, (nu, ((0 : Int), (tx, ())))))
def evD (tn : List UInt8) (nu : Int) : EvD := ((3 : Int), (tn, (nu, ((0 : Int), (([] : List UInt8), ())))))
def evS (nu : Int) : EvD := ((4 : Int), (([] : List UInt8), (nu, ((0 : Int), (([] : List UInt8), ())))))

def bad (e : Int) : List EvD × (Int × Unit) := ([], (e, ()))
def z17a (l : List EvD) : List EvD × (Int × Unit) := (l, ((0 : Int), ()))

def z111 (op : Int) (s : zdj) (tn key : List UInt8) (num : Int) : List EvD × (Int × Unit) :=
 if z5i s = false then bad 7
 else if op = 1 then
 if zmi tn = false then bad 4 else if key.length ≠ 32 then bad 7 else if 0 <= atL s tn then bad 5 else if s.1.length = 16 then bad 3 else z17a [evT tn 0 2, evK tn 1 key]
 else if atL s tn < 0 then bad 6
 else if op = 2 then
 if key.length ≠ 32 then bad 7 else if (z1l s tn).2.2.2.1.length = 8 \/ (z1l s tn).2.2.1 = 1099511627776 then bad 3 else z17a [evT tn (z1l s tn).2.1 ((z1l s tn).2.2.1 + 1), evK tn (z1l s tn).2.2.1 key]
 else if op = 3 then
 if kAt s tn num < 0 then bad 6 else if ((z1l s tn).2.2.2.1.getD ((z1l s tn).2.2.2.1.length - 1) zs5).1 = num then bad 7 else z17a [evD tn num]
 else if op = 4 then
 if (z1l s tn).2.1 = 1099511627776 then bad 3 else z17a [evT tn ((z1l s tn).2.1 + 1) (z1l s tn).2.2.1]
 else if (z1l s tn).2.2.2.1.length = 0 then bad 6 else if s.2.1 = 1099511627776 then bad 3 else z17a [evS (s.2.1 + 1)]

theorem z9t (N : Nat) (hN : 40 < N) (s : zdj) (l : List EvD) (e : Int) : z1g N s l e = some (if z5i s = false then bad 7 else if e ≠ 0 then bad e else z17a l) := by
  rw [z1g, zzp N hN, Option.bind_some]
  cases z5i s with
  | false => rfl
  | true =>
    rw [if_neg (show ¬ (true = false) by decide), Bool.not_true, cond_false]
    by_cases h : e = 0
    . subst h; rfl
    . rw [if_pos h, zf (bne_iff_ne.2 h)]; rfl

theorem zpw {s : zdj} (hr : z5i s = true) {tn : List UInt8} (h : ¬ atL s tn < 0) : z10j (z1l s tn) = true /\ (z1l s tn).1 = tn /\ z1l s tn ∈ s.1 := by
  rcases zkn s tn with ⟨h1, _⟩ | ⟨j, h1, hj, h2, h3⟩
  . omega
  . have hm := zm8 s.1 zbh j hj
    rw [<- h2] at hm
    exact ⟨zks (zdz.1 hr).2.2 _ hm, h3, hm⟩

theorem z15u (x : Int) : Go.RowKit.wrap64 x = IntKind.wrap .i64 x := by
  unfold Go.RowKit.wrap64
  rw [wrap64]

theorem z17d (N : Nat) (hN : 40 < N) {s : zdj} (h : Few s) (tn key : List UInt8) (num : Int) (op : Int) (ho : 1 <= op /\ op <= 5) : z3w N op s tn key num = some (z111 op s tn key num) := by
  have hfin : ∀ (o : Option (List EvD × (Int × Unit))) (y : List EvD × (Int × Unit)), o = some y -> (o.bind fun y => some (y.1, (y.2.1, ()))) = some y := fun o y e => by rw [e]; rfl
  unfold z3w z111
  by_cases o1 : op = 1
  . subst o1
    rw [zf (by decide), if_pos rfl]
    refine hfin _ _ ?_
    unfold zb5
    rw [zru N hN h, Option.bind_some, z121 N hN, Option.bind_some, z9t N hN]
    cases hr : z5i s with
    | false => rfl
    | true =>
      obtain ⟨r1, _, _⟩ := zdz.1 hr
      rw [if_neg (show ¬ (true = false) by decide), if_neg (show ¬ (true = false) by decide)]
      cases hw : zmi tn with
      | false => rfl
      | true =>
        rw [if_neg (show ¬ (true = false) by decide), if_neg (show ¬ (true = false) by decide)]
        by_cases hk : key.length ≠ 32
        . rw [if_pos hk, if_pos hk]; rfl
        . rw [if_neg hk, if_neg hk, z13x]
          by_cases ha : atL s tn < 0
          . rw [if_pos ha, if_neg (show ¬ (0 : Int) <= atL s tn by omega), if_neg (show ¬ (false = true) by decide)]
            by_cases h16 : s.1.length = 16
            . rw [if_pos h16, if_pos (show 16 <= s.1.length by omega)]; rfl
            . rw [if_neg h16, if_neg (show ¬ 16 <= s.1.length by omega)]; rfl
          . rw [if_neg ha, if_pos (show (0 : Int) <= atL s tn by omega)]; rfl
  rw [zy (beq_eq_false_iff_ne.2 o1), if_neg o1]
  by_cases o2 : op = 2
  . subst o2
    rw [zf (by decide), if_pos rfl]
    refine hfin _ _ ?_
    unfold ze4
    rw [zru N hN h, Option.bind_some, z9t N hN]
    cases hr : z5i s with
    | false => rfl
    | true =>
      rw [if_neg (show ¬ (true = false) by decide), if_neg (show ¬ (true = false) by decide), z13x]
      by_cases ha : atL s tn < 0
      . rw [if_pos ha, if_pos ha]; rfl
      . obtain ⟨t1, t2, t3⟩ := zpw hr ha
        have tp := zct t1
        have t4 := z11i.1 tp.2.2.1
        rw [if_neg ha, if_neg ha, if_neg (show ¬ (true = false) by decide)]
        by_cases hk : key.length ≠ 32
        . rw [if_pos hk, if_pos hk]; rfl
        . rw [if_neg hk, if_neg hk, z7f (x := (z1l s tn).2.2.1 + 1) (by unfold I64; omega)]
          by_cases h8 : (z1l s tn).2.2.2.1.length = 8
          . rw [if_pos (show 8 <= (z1l s tn).2.2.2.1.length by omega), if_pos (show (z1l s tn).2.2.2.1.length = 8 \/ (z1l s tn).2.2.1 = 1099511627776 from .inl h8)]; rfl
          . rw [if_neg (show ¬ 8 <= (z1l s tn).2.2.2.1.length by omega)]
            by_cases hx : (z1l s tn).2.2.1 = 1099511627776
            . rw [if_pos (show (1099511627776 : Int) <= (z1l s tn).2.2.1 by omega), if_pos (show (z1l s tn).2.2.2.1.length = 8 \/ (z1l s tn).2.2.1 = 1099511627776 from .inr hx)]; rfl
            . rw [if_neg (show ¬ (1099511627776 : Int) <= (z1l s tn).2.2.1 by omega), if_neg (show ¬ ((z1l s tn).2.2.2.1.length = 8 \/ (z1l s tn).2.2.1 = 1099511627776) by omega)]; rfl
  rw [zy (beq_eq_false_iff_ne.2 o2), if_neg o2]
  by_cases o3 : op = 3
  . subst o3
    rw [zf (by decide), if_pos rfl]
    refine hfin _ _ ?_
    unfold ze6
    rw [z178 N hN h, Option.bind_some, z134 N hN h, Option.bind_some, z9t N hN, z9t N hN]
    cases hr : z5i s with
    | false => split <;> rfl
    | true =>
      rw [if_neg (show ¬ (true = false) by decide), if_neg (show ¬ (true = false) by decide), if_neg (show ¬ (true = false) by decide), z17o, newL]
      by_cases ha : atL s tn < 0
      . rw [if_pos ha, if_pos ha, if_pos ha]; rfl
      . rw [if_neg ha, if_neg ha, if_neg ha]
        rcases z103 s tn num with ⟨g1, _⟩ | ⟨i, g1, hi, _⟩
        . rw [g1]; rfl
        . rw [g1, if_neg (show ¬ (i : Int) < 0 by omega), if_neg (show ¬ (i : Int) < 0 by omega), if_neg (show ¬ (true = false) by decide), if_neg (show ¬ (z1l s tn).2.2.2.1.length = 0 by omega)]
          by_cases hk : ((z1l s tn).2.2.2.1.getD ((z1l s tn).2.2.2.1.length - 1) zs5).1 = num
          . rw [if_pos hk, if_pos hk]; rfl
          . rw [if_neg hk, if_neg hk]; rfl
  rw [zy (beq_eq_false_iff_ne.2 o3), if_neg o3]
  by_cases o4 : op = 4
  . subst o4
    rw [zf (by decide), if_pos rfl]
    refine hfin _ _ ?_
    unfold ze5
    rw [zru N hN h, Option.bind_some, z9t N hN, z15u]
    cases hr : z5i s with
    | false => rfl
    | true =>
      rw [if_neg (show ¬ (true = false) by decide), if_neg (show ¬ (true = false) by decide), z13x]
      by_cases ha : atL s tn < 0
      . rw [if_pos ha, if_pos ha]; rfl
      . obtain ⟨t1, t2, t3⟩ := zpw hr ha
        have tp := zct t1
        have t4 := z11i.1 tp.2.1
        rw [if_neg ha, if_neg ha, if_neg (show ¬ (true = false) by decide), z7f (x := (z1l s tn).2.1 + 1) (by unfold I64; omega)]
        by_cases hx : (z1l s tn).2.1 = 1099511627776
        . rw [if_pos (show (1099511627776 : Int) <= (z1l s tn).2.1 by omega), if_pos hx]; rfl
        . rw [if_neg (show ¬ (1099511627776 : Int) <= (z1l s tn).2.1 by omega), if_neg hx]; rfl
  rw [zy (beq_eq_false_iff_ne.2 o4), if_neg o4]
  refine hfin _ _ ?_
  unfold zgq
  rw [z134 N hN h, Option.bind_some, z9t N hN, z15u]
  cases hr : z5i s with
  | false => rfl
  | true =>
    have t4 := z11i.1 (zdz.1 hr).2.1
    rw [if_neg (show ¬ (true = false) by decide), if_neg (show ¬ (true = false) by decide), newL, z7f (x := s.2.1 + 1) (by unfold I64; omega)]
    by_cases ha : atL s tn < 0
    . rw [if_pos ha, if_pos ha]; rfl
    . rw [if_neg ha, if_neg ha]
      by_cases h0 : (z1l s tn).2.2.2.1.length = 0
      . rw [if_pos h0, if_pos h0]; rfl
      . rw [if_neg h0, if_neg h0, if_neg (show ¬ (true = false) by decide)]
        by_cases hx : s.2.1 = 1099511627776
        . rw [if_pos (show (1099511627776 : Int) <= s.2.1 by omega), if_pos hx]; rfl
        . rw [if_neg (show ¬ (1099511627776 : Int) <= s.2.1 by omega), if_neg hx]; rfl

theorem z10v (N : Nat) (hN : 101 < N) {s : zdj} (h : Few s) (tn key : List UInt8) (num : Int) (op : Int) (ho : 1 <= op /\ op <= 5) : z3v N op s tn key num = some (z111 op s tn key num) := by
  have hl := h.1
  unfold z3v z111
  rw [zlg N hN (fun t ht => (h.2 t ht).2), Option.bind_some]
  cases hr : z5i s with
  | false => rfl
  | true =>
    obtain ⟨r1, r2, _⟩ := zdz.1 hr
    have r2' := z11i.1 r2
    rw [Bool.not_true, cond_false, if_neg (show ¬ (true = false) by decide), zoc N (by omega) (by omega), Option.bind_some, show zkp (fun t : zhk => t.1 == tn) s.1 0 = atL s tn from rfl]
    by_cases o1 : op = 1
    . subst o1
      rw [zf (by decide), if_pos rfl, ztl N (by omega), Option.bind_some]
      cases hw : zmi tn with
      | false => rfl
      | true =>
        rw [if_neg (show ¬ (true = false) by decide), Bool.not_true, cond_false]
        by_cases hk : key.length ≠ 32
        . rw [if_pos hk, zf (bne_iff_ne.2 (by omega))]; rfl
        . rw [if_neg hk, zy (bne_eq_false_iff_eq.2 (by omega))]
          by_cases ha : 0 <= atL s tn
          . rw [if_pos ha, zf (z3t ha)]; rfl
          . rw [if_neg ha, zy (z46 ha)]
            by_cases h16 : s.1.length = 16
            . rw [if_pos h16, zf (beq_iff_eq.2 (by omega))]; rfl
            . rw [if_neg h16, zy (beq_eq_false_iff_ne.2 (by omega))]; rfl
    rw [zy (beq_eq_false_iff_ne.2 o1), if_neg o1]
    by_cases ha : atL s tn < 0
    . rw [if_pos ha, zf (z3t ha)]; rfl
    rw [if_neg ha, zy (z46 ha)]
    obtain ⟨t1, t2, t3⟩ := zpw hr ha
    have tp := zct t1
    have te := z11i.1 tp.2.1
    have tx := z11i.1 tp.2.2.1
    obtain ⟨j, h1, hj, h2⟩ : ∃ j : Nat, atL s tn = (j : Int) /\ j < s.1.length /\ z1l s tn = s.1.getD j zbh := by
      rcases zkn s tn with ⟨h1, _⟩ | ⟨j, h1, hj, h2, _⟩
      . omega
      . exact ⟨j, h1, hj, h2⟩
    rw [h1, zf (z1o hj), Int.toNat_natCast, show (([] : List UInt8), ((0 : Int), ((0 : Int), (([] : List (Int × (List UInt8 × Unit))), ())))) = zbh from rfl, <- h2]
    by_cases o2 : op = 2
    . subst o2
      rw [zf (by decide), if_pos rfl]
      by_cases hk : key.length ≠ 32
      . rw [if_pos hk, zf (bne_iff_ne.2 (by omega))]; rfl
      . rw [if_neg hk, zy (bne_eq_false_iff_eq.2 (by omega)), z5w, z5v, z7f (x := (z1l s tn).2.2.1 + 1) (by unfold I64; omega)]
        by_cases h8 : (z1l s tn).2.2.2.1.length = 8
        . rw [if_pos (show (z1l s tn).2.2.2.1.length = 8 \/ (z1l s tn).2.2.1 = 1099511627776 from .inl h8), zf (beq_iff_eq.2 (by omega))]; rfl
        . rw [zy (beq_eq_false_iff_ne.2 (by omega))]
          by_cases hx : (z1l s tn).2.2.1 = 1099511627776
          . rw [if_pos (show (z1l s tn).2.2.2.1.length = 8 \/ (z1l s tn).2.2.1 = 1099511627776 from .inr hx), zf (beq_iff_eq.2 hx)]; rfl
          . rw [if_neg (show ¬ ((z1l s tn).2.2.2.1.length = 8 \/ (z1l s tn).2.2.1 = 1099511627776) by omega), zy (beq_eq_false_iff_ne.2 hx)]; rfl
    rw [zy (beq_eq_false_iff_ne.2 o2), if_neg o2]
    by_cases o3 : op = 3
    . subst o3
      rw [zf (by decide), if_pos rfl, z10x N (by omega) h, Option.bind_some, z17o, if_neg ha]
      rcases z103 s tn num with ⟨g1, _⟩ | ⟨i, g1, hi, _⟩
      . rw [g1]; rfl
      . rw [g1, if_neg (show ¬ (i : Int) < 0 by omega), if_neg (show ¬ (i : Int) < 0 by omega), Bool.not_true, cond_false, z7f (x := (((z1l s tn).2.2.2.1.length : Nat) : Int) - 1) (by unfold I64; omega), show (((z1l s tn).2.2.2.1.length : Nat) : Int) - 1 = (((z1l s tn).2.2.2.1.length - 1 : Nat) : Int) by omega, zf (z1o (by omega)), Int.toNat_natCast, show ((0 : Int), (([] : List UInt8), ())) = zs5 from rfl]
        by_cases hk : ((z1l s tn).2.2.2.1.getD ((z1l s tn).2.2.2.1.length - 1) zs5).1 = num
        . rw [if_pos hk, zf (beq_iff_eq.2 hk)]; rfl
        . rw [if_neg hk, zy (beq_eq_false_iff_ne.2 hk)]; rfl
    rw [zy (beq_eq_false_iff_ne.2 o3), if_neg o3]
    by_cases o4 : op = 4
    . subst o4
      rw [zf (by decide), if_pos rfl, z7f (x := (z1l s tn).2.1 + 1) (by unfold I64; omega)]
      by_cases hx : (z1l s tn).2.1 = 1099511627776
      . rw [if_pos hx, zf (beq_iff_eq.2 hx)]; rfl
      . rw [if_neg hx, zy (beq_eq_false_iff_ne.2 hx)]; rfl
    rw [zy (beq_eq_false_iff_ne.2 o4), if_neg o4, z7f (x := s.2.1 + 1) (by unfold I64; omega)]
    by_cases h0 : (z1l s tn).2.2.2.1.length = 0
    . rw [if_pos h0, zf (beq_iff_eq.2 (by omega))]; rfl
    . rw [if_neg h0, zy (beq_eq_false_iff_ne.2 (by omega))]
      by_cases hx : s.2.1 = 1099511627776
      . rw [if_pos hx, zf (beq_iff_eq.2 hx)]; rfl
      . rw [if_neg hx, zy (beq_eq_false_iff_ne.2 hx)]; rfl


end
end Go.Proofs.YtlohplpnhopldaaLg

set_option linter.all false
set_option maxRecDepth 100000
namespace Go.Proofs.YtlohplpnhopldaaLg
noncomputable section
open Go Go.Lift Go.Proofs.YtlohplpnhopldaaPx

def zc0 (tn : List UInt8) (ks : List z10g) : List EvD := ks.map fun k => evK tn k.1 k.2.1
def znx (t : zhk) : List EvD := evT t.1 t.2.1 t.2.2.1 :: zc0 t.1 t.2.2.2.1
def zou (s : zdj) : List EvD := if z5i s = false then [] else s.1.flatMap znx ++ [evS s.2.1]

theorem z10k (t : zhk) : (znx t).length = 1 + t.2.2.2.1.length := by simp [znx, zc0]; omega

theorem z107 : ∀ (l : List zhk), (∀ t ∈ l, t.2.2.2.1.length <= 8) -> (l.flatMap znx).length <= 9 * l.length
  | [], _ => by simp
  | t :: l, h => by
    have := z107 l (fun x hx => h x (List.mem_cons_of_mem _ hx))
    have h8 := h t List.mem_cons_self
    rw [List.flatMap_cons, List.length_append, z10k, List.length_cons]
    omega

theorem zv5 (N : Nat) {s : zdj} {t : zhk} {x12 : List zhk} {x13 x14 : Int} {o : List EvD} (h8 : t.2.2.2.1.length <= 8) (hN : 40 < N) (ho : o.length <= 1000) (K : List EvD -> Option (List EvD)) :
    zea N s o t x12 x13 x14 t.2.2.2.1 ((t.2.2.2.1.length : Nat) : Int) 0 K = K (o ++ zc0 t.1 t.2.2.2.1) := by
  rw [zea]
  refine (z3q (fun v => ∃ (i : Nat), v.2 = (i : Int) /\ i <= t.2.2.2.1.length /\ v.1.length = o.length + i) (fun v => t.2.2.2.1.length - v.2.toNat) (fun v => K (v.1 ++ zc0 t.1 (t.2.2.2.1.drop v.2.toNat))) ?_ N (o, 0) ⟨0, rfl, Nat.zero_le _, rfl⟩ (by simp; omega)).trans (by simp)
  rintro ⟨a, v⟩ r ⟨i, hv, hi, ha⟩ hr
  dsimp only at hv ha
  subst hv
  rw [ze8]
  simp only [Int.toNat_natCast]
  rcases Nat.lt_or_ge i t.2.2.2.1.length with hlt | hge
  . rw [zf (z3t (by omega)), zf (z1o hlt), zf (z3t (by omega)), show ((0 : Int), (([] : List UInt8), ())) = zs5 from rfl, z2h (by omega), hr _ ⟨i + 1, rfl, by omega, by simp; omega⟩ (by simp; omega)]
    simp only [Int.toNat_natCast]
    rw [z3e t.2.2.2.1 zs5 i hlt, zc0, zc0, List.map_cons, List.append_assoc]
    rfl
  . rw [zy (z46 (by omega)), List.drop_of_length_le hge]
    simp [zc0]

theorem zwn (N : Nat) (hN : 40 < N) (s : zdj) : z9p N s = some (zou s) := by
  rw [z9p, zzp N hN, Option.bind_some, zou]
  cases hr : z5i s with
  | false => rfl
  | true =>
    obtain ⟨r1, r2, r3⟩ := zdz.1 hr
    have h8 : ∀ t ∈ s.1, t.2.2.2.1.length <= 8 := fun t ht => (zct (zks r3 t ht)).2.2.2.1
    rw [Bool.not_true, cond_false, if_neg (show ¬ (true = false) by decide), zlo]
    refine (z3q (fun v => ∃ (i : Nat), v.2 = (i : Int) /\ i <= s.1.length /\ v.1.length <= 9 * i) (fun v => s.1.length - v.2.toNat) (fun v => some (v.1 ++ ((s.1.drop v.2.toNat).flatMap znx ++ [evS s.2.1]))) ?_ N ([], 0) ⟨0, rfl, Nat.zero_le _, Nat.zero_le _⟩ (by simp; omega)).trans (by simp)
    rintro ⟨a, v⟩ r ⟨i, hv, hi, ha⟩ hrec
    dsimp only at hv ha
    subst hv
    rw [ze9]
    simp only [Int.toNat_natCast]
    rcases Nat.lt_or_ge i s.1.length with hlt | hge
    . have hm := h8 _ (zm8 s.1 zbh i hlt)
      rw [zf (z3t (by omega)), zf (z1o hlt), zf (z3t (by omega)), show (([] : List UInt8), ((0 : Int), ((0 : Int), (([] : List (Int × (List UInt8 × Unit))), ())))) = zbh from rfl, z2h (by omega), zv5 N hm hN (by simp; omega), hrec _ ⟨i + 1, rfl, by omega, by
        simp only [List.length_append, List.length_cons, List.length_nil, zc0, List.length_map]; omega⟩ (by simp; omega)]
      simp only [Int.toNat_natCast]
      rw [z3e s.1 zbh i hlt, List.flatMap_cons, znx]
      simp only [List.append_assoc, List.cons_append, List.nil_append]
      rfl
    . rw [zy (z46 (by omega)), List.drop_of_length_le hge, zf (z3t (by omega))]
      rfl

theorem zsm (N : Nat) {s : zdj} {t : zhk} {x : Int} {o : List EvD} (h8 : t.2.2.2.1.length <= 8) (hN : 40 < N) (ho : o.length <= 1000) (K : List EvD -> Option (List EvD)) :
    z50 N s o x t 0 K = K (o ++ zc0 t.1 t.2.2.2.1) := by
  rw [z50]
  refine (z3q (fun v => ∃ (i : Nat), v.2 = (i : Int) /\ i <= t.2.2.2.1.length /\ v.1.length = o.length + i) (fun v => t.2.2.2.1.length - v.2.toNat) (fun v => K (v.1 ++ zc0 t.1 (t.2.2.2.1.drop v.2.toNat))) ?_ N (o, 0) ⟨0, rfl, Nat.zero_le _, rfl⟩ (by simp; omega)).trans (by simp)
  rintro ⟨a, v⟩ r ⟨i, hv, hi, ha⟩ hr
  dsimp only at hv ha
  subst hv
  rw [z4y]
  simp only [Int.toNat_natCast]
  rcases Nat.lt_or_ge i t.2.2.2.1.length with hlt | hge
  . rw [zf (z3t (by omega)), zf (z1o hlt), zf (z1o hlt), zf (z3t (by omega)), show ((0 : Int), (([] : List UInt8), ())) = zs5 from rfl, z2h (by omega), hr _ ⟨i + 1, rfl, by omega, by simp; omega⟩ (by simp; omega)]
    simp only [Int.toNat_natCast]
    rw [z3e t.2.2.2.1 zs5 i hlt, zc0, zc0, List.map_cons, List.append_assoc]
    rfl
  . rw [zy (z46 (by omega)), List.drop_of_length_le hge]
    simp [zc0]

theorem zy3 (N : Nat) (hN : 101 < N) {s : zdj} (hs : ∀ t ∈ s.1, t.1.length <= 100) : z34 N s = some (zou s) := by
  rw [z34, zlg N hN hs, Option.bind_some, zou]
  cases hr : z5i s with
  | false => rfl
  | true =>
    obtain ⟨r1, r2, r3⟩ := zdz.1 hr
    have h8 : ∀ t ∈ s.1, t.2.2.2.1.length <= 8 := fun t ht => (zct (zks r3 t ht)).2.2.2.1
    rw [Bool.not_true, cond_false, if_neg (show ¬ (true = false) by decide), z8k]
    refine (z3q (fun v => ∃ (i : Nat), v.2 = (i : Int) /\ i <= s.1.length /\ v.1.length <= 9 * i) (fun v => s.1.length - v.2.toNat) (fun v => some (v.1 ++ ((s.1.drop v.2.toNat).flatMap znx ++ [evS s.2.1]))) ?_ N ([], 0) ⟨0, rfl, Nat.zero_le _, Nat.zero_le _⟩ (by simp; omega)).trans (by simp)
    rintro ⟨a, v⟩ r ⟨i, hv, hi, ha⟩ hrec
    dsimp only at hv ha
    subst hv
    rw [z4z]
    simp only [Int.toNat_natCast]
    rcases Nat.lt_or_ge i s.1.length with hlt | hge
    . have hm := h8 _ (zm8 s.1 zbh i hlt)
      rw [zf (z3t (by omega)), zf (z1o hlt), zf (z3t (by omega)), show (([] : List UInt8), ((0 : Int), ((0 : Int), (([] : List (Int × (List UInt8 × Unit))), ())))) = zbh from rfl, z2h (by omega), zsm N hm (by omega) (by simp; omega), hrec _ ⟨i + 1, rfl, by omega, by
        simp only [List.length_append, List.length_cons, List.length_nil, zc0, List.length_map]; omega⟩ (by simp; omega)]
      simp only [Int.toNat_natCast]
      rw [z3e s.1 zbh i hlt, List.flatMap_cons, znx]
      simp only [List.append_assoc, List.cons_append, List.nil_append]
      rfl
    . rw [zy (z46 (by omega)), List.drop_of_length_le hge, zf (z3t (by omega))]
      rfl

theorem z13o {s : zdj} (hr : z5i s = true) : (zou s).length <= 145 := by
  obtain ⟨r1, r2, r3⟩ := zdz.1 hr
  have := z107 s.1 (fun t ht => (zct (zks r3 t ht)).2.2.2.1)
  unfold zou
  rw [hr, if_neg (by decide), List.length_append, List.length_singleton]
  omega

end
end Go.Proofs.YtlohplpnhopldaaLg

set_option linter.all false
set_option maxRecDepth 100000
namespace Go.Proofs.YtlohplpnhopldaaLg
noncomputable section
open Go Go.Lift Go.Proofs.YtlohplpnhopldaaPx

def z17i (t : zhk) : Bool := decide (12 < t.2.2.2.1.length) || decide (100 < t.1.length)

theorem z15e (N : Nat) (hN : 40 < N) (s : zdj) : z35 N s = some (decide (20 < s.1.length) || s.1.any z17i) := by
  rw [z35]
  by_cases h : 20 < s.1.length
  . rw [zf (z3t (by omega)), decide_eq_true h]; rfl
  rw [zy (z46 (by omega)), decide_eq_false h, Bool.false_or, z98]
  refine (z3q (fun v => ∃ (i : Nat), v = (i : Int) /\ i <= s.1.length) (fun v => s.1.length - v.toNat) (fun v => some ((s.1.drop v.toNat).any z17i)) ?_ N 0 ⟨0, rfl, Nat.zero_le _⟩ (by simp; omega)).trans (by simp)
  rintro v r ⟨i, rfl, hi⟩ hr
  rw [z5c]
  simp only [Int.toNat_natCast]
  rcases Nat.lt_or_ge i s.1.length with hlt | hge
  . rw [zf (z3t (by omega)), z5e, z5d, show (([] : List UInt8), ((0 : Int), ((0 : Int), (([] : List (Int × (List UInt8 × Unit))), ())))) = zbh from rfl]
    simp only [z1o hlt, cond_true, z2h (show i < 9223372036854775807 by omega), Int.toNat_natCast]
    rw [show r ((i + 1 : Nat) : Int) = some ((s.1.drop (i + 1)).any z17i) from (hr _ ⟨i + 1, rfl, by omega⟩ (by simp; omega)).trans rfl, z3e s.1 zbh i hlt, List.any_cons, z17i]
    by_cases c1 : 12 < (s.1.getD i zbh).2.2.2.1.length
    . rw [zf (z3t (by omega)), decide_eq_true c1]; rfl
    . rw [zy (z46 (by omega)), decide_eq_false c1]
      by_cases c2 : 100 < (s.1.getD i zbh).1.length
      . rw [zf (z3t (by omega)), decide_eq_true c2]; rfl
      . rw [zy (z46 (by omega)), decide_eq_false c2]; rfl
  . rw [zy (z46 (by omega)), List.drop_of_length_le hge]
    rfl

end
end Go.Proofs.YtlohplpnhopldaaLg

set_option linter.all false
set_option maxRecDepth 100000
namespace Go.Proofs.YtlohplpnhopldaaLg
noncomputable section
open Go Go.Lift Go.Proofs.YtlohplpnhopldaaPx

theorem zmh (k : Nat) : z36 (k + 300) = some true := by kernel_rfl

theorem z13q {s : zdj} (h : (decide (20 < s.1.length) || s.1.any z17i) = false) : Few s := by
  rw [Bool.or_eq_false_iff, List.any_eq_false, decide_eq_false_iff_not] at h
  refine ⟨by omega, fun t ht => ?_⟩
  have := h.2 t ht
  unfold z17i at this
  simp only [Bool.or_eq_true, decide_eq_true_eq, not_or] at this
  omega

theorem zq1 (N : Nat) {a : List EvD} (h : a.length < N) (hb : a.length <= 1000000) : z20 N a a = some true := by
  rw [z20, bne_self_eq_false, cond_false, z6n]
  refine (z3q (fun v => ∃ (i : Nat), v = (i : Int) /\ i <= a.length) (fun v => a.length - v.toNat) (fun v => some true) ?_ N 0 ⟨0, rfl, Nat.zero_le _⟩ (by simpa using h))
  rintro v r ⟨i, rfl, hi⟩ hr
  rw [z3c]
  rcases Nat.lt_or_ge i a.length with hlt | hge
  . rw [zf (z3t (by omega))]
    simp only [z1o hlt, cond_true, z2h (show i < 9223372036854775807 by omega), Int.toNat_natCast]
    refine (zy (congrArg not (z15i (t := T.pair (T.int IntKind.i64) (T.pair T.str (T.pair (T.int IntKind.i64) (T.pair (T.int IntKind.i64) (T.pair T.str T.unit))))) rfl (a.getD i ((0 : Int), (([] : List UInt8), ((0 : Int), ((0 : Int), (([] : List UInt8), ())))))))) _ _).trans ?_
    exact hr _ ⟨i + 1, rfl, by omega⟩ (by simp; omega)
  . rw [zy (z46 (by omega))]

theorem z150 (op : Int) (s : zdj) (tn key : List UInt8) (num : Int) : (z111 op s tn key num).1.length <= 2 := by
  unfold z111 bad z17a
  repeat' split
  all_goals simp

theorem zwy (s : zdj) : (zou s).length <= 145 := by
  cases hr : z5i s with
  | false => unfold zou; rw [hr, if_pos rfl]; simp
  | true => exact z13o hr

theorem z127 (k : Nat) (s : zdj) (l : List (List UInt8)) (hl : l.length = 2) (num : Int) : z1z (k + 300) s l num = some true := by
  rw [z1z, z3b, z3a, z15e _ (by omega), Option.bind_some]
  cases hg : (decide (20 < s.1.length) || s.1.any z17i) with
  | true => rw [cond_true, cond_true, zmh, Option.bind_some]
  | false =>
    have hf := z13q hg
    have d0 : decide (0 < l.length) = true := z3t (by omega)
    have d1 : decide (1 < l.length) = true := z3t (by omega)
    rw [cond_false, d0, cond_true]
    by_cases h100 : 100 < (l.getD 0 []).length
    . rw [zf (z3t (by omega)), zmh, Option.bind_some]
    rw [zy (z46 (by omega)), zwn _ (by omega), Option.bind_some, zy3 _ (by omega) (fun t ht => (hf.2 t ht).2), Option.bind_some, zq1 _ (by have := zwy s; omega) (by have := zwy s; omega), Option.bind_some, cond_true, zmh, Option.bind_some, z6c]
    refine (z3q (fun v => 1 <= v /\ v <= 6) (fun v => (6 - v).toNat) (fun v => some true) ?_ (k + 300) 1 ⟨by omega, by omega⟩ (by simp <;> omega))
    rintro v r ⟨h1, h6⟩ hr
    rw [z37]
    by_cases h5 : v <= 5
    . have hp := z150 v s (l.getD 0 []) (l.getD 1 []) num
      rw [zf (z3t h5), z39, z17d _ (by omega) hf _ _ _ v ⟨h1, h5⟩, z10v _ (by omega) hf _ _ _ v ⟨h1, h5⟩]
      simp only [d0, d1, cond_true, Option.bind_some]
      rw [z38, bne_self_eq_false, cond_false, zq1 _ (by omega) (by omega), Option.bind_some, Bool.not_true, cond_false, z7f (x := v + 1) (by unfold I64; omega)]
      exact hr _ ⟨by omega, by omega⟩ (by omega)
    . rw [zy (z46 h5)]

end
end Go.Proofs.YtlohplpnhopldaaLg
