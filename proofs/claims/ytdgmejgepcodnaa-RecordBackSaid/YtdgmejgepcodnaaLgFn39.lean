/- The functions of the seat, as plain functions, and what their calls do. Printed by a program of mine; checked here. -/
import Derived.Test.YtdgmejgepcodnaaLgFn39t1
import Derived.Test.YtdgmejgepcodnaaLgFn39t2
import Derived.Test.YtdgmejgepcodnaaLgFn39t3
import Derived.Test.YtdgmejgepcodnaaLgBld
import Derived.Deep.RegionHeld3
import Derived.Laws.IdiomStrings
import Derived.WalkKit
import Derived.Tactics
import Derived.Tactics2
import Derived.Defers
import Derived.Lib.Hide
import Derived.Below
import Derived.Recover
import Derived.Orders
import Derived.WalkSmall
import Derived.LoopN
set_option linter.all false
set_option maxRecDepth 100000
namespace Go.Proofs.YtdgmejgepcodnaaLg
open Go Go.Lift

theorem ends_of_fine {w w' : World} {S : Hp} {b : Nat} {x x' : RdrT.den} {rest : List A} {vals : List Value} {ob : Nat → List Nat} {rA : A} {rV : Value} {outs : List A}
    (hrest : ∀ y ∈ rest, isBoxA y = false) (hv0 : vals[0]? = some (.pointer (some ⟨b, 0, none⟩))) (hob : ob 0 = [b]) (hob' : ∀ i, i ≠ 0 → ob i = []) (houts : outs[0]? = some (.box RdrT x'))
    (hF : Fine w S b x' w') (hr : ∀ S', ARel (hp w') S' (fun _ => undef) rA rV []) (hrr : rA.refs = []) : Lift.Ends w S (.box RdrT x :: rest) vals ob rA outs (.returned rV) w' := by
  obtain ⟨S', h1, h2, h3, h4, h5, E, fr, h6, h7⟩ := hF
  have hmem : ∀ i k, k ∈ ob i → k = b := fun i k hk => by
    by_cases hi : i = 0
    · subst hi; rw [hob] at hk; exact List.mem_singleton.1 hk
    · rw [hob' i hi] at hk; cases hk
  refine ⟨rV, S', [], ob, rfl, ⟨h1.size, fun k hk hn => h1.same k hk (fun e => hn ⟨0, by rw [hob, e]; exact List.mem_singleton.2 rfl⟩), h1.tape, h1.os, h1.output⟩, h2, h4, fun k hk => ?_, ⟨hr S', hrr⟩, (fun k hk => by cases hk), .nil, ?_, ?_, ?_, ?_, fun _ h => h⟩
  · rcases h3 k hk with h | h
    · exact .inl h
    · exact .inr (.inr h)
  · intro i y hy hbx
    match i with
    | 0 =>
      cases hy
      exact ⟨_, _, houts, hv0, rfl, by rw [hob]; exact rdr_shut h6 h7⟩
    | i + 1 =>
      have := hrest y (List.mem_of_getElem? hy)
      rw [hbx] at this
      cases this
  · intro i k hk
    refine ⟨.inl ⟨i, hk⟩, ?_, fun h => by cases h⟩
    rw [hmem i k hk]; exact h5
  · intro i j k hi hj
    by_cases h0 : i = 0
    · by_cases h1 : j = 0
      · omega
      · rw [hob' j h1] at hj; cases hj
    · rw [hob' i h0] at hi; cases hi
  · intro i
    by_cases h0 : i = 0
    · subst h0; rw [hob]; exact List.nodup_cons.2 ⟨by simp, List.nodup_nil⟩
    · rw [hob' i h0]; exact .nil

theorem args_one {w : World} {S : Hp} {x : RdrT.den} {vals : List Value} {ob : Nat → List Nat} (hS : Lift.Sub S (hp w)) (har : ArgsRel (hp w) S [.box RdrT x] vals ob) :
    ∃ b, vals = [.pointer (some ⟨b, 0, none⟩)] ∧ ob 0 = [b] ∧ (∀ i, i ≠ 0 → ob i = []) ∧ Rdr w S b x := by
  obtain ⟨⟨v0, hv0, hA0⟩, _⟩ := har.rel 0 _ rfl
  obtain ⟨b, E, fr, ho, hv, hc, hf⟩ := rdr_open hA0
  have hlen := har.len
  have hvals : vals = [v0] := by
    match vals, hlen with
    | [a], _ => cases hv0; rfl
  subst hv
  exact ⟨b, hvals, ho, fun i hi => har.out i (by simp; omega), hS, har.hid 0 b (by rw [ho]; exact List.mem_singleton.2 rfl), E, fr, hc, hf⟩

theorem args_two {w : World} {S : Hp} {x : RdrT.den} {k : IntKind} {n : Int} {vals : List Value} {ob : Nat → List Nat} (hS : Lift.Sub S (hp w)) (har : ArgsRel (hp w) S [.box RdrT x, .v (.int k) n] vals ob) :
    ∃ b, vals = [.pointer (some ⟨b, 0, none⟩), .int k n] ∧ ob 0 = [b] ∧ (∀ i, i ≠ 0 → ob i = []) ∧ Rdr w S b x := by
  obtain ⟨⟨v0, hv0, hA0⟩, _⟩ := har.rel 0 _ rfl
  obtain ⟨⟨v1, hv1, hA1⟩, _⟩ := har.rel 1 _ rfl
  obtain ⟨b, E, fr, ho, hv, hc, hf⟩ := rdr_open hA0
  have hlen := har.len
  have hvals : vals = [v0, v1] := by
    match vals, hlen with
    | [a, c], _ => cases hv0; cases hv1; rfl
  have e1 := VR.int_inv hA1.1
  subst e1
  subst hv
  refine ⟨b, hvals, ho, fun i hi => ?_, hS, har.hid 0 b (by rw [ho]; exact List.mem_singleton.2 rfl), E, fr, hc, hf⟩
  match i with
  | 0 => exact absurd rfl hi
  | 1 => exact hA1.2
  | i + 2 => exact har.out _ (by simp)

noncomputable def field_Reader_Byte_res (N : Nat) : List A → Res := resOf [(0, .box (.pair .bool (.pair .str (.pair (.int .i64) .unit))))] (fun x => field_Reader_Byte N x.1) (oResB (.v (.int .u8)) [(0, .box (.pair .bool (.pair .str (.pair (.int .i64) .unit))))] 0)

theorem field_Reader_Byte_ct (N : Nat) : Contract Try.prog noGlob 28 (field_Reader_Byte_res N) := by
  refine Contract.hand ⟨_, Try.func28, by kernel_rfl, by decide⟩ ?_
  intro w S vals ob x y har hS hg hy
  obtain ⟨x, u⟩ := x
  cases u
  obtain ⟨b, rfl, ho, ho', hR⟩ := args_one hS har
  have fin : ∀ (n : Int) (x' : RdrT.den), y = (n, (x', ())) → Calls Try.prog 28 #[.pointer (some ⟨b, 0, none⟩)] w (fun r w' => r = .returned (.int .u8 n) ∧ Fine w S b x' w') →
      Calls Try.prog 28 [Value.pointer (some ⟨b, 0, none⟩)].toArray w fun e w' => Lift.Ends w S (mkS [(0, .box RdrT)] 0 (x, ())) [.pointer (some ⟨b, 0, none⟩)] ob (oResB (.v (.int .u8)) [(0, .box RdrT)] 0 y).1 (oResB (.v (.int .u8)) [(0, .box RdrT)] 0 y).2 e w' := by
    rintro n x' rfl hc
    refine hc.mono ?_
    rintro r w' ⟨rfl, hF⟩
    exact ends_of_fine (rest := []) (fun _ h => by cases h) rfl ho ho' rfl hF (fun S' => ⟨VR.int, rfl⟩) rfl
  have hy' : field_Reader_Byte N x = some y := hy
  unfold field_Reader_Byte at hy'
  cases hr : (x.1 && (x.2.2.1 == 0)) with
  | false =>
    rw [hr] at hy'
    cases hy'
    exact fin _ _ rfl (byte_off N hR hr)
  | true =>
    rw [hr] at hy'
    by_cases hle : 1 ≤ Go.IntKind.wrap .u64 (x.2.1.length : Int)
    · rw [decide_eq_true hle] at hy'
      cases hy'
      obtain ⟨m, s, e, u⟩ := x
      cases u
      cases s with
      | nil => exact absurd (show 1 ≤ Go.IntKind.wrap .u64 (0 : Int) from hle) (by decide)
      | cons a l => exact fin _ _ rfl (byte_on N hR hr hle)
    · rw [decide_eq_false hle] at hy'
      cases hy'
      refine fin _ _ rfl ?_
      have e : failS x 1 = (x.1, [], 1, ()) := by
        unfold failS
        rw [hr]
        rfl
      rw [← e]
      exact byte_end N hR hr hle

noncomputable def field_Reader_Num (N : Nat) (x : RdrT.den) (most : Int) : Option (Int × (RdrT.den × Unit)) :=
  cond (x.1 && (x.2.2.1 == 0))
  ((varint_Take N x.2.1).bind fun y =>
    cond (decide (y.2.2.1 = 0))
    (cond (decide (y.1 ≤ most))
      (cond (decide (0 ≤ y.2.1 ∧ y.2.1 ≤ x.2.1.length))
        (some (y.1, ((x.1, x.2.1.drop y.2.1.toNat, x.2.2.1, ()), ())))
        none)
      (some (0, ((x.1, [], 3, ()), ()))))
    (some (0, ((x.1, [], y.2.2.1, ()), ()))))
  (some (0, (x, ())))

theorem failS_on {x : RdrT.den} {e : Int} (hr : (x.1 && (x.2.2.1 == 0)) = true) (he : e ≠ 0) : failS x e = (x.1, [], e, ()) := by
  unfold failS
  rw [hr, bne_iff_ne.2 he]
  rfl

theorem num_call (N : Nat) {w : World} {S : Hp} {b : Nat} {x : RdrT.den} {most n : Int} {x' : RdrT.den} (h : Rdr w S b x) (hy : field_Reader_Num N x most = some (n, (x', ()))) :
    Calls Try.prog 36 #[.pointer (some ⟨b, 0, none⟩), .int .u64 most] w fun r w' => r = .returned (.int .u64 n) ∧ Fine w S b x' w' := by
  unfold field_Reader_Num at hy
  cases hr : (x.1 && (x.2.2.1 == 0)) with
  | false =>
    rw [hr] at hy
    cases hy
    exact num_off N h hr
  | true =>
    rw [hr] at hy
    cases ht : varint_Take N x.2.1 with
    | none => rw [ht] at hy; cases hy
    | some y =>
      rw [ht, Option.bind_some] at hy
      by_cases he : y.2.2.1 = 0
      · rw [decide_eq_true he] at hy
        by_cases hm : y.1 ≤ most
        · rw [decide_eq_true hm] at hy
          by_cases hu : 0 ≤ y.2.1 ∧ y.2.1 ≤ x.2.1.length
          · rw [decide_eq_true hu] at hy
            cases hy
            exact num_on N h hr (fun w1 S1 h1 => number_fine N h1 ht he hm hu.1 hu.2)
          · rw [decide_eq_false hu] at hy
            cases hy
        · rw [decide_eq_false hm] at hy
          cases hy
          rw [← failS_on hr (by decide : (3 : Int) ≠ 0)]
          exact num_stop N h hr (fun w1 S1 h1 => number_much N h1 ht he hm)
      · rw [decide_eq_false he] at hy
        cases hy
        rw [← failS_on hr he]
        exact num_stop N h hr (fun w1 S1 h1 => number_bad N h1 ht he)

noncomputable def field_Reader_Num_box (N : Nat) : List A → Res := resOf [(0, .box (.pair .bool (.pair .str (.pair (.int .i64) .unit)))), (0, .v (.int .u64))] (fun x => field_Reader_Num N x.1 x.2.1) (oResB (.v (.int .u64)) [(0, .box (.pair .bool (.pair .str (.pair (.int .i64) .unit))))] 1)

theorem field_Reader_Num_box_ct (N : Nat) : Contract Try.prog noGlob 36 (field_Reader_Num_box N) := by
  refine Contract.hand ⟨_, Try.func36, by kernel_rfl, by decide⟩ ?_
  intro w S vals ob x y har hS hg hy
  obtain ⟨x, most, u⟩ := x
  cases u
  obtain ⟨n, x', u⟩ := y
  cases u
  obtain ⟨b, rfl, ho, ho', hR⟩ := args_two hS har
  refine (num_call N hR hy).mono ?_
  rintro r w' ⟨rfl, hF⟩
  exact ends_of_fine (rest := [.v (.int .u64) most]) (fun _ h => by rw [List.mem_singleton.1 h]; rfl) rfl ho ho' rfl hF (fun S' => ⟨VR.int, rfl⟩) rfl

theorem reads_none (N : Nat) {w : World} {S : Hp} (hS : Lift.Sub S (hp w)) :
    Calls Try.prog 47 #[.pointer none] w fun r w' => r = .returned (.bool false) ∧
      ∃ S', WF w (fun _ => False) w' ∧ Lift.Sub S S' ∧ Lift.Sub S' (hp w') ∧ ∀ k, S' k ≠ none → S k ≠ none ∨ w.heap.size ≤ k := by
  have h := (field_Reader_reads_nil_ct N).2 w S [.v .opq (.pointer none)] [.pointer none] (fun _ => []) ⟨rfl, fun i x hx => ?_, fun _ _ => rfl, (fun i j b hb => by cases hb), fun _ => .nil, (fun i b hb => by cases hb)⟩ hS (glob_none S) false rfl
  · refine h.mono ?_
    rintro r w' ⟨v, S', o, ob', rfl, hwf, h3, h4, h5, ⟨⟨hv, _⟩, _⟩, _⟩
    refine ⟨by rw [VR.bool_inv hv], S', ⟨hwf.size, fun k hk _ => hwf.same k hk (by rintro ⟨i, hi⟩; cases hi), hwf.tape, hwf.os, hwf.output⟩, h3, h4, fun b hb => ?_⟩
    rcases h5 b hb with h | ⟨i, hi⟩ | h
    · exact .inl h
    · cases hi
    · exact .inr h
  · match i with
    | 0 => cases hx; exact ⟨⟨_, rfl, VR.of_one rfl ⟨rfl, rfl⟩, rfl⟩, rfl⟩
    | i + 1 => cases hx

theorem num_nil (N : Nat) {w : World} {S : Hp} {most : Int} (hS : Lift.Sub S (hp w)) :
    Calls Try.prog 36 #[.pointer none, .int .u64 most] w fun r w' => r = .returned (.int .u64 0) ∧
      ∃ S', WF w (fun _ => False) w' ∧ Lift.Sub S S' ∧ Lift.Sub S' (hp w') ∧ ∀ k, S' k ≠ none → S k ≠ none ∨ w.heap.size ≤ k := by
  have hmf : ∀ (fn : Fn) (first cap : Array Value) (w : World), (Instr.makeFunc fn first cap).run Try.prog w = .ok (.func fn first cap) w := fun _ _ _ _ => rfl
  have hA := alloc_cell w (.pointer none) 58
  have hh : (w.alloc (.cells #[.pointer none] 58)).heap = w.heap.push (.cells #[.pointer none] 58 (0, 0)) := rfl
  have hk : ∀ k, k < w.heap.size → (w.alloc (.cells #[.pointer none] 58)).heap[k]? = w.heap[k]? := fun k hk => by
    rw [hh, Array.getElem?_push, if_neg (by omega)]
  have hz : (w.alloc (.cells #[.pointer none] 58)).heap.size = w.heap.size + 1 := by rw [hh, Array.size_push]
  have hS1 : Lift.Sub S (hp (w.alloc (.cells #[.pointer none] 58))) := fun k o ho => by
    have := hS k o ho
    simp only [hp] at this ⊢
    rw [hk k (Array.getElem?_eq_some_iff.1 this).1]
    exact this
  have hcr := reads_none N hS1
  clear hh
  go_enter_defers Try.func36, Try.ntmps36
  go_wp2_with (go_at_call 47; refine hcr.mono ?_; rintro r w2 ⟨rfl, hF2⟩; have HM := Go.Lib.hid hF2; clear hcr hF2)
  obtain ⟨S2, g1, g2, g3, g4⟩ := HM.out
  have hc2 : w2.cell? ⟨w.heap.size, 0, none⟩ = some (.pointer none) := by
    have := g1.same w.heap.size (by rw [hz]; omega) (fun h => h)
    simp only [World.cell?] at hA ⊢
    rw [this]; exact hA
  refine leaves_cons (f := 54) (args := #[.pointer (some ⟨w.heap.size, 0, none⟩)]) (by simp) (by simp [go_sem]) ?_
  refine (rdN_idle hc2).mono ?_
  rintro r u w3 ⟨⟨v, rfl⟩, rfl, rfl⟩
  refine ⟨_, ?_, rfl, S2, ⟨?_, fun k h1 _ => ?_, ?_, ?_, ?_⟩, g2, g3, fun k hk => ?_⟩
  · simp [results, Try.results36, go_sem]
  · have := g1.size
    rw [hz] at this
    exact Nat.le_of_succ_le this
  · have := g1.same k (by rw [hz]; omega) (fun h => h)
    exact this.trans (hk k h1)
  · exact g1.tape
  · exact g1.os
  · exact g1.output
  · rcases g4 k hk with h | h
    · exact .inl h
    · rw [hz] at h; exact .inr (by omega)

noncomputable def field_Reader_Num_res (N : Nat) : List A → Res := resAlt [(0, .nilp), (0, .v (.int .u64))] (fun _ => some 0) (oRes (.v (.int .u64)) 2) (field_Reader_Num_box N)

theorem field_Reader_Num_ct (N : Nat) : Contract Try.prog noGlob 36 (field_Reader_Num_res N) := by
  refine Contract.alt (Contract.hand ⟨_, Try.func36, by kernel_rfl, by decide⟩ ?_) (field_Reader_Num_box_ct N)
  intro w S vals ob x y har hS hg hy
  obtain ⟨p, most, u⟩ := x
  cases p
  cases u
  cases hy
  obtain ⟨⟨v0, hv0, hA0, ho0⟩, _⟩ := har.rel 0 _ rfl
  obtain ⟨⟨v1, hv1, hA1, ho1⟩, _⟩ := har.rel 1 _ rfl
  have hvals : vals = [v0, v1] := by
    match vals, har.len with
    | [a, c], _ => cases hv0; cases hv1; rfl
  have e0 := VR.opq_inv hA0
  have e1 := VR.int_inv hA1
  subst e0
  subst e1
  subst hvals
  have hnone : ∀ i, ob i = [] := fun i => by
    match i with
    | 0 => exact ho0
    | 1 => exact ho1
    | i + 2 => exact har.out _ (by simp [mkS, deads])
  refine (num_nil N hS).mono ?_
  rintro r w' ⟨rfl, S', h1, h2, h3, h4⟩
  refine ⟨_, S', [], ob, rfl, ⟨h1.size, fun k hk _ => h1.same k hk (fun h => h), h1.tape, h1.os, h1.output⟩, h2, h3, fun k hk => ?_, ⟨⟨VR.int, rfl⟩, rfl⟩, (fun k hk => by cases hk), .nil, ?_, ?_, har.inj, har.nd, fun _ h => h⟩
  · rcases h4 k hk with h | h
    · exact .inl h
    · exact .inr (.inr h)
  · intro i y hy hbx
    match i with
    | 0 => cases hy; cases hbx
    | 1 => cases hy; cases hbx
    | i + 2 => simp [mkS, deads] at hy
  · intro i k hk
    rw [hnone i] at hk
    cases hk

theorem wrap_len (n : Nat) : Go.IntKind.wrap .u64 (n : Int) ≤ n := by
  have e : Go.IntKind.wrap .u64 (n : Int) = (n : Int) % 18446744073709551616 := rfl
  rw [e]
  omega

theorem take_fine {w : World} {S : Hp} {b : Nat} {x : RdrT.den} (h : Rdr w S b x) {n : Int} (hn : 0 ≤ n) (hle : n ≤ Go.IntKind.wrap .u64 (x.2.1.length : Int)) :
    Calls Try.prog 48 #[.pointer (some ⟨b, 0, none⟩), .int .u64 n] w fun r w' => r = .returned (.string ⟨⟨x.2.1.take n.toNat⟩⟩) ∧ Fine w S b (x.1, x.2.1.drop n.toNat, x.2.2.1, ()) w' := by
  obtain ⟨c1, z1⟩ := rdr_cells h
  refine (take_walk c1 z1 hn hle (Int.le_trans hle (wrap_len _))).mono ?_
  rintro r w' ⟨rfl, rfl⟩
  exact ⟨rfl, fine_set h _⟩

theorem take_bad {w : World} {S : Hp} {b : Nat} {x : RdrT.den} (h : Rdr w S b x) {n : Int} (hle : ¬ n ≤ Go.IntKind.wrap .u64 (x.2.1.length : Int)) :
    Calls Try.prog 48 #[.pointer (some ⟨b, 0, none⟩), .int .u64 n] w fun r w' => r = .panicked [{ v := .iface 24 (.int .i64 1), recovered := false }] ∧ Fine w S b x w' := by
  obtain ⟨c1, z1⟩ := rdr_cells h
  refine (take_stop c1 z1 hle).mono ?_
  rintro r w' ⟨rfl, rfl⟩
  exact ⟨rfl, fine_refl h⟩

noncomputable def field_Reader_Text (N : Nat) (x : RdrT.den) (most : Int) : Option (List UInt8 × (RdrT.den × Unit)) :=
  cond (x.1 && (x.2.2.1 == 0))
  ((varint_Take N x.2.1).bind fun y =>
    cond (decide (y.2.2.1 = 0))
    (cond (decide (y.1 ≤ Go.IntKind.wrap .u64 (if most < 0 then 0 else most)))
      (cond (decide (0 ≤ y.1 ∧ 0 ≤ y.2.1 ∧ y.2.1 ≤ x.2.1.length))
        (cond (decide (y.1 ≤ Go.IntKind.wrap .u64 ((x.2.1.drop y.2.1.toNat).length : Int)))
          (some ((x.2.1.drop y.2.1.toNat).take y.1.toNat, ((x.1, (x.2.1.drop y.2.1.toNat).drop y.1.toNat, x.2.2.1, ()), ())))
          (some ([], ((x.1, [], 1, ()), ()))))
        none)
      (some ([], ((x.1, [], 3, ()), ()))))
    (some ([], ((x.1, [], y.2.2.1, ()), ()))))
  (some ([], (x, ())))

theorem text_call (N : Nat) {w : World} {S : Hp} {b : Nat} {x : RdrT.den} {most : Int} {s : List UInt8} {x' : RdrT.den} (h : Rdr w S b x) (hy : field_Reader_Text N x most = some (s, (x', ()))) :
    Calls Try.prog 29 #[.pointer (some ⟨b, 0, none⟩), .int .i64 most] w fun r w' => r = .returned (.string ⟨⟨s⟩⟩) ∧ Fine w S b x' w' := by
  unfold field_Reader_Text at hy
  cases hr : (x.1 && (x.2.2.1 == 0)) with
  | false =>
    rw [hr] at hy
    cases hy
    exact text_off N h hr
  | true =>
    rw [hr] at hy
    cases ht : varint_Take N x.2.1 with
    | none => rw [ht] at hy; cases hy
    | some y =>
      rw [ht, Option.bind_some] at hy
      by_cases he : y.2.2.1 = 0
      · rw [decide_eq_true he] at hy
        by_cases hm : y.1 ≤ Go.IntKind.wrap .u64 (if most < 0 then 0 else most)
        · rw [decide_eq_true hm] at hy
          by_cases hu : 0 ≤ y.1 ∧ 0 ≤ y.2.1 ∧ y.2.1 ≤ x.2.1.length
          · rw [decide_eq_true hu] at hy
            by_cases hl : y.1 ≤ Go.IntKind.wrap .u64 ((x.2.1.drop y.2.1.toNat).length : Int)
            · rw [decide_eq_true hl] at hy
              cases hy
              exact text_on N h rfl hr (fun w1 S1 h1 => number_fine N h1 ht he hm hu.2.1 hu.2.2) (fun w1 S1 h1 => take_fine h1 hu.1 hl)
            · rw [decide_eq_false hl] at hy
              cases hy
              have e := failS_on (x := (x.1, x.2.1.drop y.2.1.toNat, x.2.2.1, ())) (e := 1) hr (by decide)
              have k := text_end N h rfl hr (fun w1 S1 h1 => number_fine N h1 ht he hm hu.2.1 hu.2.2) (fun w1 S1 h1 => take_bad h1 hl)
              rw [e] at k
              exact k
          · rw [decide_eq_false hu] at hy
            cases hy
        · rw [decide_eq_false hm] at hy
          cases hy
          rw [← failS_on hr (by decide : (3 : Int) ≠ 0)]
          exact text_stop N h rfl hr (fun w1 S1 h1 => number_much N h1 ht he hm)
      · rw [decide_eq_false he] at hy
        cases hy
        rw [← failS_on hr he]
        exact text_stop N h rfl hr (fun w1 S1 h1 => number_bad N h1 ht he)

noncomputable def field_Reader_Text_res (N : Nat) : List A → Res := resOf [(0, .box (.pair .bool (.pair .str (.pair (.int .i64) .unit)))), (0, .v (.int .i64))] (fun x => field_Reader_Text N x.1 x.2.1) (oResB (.v .str) [(0, .box (.pair .bool (.pair .str (.pair (.int .i64) .unit))))] 1)

theorem field_Reader_Text_ct (N : Nat) : Contract Try.prog noGlob 29 (field_Reader_Text_res N) := by
  refine Contract.hand ⟨_, Try.func29, by kernel_rfl, by decide⟩ ?_
  intro w S vals ob x y har hS hg hy
  obtain ⟨x, most, u⟩ := x
  cases u
  obtain ⟨s, x', u⟩ := y
  cases u
  obtain ⟨b, rfl, ho, ho', hR⟩ := args_two hS har
  refine (text_call N hR hy).mono ?_
  rintro r w' ⟨rfl, hF⟩
  exact ends_of_fine (rest := [.v (.int .i64) most]) (fun _ h => by rw [List.mem_singleton.1 h]; rfl) rfl ho ho' rfl hF (fun S' => ⟨VR.str, rfl⟩) rfl

abbrev field_New_R : Type := (Bool × ((List UInt8) × (Int × Unit)))

noncomputable def field_New_body : Code := (Go.Proofs.Try.f27.body).getD .skip

noncomputable def field_New_L : List (List Nat × List Nat) := [([0], [0]), ([0, 1], [2]), ([1, 1], [2])]

noncomputable def field_New_E (N : Nat) : Env := mkEnv tys noGlob [] [] [] [] false [] []

theorem field_New_Eok (N : Nat) : EnvOk Go.Proofs.Try.prog (field_New_E N) := mkEnv_ok mixed tys_ok (FnsOk.nil) (ItsOk.nil)

noncomputable def field_New (N : Nat) (s : (List UInt8)) : Option (Bool × ((List UInt8) × (Int × Unit))) :=
  some (true, (s, ((0 : Int), ())))

noncomputable def field_New_t (N : Nat) : Tab (Bool × ((List UInt8) × (Int × Unit))) := []

theorem field_New_link (N : Nat) (x : denS [(0, .v .str)]) : evFX (field_New_E N) N (field_New_t N) field_New_L Go.Proofs.Try.f27 (mkS [(0, .v .str)] 0 x) (kRes (.box (.pair .bool (.pair .str (.pair (.int .i64) .unit)))) 1) = field_New N x.1 := by kernel_rfl

noncomputable def field_New_res (N : Nat) : List A → Res := resOf [(0, .v .str)] (fun x => field_New N x.1) (oRes (.box (.pair .bool (.pair .str (.pair (.int .i64) .unit)))) 1)

theorem field_New_ct (N : Nat) : Contract Go.Proofs.Try.prog noGlob 27 (field_New_res N) :=
  Contract.of (E := field_New_E N) (H := field_New_t N) (L := field_New_L) (N := N) (body := field_New_body) (K := (kRes (.box (.pair .bool (.pair .str (.pair (.int .i64) .unit)))) 1)) (field_New_Eok N) Go.Proofs.Try.func27 (by kernel_rfl) (by decide) (fun _ hb => TabOk.nil) (fun x y h => by rw [field_New_link]; exact h) (kRes_ok (s := (.box (.pair .bool (.pair .str (.pair (.int .i64) .unit))))) (m := 1))

abbrev name_digit_R : Type := Bool

noncomputable def name_digit_body : Code := (Go.Proofs.Try.f60.body).getD .skip

noncomputable def name_digit_L : List (List Nat × List Nat) := [([0], [0]), ([0, 1], [2]), ([1, 1], [2])]

noncomputable def name_digit_E (N : Nat) : Env := mkEnv tys noGlob [] [] [] [] false [] []

theorem name_digit_Eok (N : Nat) : EnvOk Go.Proofs.Try.prog (name_digit_E N) := mkEnv_ok mixed tys_ok (FnsOk.nil) (ItsOk.nil)

noncomputable def name_digit (N : Nat) (c : Int) : Option Bool :=
  cond (decide ((48 : Int) ≤ c))
  (some (decide (c ≤ (57 : Int))))
  (some false)

noncomputable def name_digit_t (N : Nat) : Tab Bool := []

theorem name_digit_link (N : Nat) (x : denS [(0, .v (.int .i32))]) : evFX (name_digit_E N) N (name_digit_t N) name_digit_L Go.Proofs.Try.f60 (mkS [(0, .v (.int .i32))] 0 x) (kRes (.v .bool) 1) = name_digit N x.1 := by kernel_rfl

noncomputable def name_digit_res (N : Nat) : List A → Res := resOf [(0, .v (.int .i32))] (fun x => name_digit N x.1) (oRes (.v .bool) 1)

theorem name_digit_ct (N : Nat) : Contract Go.Proofs.Try.prog noGlob 60 (name_digit_res N) :=
  Contract.of (E := name_digit_E N) (H := name_digit_t N) (L := name_digit_L) (N := N) (body := name_digit_body) (K := (kRes (.v .bool) 1)) (name_digit_Eok N) Go.Proofs.Try.func60 (by kernel_rfl) (by decide) (fun _ hb => TabOk.nil) (fun x y h => by rw [name_digit_link]; exact h) (kRes_ok (s := (.v .bool)) (m := 1))

abbrev name_wordRune_R : Type := Bool

noncomputable def name_wordRune_body : Code := (Go.Proofs.Try.f56.body).getD .skip

noncomputable def name_wordRune_L : List (List Nat × List Nat) := [([0], [0, 1]), ([0, 1], [5, 0, 1]), ([0, 1, 1], [4]), ([1, 1, 1], [4])]

noncomputable def name_wordRune_E (N : Nat) : Env := mkEnv tys noGlob [(60, name_digit_res N)] [] [] [] false [] []

theorem name_wordRune_Eok (N : Nat) : EnvOk Go.Proofs.Try.prog (name_wordRune_E N) := mkEnv_ok mixed tys_ok (FnsOk.cons (name_digit_ct N) (FnsOk.nil)) (ItsOk.nil)

noncomputable def name_wordRune_p1 (N : Nat) (c : Int) (first : Bool) (k0 : Bool → Option Bool) : Option Bool :=
  cond (decide ((97 : Int) ≤ c))
  (k0 (decide (c ≤ (122 : Int))))
  (k0 false)

noncomputable def name_wordRune_g1 (N : Nat) (x : denS [(0, .v (.int .i32)), (0, .v .bool)]) (K : Ex → List A → Option Bool) : Option Bool :=
  name_wordRune_p1 N x.1 x.2.1 (fun a2 => (K .normal (mkS [(0, .v (.int .i32)), (0, .v .bool), (3, .v .bool)] 19 (x.1, x.2.1, a2, ()))))

noncomputable def name_wordRune_h1 (N : Nat) : Hd Bool := fun st K => (unS [(0, .v (.int .i32)), (0, .v .bool)] 23 (restr [0, 1] 0 st)).bind fun x => name_wordRune_g1 N x K

noncomputable def name_wordRune_t1 (N : Nat) : Tab Bool := []

theorem name_wordRune_ok1 {N : Nat} {c : Ctx} (hb : Base Go.Proofs.Try.prog (name_wordRune_E N) c) : CodeOk Go.Proofs.Try.prog c (nodeAt name_wordRune_body [0, 1]) (name_wordRune_h1 N) :=
  piece_ok (s := [(0, .v (.int .i32)), (0, .v .bool)]) (m := 23) (g := name_wordRune_g1 N) [0, 1] (evN_sound hb N (name_wordRune_t1 N) name_wordRune_L name_wordRune_body TabOk.nil [0, 1] _ rfl) (fun x K => by kernel_rfl)

noncomputable def name_wordRune (N : Nat) (c : Int) (first : Bool) : Option Bool :=
  name_wordRune_p1 N c first
  (fun letter => cond letter
    (some true)
    ((name_digit N c).bind fun y =>
      cond y
      (some (!first))
      (cond (c == (45 : Int))
        (some (!first))
        (some false))))

noncomputable def name_wordRune_t (N : Nat) : Tab Bool := [([0, 1], name_wordRune_h1 N)]

theorem name_wordRune_link (N : Nat) (x : denS [(0, .v (.int .i32)), (0, .v .bool)]) : evFX (name_wordRune_E N) N (name_wordRune_t N) name_wordRune_L Go.Proofs.Try.f56 (mkS [(0, .v (.int .i32)), (0, .v .bool)] 0 x) (kRes (.v .bool) 2) = name_wordRune N x.1 x.2.1 := by kernel_rfl

noncomputable def name_wordRune_res (N : Nat) : List A → Res := resOf [(0, .v (.int .i32)), (0, .v .bool)] (fun x => name_wordRune N x.1 x.2.1) (oRes (.v .bool) 2)

theorem name_wordRune_ct (N : Nat) : Contract Go.Proofs.Try.prog noGlob 56 (name_wordRune_res N) :=
  Contract.of (E := name_wordRune_E N) (H := name_wordRune_t N) (L := name_wordRune_L) (N := N) (body := name_wordRune_body) (K := (kRes (.v .bool) 2)) (name_wordRune_Eok N) Go.Proofs.Try.func56 (by kernel_rfl) (by decide) (fun _ hb => (TabOk.cons (name_wordRune_ok1 hb) TabOk.nil)) (fun x y h => by rw [name_wordRune_link]; exact h) (kRes_ok (s := (.v .bool)) (m := 2))

abbrev name_all_word_R : Type := Bool

noncomputable def name_all_word_body : Code := (Go.Proofs.Try.f55.body).getD .skip

noncomputable def name_all_word_L : List (List Nat × List Nat) := [([0], [0, 1]), ([0, 0, 1], [13, 0, 1]), ([1, 0, 1], [0, 1]), ([0, 0, 1, 0, 1], [4]), ([1, 0, 1, 0, 1], [4]), ([0, 0, 1, 1], [15, 1]), ([0, 1, 0, 1, 1], [15, 1]), ([0, 0, 0, 1, 0, 1, 1], [17, 16, 1, 15]), ([0, 1, 0, 0, 1, 0, 1, 1], [16, 1, 15]), ([1, 0, 1, 0, 0, 1, 0, 1, 1], []), ([0, 0, 1, 1, 0, 0, 1, 0, 1, 1], [1, 6, 5, 15]), ([0, 1, 0, 1, 1, 0, 0, 1, 0, 1, 1], [25, 15, 1]), ([1, 1, 0, 1, 1, 0, 0, 1, 0, 1, 1], [15, 1]), ([0, 0, 1, 1, 0, 1, 1, 0, 0, 1, 0, 1, 1], [4]), ([1, 0, 1, 1, 0, 1, 1, 0, 0, 1, 0, 1, 1], [4]), ([1, 1, 0, 0, 1, 0, 1, 1], [15, 1]), ([1, 0, 1, 1], []), ([0, 1, 1, 1], [4]), ([1, 1, 1, 1], [4])]

noncomputable def name_all_word_E (N : Nat) : Env := mkEnv tys noGlob [(56, name_wordRune_res N)] [] [] [] false [] []

theorem name_all_word_Eok (N : Nat) : EnvOk Go.Proofs.Try.prog (name_all_word_E N) := mkEnv_ok mixed tys_ok (FnsOk.cons (name_wordRune_ct N) (FnsOk.nil)) (ItsOk.nil)

noncomputable def name_all_word_p2 (N : Nat) (s : (List UInt8)) (k0 : Bool → Option Bool) : Option Bool :=
  cond (s == ([] : List UInt8))
  (k0 true)
  (k0 (decide ((32 : Int) < (((List.length s) : Nat) : Int))))

noncomputable def name_all_word_g2 (N : Nat) (x : denS [(0, .v .str), (0, .fnc 56)]) (K : Ex → List A → Option Bool) : Option Bool :=
  name_all_word_p2 N x.1 (fun a1 => (K .normal (mkS [(0, .v .str), (0, .fnc 56), (11, .v .bool)] 12 (x.1, (), a1, ()))))

noncomputable def name_all_word_h2 (N : Nat) : Hd Bool := fun st K => (unS [(0, .v .str), (0, .fnc 56)] 24 (restr [0, 1] 0 st)).bind fun x => name_all_word_g2 N x K

noncomputable def name_all_word_t2 (N : Nat) : Tab Bool := []

theorem name_all_word_ok2 {N : Nat} {c : Ctx} (hb : Base Go.Proofs.Try.prog (name_all_word_E N) c) : CodeOk Go.Proofs.Try.prog c (nodeAt name_all_word_body [0, 0, 1]) (name_all_word_h2 N) :=
  piece_ok (s := [(0, .v .str), (0, .fnc 56)]) (m := 24) (g := name_all_word_g2 N) [0, 1] (evN_sound hb N (name_all_word_t2 N) name_all_word_L name_all_word_body TabOk.nil [0, 0, 1] _ rfl) (fun x K => by kernel_rfl)

noncomputable def name_all_word_p1 (N : Nat) (s : (List UInt8)) (k0 : Bool → Option Bool) (k1 : Option Bool) : Option Bool :=
  name_all_word_p2 N s
  (fun x13 => cond x13
    (k0 false)
    (k1))

noncomputable def name_all_word_g1 (N : Nat) (x : denS [(0, .v .str), (0, .fnc 56)]) (K : Ex → List A → Option Bool) : Option Bool :=
  name_all_word_p1 N x.1 (fun a0 => (K .ret (mkS [(4, .v .bool)] 21 (a0, ())))) (K .normal (mkS [(0, .v .str), (0, .fnc 56)] 24 (x.1, (), ())))

noncomputable def name_all_word_h1 (N : Nat) : Hd Bool := fun st K => (unS [(0, .v .str), (0, .fnc 56)] 24 (restr [0, 1] 0 st)).bind fun x => name_all_word_g1 N x K

noncomputable def name_all_word_t1 (N : Nat) : Tab Bool := [([0, 0, 1], name_all_word_h2 N)]

theorem name_all_word_ok1 {N : Nat} {c : Ctx} (hb : Base Go.Proofs.Try.prog (name_all_word_E N) c) : CodeOk Go.Proofs.Try.prog c (nodeAt name_all_word_body [0, 1]) (name_all_word_h1 N) :=
  piece_ok (s := [(0, .v .str), (0, .fnc 56)]) (m := 24) (g := name_all_word_g1 N) [0, 1] (evN_sound hb N (name_all_word_t1 N) name_all_word_L name_all_word_body (TabOk.cons (name_all_word_ok2 hb) TabOk.nil) [0, 1] _ rfl) (fun x K => by kernel_rfl)

noncomputable def name_all_word_s3 (N : Nat) (x15 : (List UInt8 × Nat)) (rec : (List UInt8 × Nat) → Option Bool) (k0 : Bool → Option Bool) (k1 : Option Bool) : Option Bool :=
  cond (decide (x15.2 < (List.length x15.1)))
  ((name_wordRune N (((Go.Lift.runeAt x15.1 x15.2).1 : Nat) : Int) (((x15.2 : Nat) : Int) == (0 : Int))).bind fun y =>
    cond (!y)
    (k0 false)
    (rec (x15.1, (x15.2 + (Go.Lift.runeAt x15.1 x15.2).2))))
  (k1)

noncomputable def name_all_word_p3 (N : Nat) (x15 : (List UInt8 × Nat)) (k0 : Bool → Option Bool) (k1 : Option Bool) : Option Bool :=
  iter (fun (v : (List UInt8 × Nat)) r => name_all_word_s3 N v (fun x15 => (r x15)) k0 k1) N x15

noncomputable def name_all_word_g3 (N : Nat) (i : Unit) (v : (List UInt8 × Nat)) (r : (List UInt8 × Nat) → Option Bool) (K : Ex → List A → Option Bool) : Option Bool :=
  name_all_word_s3 N v (fun x15 => (r x15)) (fun a0 => (K .ret (mkS [(4, .v .bool)] 21 (a0, ())))) (K (.exit 0) (mkS [] 26 ()))

noncomputable def name_all_word_h3 (N : Nat) : Hd Bool := fun st K => (unS [(1, .fnc 56), (13, .iter)] 10 (restr [15, 1] 0 st)).bind fun x => iter (fun v r => name_all_word_g3 N ((fun x => ()) x) v r K) N ((fun x => x.2.1) x)

noncomputable def name_all_word_t3 (N : Nat) : Tab Bool := []

theorem name_all_word_ok3 {N : Nat} {c : Ctx} (hb : Base Go.Proofs.Try.prog (name_all_word_E N) c) : CodeOk Go.Proofs.Try.prog c (nodeAt name_all_word_body [0, 1, 0, 1, 1]) (name_all_word_h3 N) :=
  loop_ok (s := [(1, .fnc 56), (13, .iter)]) (m := 10) (name_all_word_g3 N) [15, 1] N (fun x => ()) (fun x => x.2.1) (fun i v => ((), v, ())) (fun _ => rfl) (evN_sound hb N (name_all_word_t3 N) name_all_word_L name_all_word_body TabOk.nil [0, 0, 1, 0, 1, 1] _ rfl) (fun i v r K => by kernel_rfl)

noncomputable def name_all_word (N : Nat) (s : (List UInt8)) : Option Bool :=
  name_all_word_p1 N s
  (fun x4 => some x4)
  (name_all_word_p3 N (s, 0)
    (fun x41 => some x41)
    (some true))

noncomputable def name_all_word_t (N : Nat) : Tab Bool := [([0, 1], name_all_word_h1 N), ([0, 1, 0, 1, 1], name_all_word_h3 N)]

theorem name_all_word_link (N : Nat) (x : denS [(0, .v .str), (0, .fnc 56)]) : evFX (name_all_word_E N) N (name_all_word_t N) name_all_word_L Go.Proofs.Try.f55 (mkS [(0, .v .str), (0, .fnc 56)] 0 x) (kRes (.v .bool) 2) = name_all_word N x.1 := by kernel_rfl

noncomputable def name_all_word_res (N : Nat) : List A → Res := resOf [(0, .v .str), (0, .fnc 56)] (fun x => name_all_word N x.1) (oRes (.v .bool) 2)

theorem name_all_word_ct (N : Nat) : Contract Go.Proofs.Try.prog noGlob 55 (name_all_word_res N) :=
  Contract.of (E := name_all_word_E N) (H := name_all_word_t N) (L := name_all_word_L) (N := N) (body := name_all_word_body) (K := (kRes (.v .bool) 2)) (name_all_word_Eok N) Go.Proofs.Try.func55 (by kernel_rfl) (by decide) (fun _ hb => (TabOk.cons (name_all_word_ok1 hb) (TabOk.cons (name_all_word_ok3 hb) TabOk.nil))) (fun x y h => by rw [name_all_word_link]; exact h) (kRes_ok (s := (.v .bool)) (m := 2))

abbrev name_Word_R : Type := Bool

noncomputable def name_Word_body : Code := (Go.Proofs.Try.f39.body).getD .skip

noncomputable def name_Word_L : List (List Nat × List Nat) := [([0], [0]), ([0, 1], [2]), ([1, 1], [2])]

noncomputable def name_Word_E (N : Nat) : Env := mkEnv tys noGlob [(55, name_all_word_res N), (56, name_wordRune_res N)] [] [] [] false [] []

theorem name_Word_Eok (N : Nat) : EnvOk Go.Proofs.Try.prog (name_Word_E N) := mkEnv_ok mixed tys_ok (FnsOk.cons (name_all_word_ct N) (FnsOk.cons (name_wordRune_ct N) (FnsOk.nil))) (ItsOk.nil)

noncomputable def name_Word (N : Nat) (s : (List UInt8)) : Option Bool :=
  (name_all_word N s).bind fun y =>
  some y

noncomputable def name_Word_t (N : Nat) : Tab Bool := []

theorem name_Word_link (N : Nat) (x : denS [(0, .v .str)]) : evFX (name_Word_E N) N (name_Word_t N) name_Word_L Go.Proofs.Try.f39 (mkS [(0, .v .str)] 0 x) (kRes (.v .bool) 1) = name_Word N x.1 := by kernel_rfl

noncomputable def name_Word_res (N : Nat) : List A → Res := resOf [(0, .v .str)] (fun x => name_Word N x.1) (oRes (.v .bool) 1)

theorem name_Word_ct (N : Nat) : Contract Go.Proofs.Try.prog noGlob 39 (name_Word_res N) :=
  Contract.of (E := name_Word_E N) (H := name_Word_t N) (L := name_Word_L) (N := N) (body := name_Word_body) (K := (kRes (.v .bool) 1)) (name_Word_Eok N) Go.Proofs.Try.func39 (by kernel_rfl) (by decide) (fun _ hb => TabOk.nil) (fun x y h => by rw [name_Word_link]; exact h) (kRes_ok (s := (.v .bool)) (m := 1))

abbrev varint_Size_R : Type := Int

noncomputable def varint_Size_body : Code := (Go.Proofs.Try.f57.body).getD .skip

noncomputable def varint_Size_L : List (List Nat × List Nat) := [([0], [0]), ([0, 1], [0, 3]), ([0, 0, 1, 1], [0, 3]), ([0, 1, 0, 1, 1], [0, 3]), ([0, 0, 0, 0, 1, 0, 1, 1], [7, 3, 0]), ([1, 0, 0, 0, 1, 0, 1, 1], [3, 0]), ([1, 1, 0, 0, 0, 1, 0, 1, 1], [3]), ([0, 0, 1, 0, 0, 1, 0, 1, 1], [0, 3]), ([0, 1, 0, 0, 1, 0, 1, 1], [0, 3]), ([1, 1, 0, 0, 1, 0, 1, 1], [0, 3]), ([1, 0, 1, 1], [3]), ([0, 1, 1, 1], [2]), ([1, 1, 1, 1], [2])]

noncomputable def varint_Size_E (N : Nat) : Env := mkEnv tys noGlob [] [] [] [] false [] []

theorem varint_Size_Eok (N : Nat) : EnvOk Go.Proofs.Try.prog (varint_Size_E N) := mkEnv_ok mixed tys_ok (FnsOk.nil) (ItsOk.nil)

noncomputable def varint_Size_s1 (N : Nat) (n : Int) (size : Int) (rec : Int → Int → Option Int) (k0 : Int → Option Int) : Option Int :=
  cond (n != (0 : Int))
  (rec (Go.Lift.shrI Go.IntKind.u64 n (7 : Int)) (Go.IntKind.wrap Go.IntKind.i64 (size + (1 : Int))))
  (k0 size)

noncomputable def varint_Size_p1 (N : Nat) (n : Int) (size : Int) (k0 : Int → Option Int) : Option Int :=
  iter (fun (v : (Int × Int)) r => varint_Size_s1 N v.1 v.2 (fun n size => (r (n, size))) k0) N (n, size)

noncomputable def varint_Size_g1 (N : Nat) (i : Unit) (v : (Int × Int)) (r : (Int × Int) → Option Int) (K : Ex → List A → Option Int) : Option Int :=
  varint_Size_s1 N v.1 v.2 (fun n size => (r (n, size))) (fun a0 => (K (.exit 0) (mkS [(3, .v (.int .i64))] 9 (a0, ()))))

noncomputable def varint_Size_h1 (N : Nat) : Hd Int := fun st K => (unS [(0, .v (.int .u64)), (2, .v (.int .i64))] 9 (restr [0, 3] 0 st)).bind fun x => iter (fun v r => varint_Size_g1 N ((fun x => ()) x) v r K) N ((fun x => (x.1, x.2.1)) x)

noncomputable def varint_Size_t1 (N : Nat) : Tab Int := []

theorem varint_Size_ok1 {N : Nat} {c : Ctx} (hb : Base Go.Proofs.Try.prog (varint_Size_E N) c) : CodeOk Go.Proofs.Try.prog c (nodeAt varint_Size_body [0, 1, 0, 1, 1]) (varint_Size_h1 N) :=
  loop_ok (s := [(0, .v (.int .u64)), (2, .v (.int .i64))]) (m := 9) (varint_Size_g1 N) [0, 3] N (fun x => ()) (fun x => (x.1, x.2.1)) (fun i v => (v.1, v.2, ())) (fun _ => rfl) (evN_sound hb N (varint_Size_t1 N) varint_Size_L varint_Size_body TabOk.nil [0, 0, 1, 0, 1, 1] _ rfl) (fun i v r K => by kernel_rfl)

noncomputable def varint_Size (N : Nat) (n : Int) : Option Int :=
  varint_Size_p1 N (Go.Lift.shrI Go.IntKind.u64 n (7 : Int)) (1 : Int)
  (fun size => some size)

noncomputable def varint_Size_t (N : Nat) : Tab Int := [([0, 1, 0, 1, 1], varint_Size_h1 N)]

theorem varint_Size_link (N : Nat) (x : denS [(0, .v (.int .u64))]) : evFX (varint_Size_E N) N (varint_Size_t N) varint_Size_L Go.Proofs.Try.f57 (mkS [(0, .v (.int .u64))] 0 x) (kRes (.v (.int .i64)) 1) = varint_Size N x.1 := by kernel_rfl

noncomputable def varint_Size_res (N : Nat) : List A → Res := resOf [(0, .v (.int .u64))] (fun x => varint_Size N x.1) (oRes (.v (.int .i64)) 1)

theorem varint_Size_ct (N : Nat) : Contract Go.Proofs.Try.prog noGlob 57 (varint_Size_res N) :=
  Contract.of (E := varint_Size_E N) (H := varint_Size_t N) (L := varint_Size_L) (N := N) (body := varint_Size_body) (K := (kRes (.v (.int .i64)) 1)) (varint_Size_Eok N) Go.Proofs.Try.func57 (by kernel_rfl) (by decide) (fun _ hb => (TabOk.cons (varint_Size_ok1 hb) TabOk.nil)) (fun x y h => by rw [varint_Size_link]; exact h) (kRes_ok (s := (.v (.int .i64))) (m := 1))

abbrev varint_Put_R : Type := (List UInt8)

noncomputable def varint_Put_body : Code := (Go.Proofs.Try.f41.body).getD .skip

noncomputable def varint_Put_L : List (List Nat × List Nat) := [([0], [0]), ([0, 1], [3, 0]), ([0, 1, 1], [3, 4, 0]), ([0, 0, 1, 1, 1], [11, 10, 4, 0, 3]), ([0, 1, 0, 1, 1, 1], [11, 10, 4, 0, 3]), ([0, 0, 0, 1, 0, 1, 1, 1], [12, 11, 4, 0, 10, 3]), ([0, 1, 0, 0, 1, 0, 1, 1, 1], [11, 4, 0, 10, 3]), ([1, 0, 1, 0, 0, 1, 0, 1, 1, 1], [4, 3]), ([0, 0, 0, 1, 1, 0, 0, 1, 0, 1, 1, 1], [4, 5, 0, 11, 10, 3]), ([0, 1, 0, 0, 1, 1, 0, 0, 1, 0, 1, 1, 1], [0, 11, 10, 4, 3]), ([1, 1, 0, 0, 1, 1, 0, 0, 1, 0, 1, 1, 1], [11, 10, 4, 0, 3]), ([0, 1, 1, 0, 0, 1, 0, 1, 1, 1], [11, 10, 4, 0, 3]), ([1, 1, 1, 0, 0, 1, 0, 1, 1, 1], [11, 10, 4, 0, 3]), ([1, 0, 1, 1, 1], [4, 3]), ([0, 1, 1, 1, 1], [4]), ([0, 1, 1, 1, 1, 1], [2]), ([1, 1, 1, 1, 1, 1], [2])]

noncomputable def varint_Put_E (N : Nat) : Env := mkEnv tys noGlob [(57, varint_Size_res N)] [(4, (.int .u8))] [] [] false [] []

theorem varint_Put_Eok (N : Nat) : EnvOk Go.Proofs.Try.prog (varint_Put_E N) := mkEnv_ok mixed tys_ok (FnsOk.cons (varint_Size_ct N) (FnsOk.nil)) (ItsOk.nil)

noncomputable def varint_Put_s1 (N : Nat) (size : Int) (x10 : Int) (n : Int) (out : (List Int)) (x11 : Int) (rec : Int → (List Int) → Int → Option (List UInt8)) (k0 : (List Int) → Option (List UInt8)) : Option (List UInt8) :=
  cond (decide (x11 < x10))
  (cond (Go.Lift.inR x11 (List.length out))
    (cond (decide ((Int.toNat x11) < (List.length out)))
      (rec (Go.Lift.shrI Go.IntKind.u64 n (7 : Int)) (List.set out (Int.toNat x11) (Go.Lift.bitsOp Go.BinOp.or Go.IntKind.u8 (Go.IntKind.wrap Go.IntKind.u8 n) (128 : Int))) (Go.IntKind.wrap Go.IntKind.i64 (x11 + (1 : Int))))
      (none))
    (none))
  (k0 out)

noncomputable def varint_Put_p1 (N : Nat) (n : Int) (size : Int) (out : (List Int)) (x10 : Int) (x11 : Int) (k0 : (List Int) → Option (List UInt8)) : Option (List UInt8) :=
  iter (fun (v : (Int × (List Int) × Int)) r => varint_Put_s1 N size x10 v.1 v.2.1 v.2.2 (fun n out x11 => (r (n, out, x11))) k0) N (n, out, x11)

noncomputable def varint_Put_g1 (N : Nat) (i : (Int × Int)) (v : (Int × (List Int) × Int)) (r : (Int × (List Int) × Int) → Option (List UInt8)) (K : Ex → List A → Option (List UInt8)) : Option (List UInt8) :=
  varint_Put_s1 N i.1 i.2 v.1 v.2.1 v.2.2 (fun n out x11 => (r (n, out, x11))) (fun a1 => (K (.exit 0) (mkS [(3, .v (.int .i64)), (0, .row (.int .u8))] 27 (i.1, a1, ()))))

noncomputable def varint_Put_h1 (N : Nat) : Hd (List UInt8) := fun st K => (unS [(0, .v (.int .u64)), (2, .v (.int .i64)), (0, .row (.int .u8)), (5, .v (.int .i64)), (0, .v (.int .i64))] 20 (restr [11, 10, 4, 0, 3] 0 st)).bind fun x => iter (fun v r => varint_Put_g1 N ((fun x => (x.2.1, x.2.2.2.1)) x) v r K) N ((fun x => (x.1, x.2.2.1, x.2.2.2.2.1)) x)

noncomputable def varint_Put_t1 (N : Nat) : Tab (List UInt8) := []

theorem varint_Put_ok1 {N : Nat} {c : Ctx} (hb : Base Go.Proofs.Try.prog (varint_Put_E N) c) : CodeOk Go.Proofs.Try.prog c (nodeAt varint_Put_body [0, 1, 0, 1, 1, 1]) (varint_Put_h1 N) :=
  loop_ok (s := [(0, .v (.int .u64)), (2, .v (.int .i64)), (0, .row (.int .u8)), (5, .v (.int .i64)), (0, .v (.int .i64))]) (m := 20) (varint_Put_g1 N) [11, 10, 4, 0, 3] N (fun x => (x.2.1, x.2.2.2.1)) (fun x => (x.1, x.2.2.1, x.2.2.2.2.1)) (fun i v => (v.1, i.1, v.2.1, i.2, v.2.2, ())) (fun _ => rfl) (evN_sound hb N (varint_Put_t1 N) varint_Put_L varint_Put_body TabOk.nil [0, 0, 1, 0, 1, 1, 1] _ rfl) (fun i v r K => by kernel_rfl)

noncomputable def varint_Put (N : Nat) (n : Int) : Option (List UInt8) :=
  (varint_Size N n).bind fun y =>
  cond (decide (((0 : Int) ≤ y) ∧ ((y ≤ y) ∧ (((y * (1 : Int)) ≤ (281474976710656 : Int)) ∧ (y ≤ (9223372036854775807 : Int))))))
  (varint_Put_p1 N n y (List.replicate (Int.toNat y) (0 : Int)) y (0 : Int)
    (fun out => cond (Go.Lift.inR (Go.IntKind.wrap Go.IntKind.i64 (y - (1 : Int))) (List.length out))
      (cond (decide ((Int.toNat (Go.IntKind.wrap Go.IntKind.i64 (y - (1 : Int)))) < (List.length out)))
        (cond (Go.Lift.inR (Go.IntKind.wrap Go.IntKind.i64 (y - (1 : Int))) (List.length out))
          (cond (decide ((Int.toNat (Go.IntKind.wrap Go.IntKind.i64 (y - (1 : Int)))) < (List.length out)))
            (some (Go.Lift.toStr (List.set out (Int.toNat (Go.IntKind.wrap Go.IntKind.i64 (y - (1 : Int)))) (Go.Lift.bitsOp Go.BinOp.andNot Go.IntKind.u8 (List.getD out (Int.toNat (Go.IntKind.wrap Go.IntKind.i64 (y - (1 : Int)))) (0 : Int)) (128 : Int)))))
            (none))
          (none))
        (none))
      (none)))
  (none)

noncomputable def varint_Put_t (N : Nat) : Tab (List UInt8) := [([0, 1, 0, 1, 1, 1], varint_Put_h1 N)]

theorem varint_Put_link (N : Nat) (x : denS [(0, .v (.int .u64))]) : evFX (varint_Put_E N) N (varint_Put_t N) varint_Put_L Go.Proofs.Try.f41 (mkS [(0, .v (.int .u64))] 0 x) (kRes (.v .str) 1) = varint_Put N x.1 := by kernel_rfl

noncomputable def varint_Put_res (N : Nat) : List A → Res := resOf [(0, .v (.int .u64))] (fun x => varint_Put N x.1) (oRes (.v .str) 1)

theorem varint_Put_ct (N : Nat) : Contract Go.Proofs.Try.prog noGlob 41 (varint_Put_res N) :=
  Contract.of (E := varint_Put_E N) (H := varint_Put_t N) (L := varint_Put_L) (N := N) (body := varint_Put_body) (K := (kRes (.v .str) 1)) (varint_Put_Eok N) Go.Proofs.Try.func41 (by kernel_rfl) (by decide) (fun _ hb => (TabOk.cons (varint_Put_ok1 hb) TabOk.nil)) (fun x y h => by rw [varint_Put_link]; exact h) (kRes_ok (s := (.v .str)) (m := 1))

abbrev field_Num_R : Type := (List UInt8)

noncomputable def field_Num_body : Code := (Go.Proofs.Try.f25.body).getD .skip

noncomputable def field_Num_L : List (List Nat × List Nat) := [([0], [0]), ([0, 1], [2]), ([1, 1], [2])]

noncomputable def field_Num_E (N : Nat) : Env := mkEnv tys noGlob [(41, varint_Put_res N)] [] [] [] false [] []

theorem field_Num_Eok (N : Nat) : EnvOk Go.Proofs.Try.prog (field_Num_E N) := mkEnv_ok mixed tys_ok (FnsOk.cons (varint_Put_ct N) (FnsOk.nil)) (ItsOk.nil)

noncomputable def field_Num (N : Nat) (n : Int) : Option (List UInt8) :=
  (varint_Put N n).bind fun y =>
  some y

noncomputable def field_Num_t (N : Nat) : Tab (List UInt8) := []

theorem field_Num_link (N : Nat) (x : denS [(0, .v (.int .u64))]) : evFX (field_Num_E N) N (field_Num_t N) field_Num_L Go.Proofs.Try.f25 (mkS [(0, .v (.int .u64))] 0 x) (kRes (.v .str) 1) = field_Num N x.1 := by kernel_rfl

noncomputable def field_Num_res (N : Nat) : List A → Res := resOf [(0, .v (.int .u64))] (fun x => field_Num N x.1) (oRes (.v .str) 1)

theorem field_Num_ct (N : Nat) : Contract Go.Proofs.Try.prog noGlob 25 (field_Num_res N) :=
  Contract.of (E := field_Num_E N) (H := field_Num_t N) (L := field_Num_L) (N := N) (body := field_Num_body) (K := (kRes (.v .str) 1)) (field_Num_Eok N) Go.Proofs.Try.func25 (by kernel_rfl) (by decide) (fun _ hb => TabOk.nil) (fun x y h => by rw [field_Num_link]; exact h) (kRes_ok (s := (.v .str)) (m := 1))

abbrev field_Text_R : Type := (List UInt8)

noncomputable def field_Text_body : Code := (Go.Proofs.Try.f18.body).getD .skip

noncomputable def field_Text_L : List (List Nat × List Nat) := [([0], [0]), ([0, 1], [2]), ([1, 1], [2])]

noncomputable def field_Text_E (N : Nat) : Env := mkEnv tys noGlob [(41, varint_Put_res N)] [] [] [] false [] []

theorem field_Text_Eok (N : Nat) : EnvOk Go.Proofs.Try.prog (field_Text_E N) := mkEnv_ok mixed tys_ok (FnsOk.cons (varint_Put_ct N) (FnsOk.nil)) (ItsOk.nil)

noncomputable def field_Text (N : Nat) (s : (List UInt8)) : Option (List UInt8) :=
  (varint_Put N (Go.IntKind.wrap Go.IntKind.u64 (((List.length s) : Nat) : Int))).bind fun y =>
  cond (decide (((List.length y) + (List.length s)) ≤ 9223372036854775807))
  (some (y ++ s))
  (none)

noncomputable def field_Text_t (N : Nat) : Tab (List UInt8) := []

theorem field_Text_link (N : Nat) (x : denS [(0, .v .str)]) : evFX (field_Text_E N) N (field_Text_t N) field_Text_L Go.Proofs.Try.f18 (mkS [(0, .v .str)] 0 x) (kRes (.v .str) 1) = field_Text N x.1 := by kernel_rfl

noncomputable def field_Text_res (N : Nat) : List A → Res := resOf [(0, .v .str)] (fun x => field_Text N x.1) (oRes (.v .str) 1)

theorem field_Text_ct (N : Nat) : Contract Go.Proofs.Try.prog noGlob 18 (field_Text_res N) :=
  Contract.of (E := field_Text_E N) (H := field_Text_t N) (L := field_Text_L) (N := N) (body := field_Text_body) (K := (kRes (.v .str) 1)) (field_Text_Eok N) Go.Proofs.Try.func18 (by kernel_rfl) (by decide) (fun _ hb => TabOk.nil) (fun x y h => by rw [field_Text_link]; exact h) (kRes_ok (s := (.v .str)) (m := 1))

abbrev ring_within_R : Type := Bool

noncomputable def ring_within_body : Code := (Go.Proofs.Try.f40.body).getD .skip

noncomputable def ring_within_L : List (List Nat × List Nat) := [([0], [0, 1]), ([0, 1], [4]), ([1, 1], [4])]

noncomputable def ring_within_E (N : Nat) : Env := mkEnv tys noGlob [] [] [] [] false [] []

theorem ring_within_Eok (N : Nat) : EnvOk Go.Proofs.Try.prog (ring_within_E N) := mkEnv_ok mixed tys_ok (FnsOk.nil) (ItsOk.nil)

noncomputable def ring_within (N : Nat) (n : Int) (low : Int) : Option Bool :=
  cond (decide (low ≤ n))
  (some (decide (n ≤ (1099511627776 : Int))))
  (some false)

noncomputable def ring_within_t (N : Nat) : Tab Bool := []

theorem ring_within_link (N : Nat) (x : denS [(0, .v (.int .i64)), (0, .v (.int .i64))]) : evFX (ring_within_E N) N (ring_within_t N) ring_within_L Go.Proofs.Try.f40 (mkS [(0, .v (.int .i64)), (0, .v (.int .i64))] 0 x) (kRes (.v .bool) 2) = ring_within N x.1 x.2.1 := by kernel_rfl

noncomputable def ring_within_res (N : Nat) : List A → Res := resOf [(0, .v (.int .i64)), (0, .v (.int .i64))] (fun x => ring_within N x.1 x.2.1) (oRes (.v .bool) 2)

theorem ring_within_ct (N : Nat) : Contract Go.Proofs.Try.prog noGlob 40 (ring_within_res N) :=
  Contract.of (E := ring_within_E N) (H := ring_within_t N) (L := ring_within_L) (N := N) (body := ring_within_body) (K := (kRes (.v .bool) 2)) (ring_within_Eok N) Go.Proofs.Try.func40 (by kernel_rfl) (by decide) (fun _ hb => TabOk.nil) (fun x y h => by rw [ring_within_link]; exact h) (kRes_ok (s := (.v .bool)) (m := 2))

abbrev ring_Form_R : Type := Bool

noncomputable def ring_Form_body : Code := (Go.Proofs.Try.f16.body).getD .skip

noncomputable def ring_Form_L : List (List Nat × List Nat) := [([0], [1]), ([0, 1], [1, 3]), ([0, 0, 1, 1], [13, 3, 1]), ([0, 0, 1, 0, 1, 1], [14, 3, 1, 13]), ([1, 0, 1, 0, 1, 1], []), ([0, 1, 1, 0, 1, 0, 1, 1], [27, 3, 1, 13]), ([1, 1, 1, 0, 1, 0, 1, 1], []), ([0, 1, 1, 1, 1, 0, 1, 0, 1, 1], [41, 3, 1, 13]), ([1, 1, 1, 1, 1, 0, 1, 0, 1, 1], []), ([0, 1, 1, 1, 1, 1, 1, 0, 1, 0, 1, 1], [54, 1]), ([1, 1, 1, 1, 1, 1, 1, 0, 1, 0, 1, 1], []), ([0, 0, 1, 1, 1, 1, 1, 1, 1, 0, 1, 0, 1, 1], [2]), ([1, 0, 1, 1, 1, 1, 1, 1, 1, 0, 1, 0, 1, 1], [2]), ([0, 0, 1, 1, 1, 1, 1, 0, 1, 0, 1, 1], [2]), ([1, 0, 1, 1, 1, 1, 1, 0, 1, 0, 1, 1], [2]), ([0, 0, 1, 1, 1, 0, 1, 0, 1, 1], [2]), ([1, 0, 1, 1, 1, 0, 1, 0, 1, 1], [2]), ([0, 0, 1, 0, 1, 0, 1, 1], [2]), ([1, 0, 1, 0, 1, 0, 1, 1], [2]), ([1, 0, 1, 1], []), ([0, 1, 1, 1], [2]), ([1, 1, 1, 1], [2])]

noncomputable def ring_Form_E (N : Nat) : Env := mkEnv tys noGlob [(40, ring_within_res N), (39, name_Word_res N)] [] [] [] false [] []

theorem ring_Form_Eok (N : Nat) : EnvOk Go.Proofs.Try.prog (ring_Form_E N) := mkEnv_ok mixed tys_ok (FnsOk.cons (ring_within_ct N) (FnsOk.cons (name_Word_ct N) (FnsOk.nil))) (ItsOk.nil)

noncomputable def ring_Form_p1 (N : Nat) (e : (Int × ((List UInt8) × (Int × (Int × ((List UInt8) × Unit)))))) (k0 : Bool → Option Bool) : Option Bool :=
  (name_Word N e.2.1).bind fun y =>
  cond y
  ((ring_within N e.2.2.1 (1 : Int)).bind fun y1 =>
    k0 y1)
  (k0 false)

noncomputable def ring_Form_g1 (N : Nat) (x : denS [(1, .box (.pair (.int .i64) (.pair .str (.pair (.int .i64) (.pair (.int .i64) (.pair .str .unit))))))]) (K : Ex → List A → Option Bool) : Option Bool :=
  ring_Form_p1 N x.1 (fun a1 => (K .normal (mkS [(1, .box (.pair (.int .i64) (.pair .str (.pair (.int .i64) (.pair (.int .i64) (.pair .str .unit)))))), (1, .v .bool)] 70 (x.1, a1, ()))))

noncomputable def ring_Form_h1 (N : Nat) : Hd Bool := fun st K => (unS [(1, .box (.pair (.int .i64) (.pair .str (.pair (.int .i64) (.pair (.int .i64) (.pair .str .unit))))))] 72 (restr [1] 0 st)).bind fun x => ring_Form_g1 N x K

noncomputable def ring_Form_t1 (N : Nat) : Tab Bool := []

theorem ring_Form_ok1 {N : Nat} {c : Ctx} (hb : Base Go.Proofs.Try.prog (ring_Form_E N) c) : CodeOk Go.Proofs.Try.prog c (nodeAt ring_Form_body [0, 1]) (ring_Form_h1 N) :=
  piece_ok (s := [(1, .box (.pair (.int .i64) (.pair .str (.pair (.int .i64) (.pair (.int .i64) (.pair .str .unit))))))]) (m := 72) (g := ring_Form_g1 N) [1] (evN_sound hb N (ring_Form_t1 N) ring_Form_L ring_Form_body TabOk.nil [0, 1] _ rfl) (fun x K => by kernel_rfl)

noncomputable def ring_Form (N : Nat) (e : (Int × ((List UInt8) × (Int × (Int × ((List UInt8) × Unit)))))) : Option Bool :=
  ring_Form_p1 N e
  (fun ofTenant => cond (e.1 == (1 : Int))
    (cond ofTenant
      ((ring_within N e.2.2.2.1 (0 : Int)).bind fun y =>
        cond y
        (some (e.2.2.2.2.1 == ([] : List UInt8)))
        (some false))
      (some false))
    (cond (e.1 == (2 : Int))
      (cond ofTenant
        (cond (e.2.2.2.1 == (0 : Int))
          (some ((((List.length e.2.2.2.2.1) : Nat) : Int) == (32 : Int)))
          (some false))
        (some false))
      (cond (e.1 == (3 : Int))
        (cond ofTenant
          (cond (e.2.2.2.1 == (0 : Int))
            (some (e.2.2.2.2.1 == ([] : List UInt8)))
            (some false))
          (some false))
        (cond (e.1 == (4 : Int))
          ((ring_within N e.2.2.1 (0 : Int)).bind fun y1 =>
            cond y1
            (cond (e.2.1 == ([] : List UInt8))
              (cond (e.2.2.2.1 == (0 : Int))
                (some (e.2.2.2.2.1 == ([] : List UInt8)))
                (some false))
              (some false))
            (some false))
          (some false)))))

noncomputable def ring_Form_t (N : Nat) : Tab Bool := [([0, 1], ring_Form_h1 N)]

theorem ring_Form_link (N : Nat) (x : denS [(0, .v (.pair (.int .i64) (.pair .str (.pair (.int .i64) (.pair (.int .i64) (.pair .str .unit))))))]) : evFX (ring_Form_E N) N (ring_Form_t N) ring_Form_L Go.Proofs.Try.f16 (mkS [(0, .v (.pair (.int .i64) (.pair .str (.pair (.int .i64) (.pair (.int .i64) (.pair .str .unit))))))] 0 x) (kRes (.v .bool) 1) = ring_Form N x.1 := by kernel_rfl

noncomputable def ring_Form_res (N : Nat) : List A → Res := resOf [(0, .v (.pair (.int .i64) (.pair .str (.pair (.int .i64) (.pair (.int .i64) (.pair .str .unit))))))] (fun x => ring_Form N x.1) (oRes (.v .bool) 1)

theorem ring_Form_ct (N : Nat) : Contract Go.Proofs.Try.prog noGlob 16 (ring_Form_res N) :=
  Contract.of (E := ring_Form_E N) (H := ring_Form_t N) (L := ring_Form_L) (N := N) (body := ring_Form_body) (K := (kRes (.v .bool) 1)) (ring_Form_Eok N) Go.Proofs.Try.func16 (by kernel_rfl) (by decide) (fun _ hb => (TabOk.cons (ring_Form_ok1 hb) TabOk.nil)) (fun x y h => by rw [ring_Form_link]; exact h) (kRes_ok (s := (.v .bool)) (m := 1))

/-- a world behind another one, in which nothing that was there has turned -/
def Calm (w : World) (S : Hp) (w' : World) : Prop := ∃ S', WF w (fun _ => False) w' ∧ Lift.Sub S S' ∧ Lift.Sub S' (hp w') ∧ ∀ k, S' k ≠ none → S k ≠ none ∨ w.heap.size ≤ k

theorem Calm.refl {w : World} {S : Hp} (h : Lift.Sub S (hp w)) : Calm w S w := ⟨S, WF.refl _ _, Lift.Sub.refl S, h, fun _ h => .inl h⟩

theorem Calm.cell {w w' : World} {S : Hp} {p : Addr} {v : Value} (h : Calm w S w') (hc : w.cell? p = some v) : w'.cell? p = some v := by
  obtain ⟨S', h1, _⟩ := h
  have hlt : p.block < w.heap.size := by
    cases hh : w.heap[p.block]? with
    | none => simp [World.cell?, hh] at hc
    | some o => exact (Array.getElem?_eq_some_iff.1 hh).1
  have := h1.same p.block hlt (fun h => h)
  simp only [World.cell?] at hc ⊢
  rw [this]
  exact hc

theorem Calm.next {w w1 w2 : World} {S : Hp} (h : Calm w S w1) (hk : ∀ S1, Lift.Sub S1 (hp w1) → Calm w1 S1 w2) : Calm w S w2 := by
  obtain ⟨S1, h1, h2, h3, h4⟩ := h
  obtain ⟨S2, k1, k2, k3, k4⟩ := hk S1 h3
  refine ⟨S2, h1.trans k1 (fun k hk => .inl hk), h2.trans k2, k3, fun k hk => ?_⟩
  rcases k4 k hk with h | h
  · exact h4 k h
  · exact .inr (Nat.le_trans h1.size h)

theorem calm_of {w w' : World} {S : Hp} {args : List A} {vals : List Value} {r : A} {outs : List A} {e : Ending}
    (h : Lift.Ends w S args vals (fun _ => []) r outs e w') : ∃ v o S', e = .returned v ∧ ARel (hp w') S' (fun _ => undef) r v o ∧ Calm w S w' := by
  obtain ⟨v, S', o, ob', rfl, hwf, hSS, hSw, hnew, ⟨hr, _⟩, _⟩ := h
  refine ⟨v, o, S', rfl, hr, S', ⟨hwf.size, fun k hk _ => hwf.same k hk (by rintro ⟨i, hi⟩; cases hi), hwf.tape, hwf.os, hwf.output⟩, hSS, hSw, fun k hk => ?_⟩
  rcases hnew k hk with h | ⟨i, hi⟩ | h
  · exact .inl h
  · cases hi
  · exact .inr h

theorem args_plain {w : World} {S : Hp} (l : List (A × Value)) (hl : ∀ p ∈ l, ARel (hp w) S (fun _ => undef) p.1 p.2 [] ∧ p.1.refs = []) :
    ArgsRel (hp w) S (l.map (·.1)) (l.map (·.2)) (fun _ => []) := by
  refine ⟨by simp, fun i y hy => ?_, fun _ _ => rfl, (fun i j b hb => by cases hb), fun _ => .nil, (fun i b hb => by cases hb)⟩
  simp only [List.getElem?_map] at hy ⊢
  cases hp : l[i]? with
  | none => rw [hp] at hy; cases hy
  | some p =>
    rw [hp] at hy
    cases hy
    have := hl p (List.mem_of_getElem? hp)
    exact ⟨⟨p.2, rfl, this.1⟩, this.2⟩

theorem num_bytes (N : Nat) {w : World} {S : Hp} (hS : Lift.Sub S (hp w)) {n : Int} {s : List UInt8} (hy : field_Num N n = some s) :
    Calls Try.prog 25 #[.int .u64 n] w fun r w' => r = .returned (.string ⟨⟨s⟩⟩) ∧ Calm w S w' := by
  refine ((field_Num_ct N).2 w S _ _ _ (args_plain [(.v (.int .u64) n, .int .u64 n)] (fun p hp => by rw [List.mem_singleton.1 hp]; exact ⟨⟨VR.int, rfl⟩, rfl⟩)) hS (glob_none S) _ hy).mono ?_
  intro e w' he
  obtain ⟨v, o, S', rfl, hr, hc⟩ := calm_of he
  exact ⟨by rw [VR.str_inv hr.1], hc⟩

theorem text_bytes (N : Nat) {w : World} {S : Hp} (hS : Lift.Sub S (hp w)) {t s : List UInt8} (hy : field_Text N t = some s) :
    Calls Try.prog 18 #[.string ⟨⟨t⟩⟩] w fun r w' => r = .returned (.string ⟨⟨s⟩⟩) ∧ Calm w S w' := by
  refine ((field_Text_ct N).2 w S _ _ _ (args_plain [(.v .str t, .string ⟨⟨t⟩⟩)] (fun p hp => by rw [List.mem_singleton.1 hp]; exact ⟨⟨VR.str, rfl⟩, rfl⟩)) hS (glob_none S) _ hy).mono ?_
  intro e w' he
  obtain ⟨v, o, S', rfl, hr, hc⟩ := calm_of he
  exact ⟨by rw [VR.str_inv hr.1], hc⟩

theorem word_bool (N : Nat) {w : World} {S : Hp} (hS : Lift.Sub S (hp w)) {t : List UInt8} {b : Bool} (hy : name_Word N t = some b) :
    Calls Try.prog 39 #[.string ⟨⟨t⟩⟩] w fun r w' => r = .returned (.bool b) ∧ Calm w S w' := by
  refine ((name_Word_ct N).2 w S _ _ _ (args_plain [(.v .str t, .string ⟨⟨t⟩⟩)] (fun p hp => by rw [List.mem_singleton.1 hp]; exact ⟨⟨VR.str, rfl⟩, rfl⟩)) hS (glob_none S) _ hy).mono ?_
  intro e w' he
  obtain ⟨v, o, S', rfl, hr, hc⟩ := calm_of he
  exact ⟨by rw [VR.bool_inv hr.1], hc⟩

theorem bytes_add (a b : List UInt8) : (⟨⟨a⟩⟩ : ByteArray) ++ ⟨⟨b⟩⟩ = ⟨⟨a ++ b⟩⟩ := by
  apply ByteArray.ext
  rw [ByteArray.data_append]
  apply Array.toList_inj.1
  simp

theorem calm_alloc {w : World} {S : Hp} (hS : Lift.Sub S (hp w)) (cs : Array Value) (E : Nat) : Calm w S (w.alloc (.cells cs E)) := by
  have hh : (w.alloc (.cells cs E)).heap = w.heap.push (.cells cs E (0, 0)) := rfl
  have hk : ∀ k, k < w.heap.size → (w.alloc (.cells cs E)).heap[k]? = w.heap[k]? := fun k hk => by
    rw [hh, Array.getElem?_push, if_neg (by omega)]
  refine ⟨S, ⟨?_, fun k h1 _ => hk k h1, rfl, rfl, rfl⟩, Lift.Sub.refl S, fun k o ho => ?_, fun _ h => .inl h⟩
  · rw [hh, Array.size_push]; omega
  · have := hS k o ho
    simp only [hp] at this ⊢
    rw [hk k (Array.getElem?_eq_some_iff.1 this).1]
    exact this

theorem alloc_at {w : World} {cs : Array Value} {E i : Nat} {v : Value} (h : cs[i]? = some v) : (w.alloc (.cells cs E)).cell? ⟨w.heap.size, i, none⟩ = some v := by
  have hh : (w.alloc (.cells cs E)).heap = w.heap.push (.cells cs E (0, 0)) := rfl
  simp [World.cell?, hh, h]

abbrev RootT : T := .pair .str (.pair (.int .i64) (.pair (.int .i64) (.pair (.int .i64) .unit)))

/-- where rootid.Get stands: the reader's block, and blocks of its own -/
def St (w0 : World) (S0 : Hp) (w : World) (bf : Nat) (x : RdrT.den) (L : List (Nat × Array Value × Nat)) : Prop :=
  ∃ S, WF w0 (fun _ => False) w ∧ Lift.Sub S0 S ∧ (∀ k, S k ≠ none → S0 k ≠ none ∨ w0.heap.size ≤ k) ∧ Rdr w S bf x ∧ w0.heap.size ≤ bf ∧
    ∀ p ∈ L, S p.1 = none ∧ p.1 ≠ bf ∧ w0.heap.size ≤ p.1 ∧ w.heap[p.1]? = some (.cells p.2.1 p.2.2 (0, 0))

theorem St.lt {w0 w : World} {S0 : Hp} {bf : Nat} {x : RdrT.den} {L : List (Nat × Array Value × Nat)} (h : St w0 S0 w bf x L) : ∀ p ∈ L, p.1 < w.heap.size := by
  obtain ⟨S, _, _, _, _, _, hL⟩ := h
  exact fun p hp => (Array.getElem?_eq_some_iff.1 (hL p hp).2.2.2).1

theorem St.fine {w0 w : World} {S0 : Hp} {bf : Nat} {x x' : RdrT.den} {L : List (Nat × Array Value × Nat)} {f : FuncId} {args : Array Value} {Q : Ending → Prop} {P : Program} (h : St w0 S0 w bf x L)
    (hc : ∀ S, Rdr w S bf x → Calls P f args w fun r w' => Q r ∧ Fine w S bf x' w') : Calls P f args w fun r w' => Q r ∧ St w0 S0 w' bf x' L := by
  have hlt := h.lt
  obtain ⟨S, h1, h2, h3, h4, h5, hL⟩ := h
  refine (hc S h4).mono ?_
  rintro r w' ⟨hq, S', k1, k2, k3, k4⟩
  refine ⟨hq, S', ⟨Nat.le_trans h1.size k1.size, fun k hk _ => ?_, k1.tape.trans h1.tape, k1.os.trans h1.os, k1.output.trans h1.output⟩, h2.trans k2, fun k hk => ?_, k4, h5, fun p hp => ?_⟩
  · rw [k1.same k (Nat.lt_of_lt_of_le hk h1.size) (by omega)]
    exact h1.same k hk (fun h => h)
  · rcases k3 k hk with h | h
    · exact h3 k h
    · exact .inr (Nat.le_trans h1.size h)
  · obtain ⟨p1, p2, p3, p4⟩ := hL p hp
    have := hlt p hp
    refine ⟨?_, p2, p3, ?_⟩
    · cases hs : S' p.1 with
      | none => rfl
      | some o =>
        rcases k3 p.1 (by rw [hs]; simp) with h | h
        · exact absurd p1 h
        · omega
    · rw [k1.same p.1 this p2]; exact p4

theorem St.calm {w0 w : World} {S0 : Hp} {bf : Nat} {x : RdrT.den} {L : List (Nat × Array Value × Nat)} {f : FuncId} {args : Array Value} {Q : Ending → Prop} {P : Program} (h : St w0 S0 w bf x L)
    (hc : ∀ S, Lift.Sub S (hp w) → Calls P f args w fun r w' => Q r ∧ Calm w S w') : Calls P f args w fun r w' => Q r ∧ St w0 S0 w' bf x L :=
  St.fine h (fun S hR => (hc S hR.1).mono (by rintro r w' ⟨hq, S', k1, k2, k3, k4⟩; exact ⟨hq, fine_calm hR k1 k2 k3 k4⟩))

theorem St.alloc {w0 w : World} {S0 : Hp} {bf : Nat} {x : RdrT.den} {L : List (Nat × Array Value × Nat)} (h : St w0 S0 w bf x L) (cs : Array Value) (E : Nat) :
    St w0 S0 (w.alloc (.cells cs E)) bf x ((w.heap.size, cs, E) :: L) := by
  have hlt := h.lt
  obtain ⟨S, h1, h2, h3, h4, h5, hL⟩ := h
  have hb := rdr_lt h4
  have hh : (w.alloc (.cells cs E)).heap = w.heap.push (.cells cs E (0, 0)) := rfl
  have hk : ∀ k, k < w.heap.size → (w.alloc (.cells cs E)).heap[k]? = w.heap[k]? := fun k hk => by
    rw [hh, Array.getElem?_push, if_neg (by omega)]
  have hz := h1.size
  obtain ⟨a1, a2, E', fr, a3, a4⟩ := h4
  refine ⟨S, ⟨by rw [hh, Array.size_push]; omega, fun k h1' h2' => by rw [hk k (by omega)]; exact h1.same k h1' h2', h1.tape, h1.os, h1.output⟩, h2, h3, ⟨fun k o ho => ?_, a2, E', fr, ?_, a4⟩, h5, fun p hpm => ?_⟩
  · have := a1 k o ho
    simp only [hp] at this ⊢
    rw [hk k (Array.getElem?_eq_some_iff.1 this).1]
    exact this
  · rw [hk bf hb]; exact a3
  · rcases List.mem_cons.1 hpm with rfl | hpm
    · refine ⟨?_, by simp only; omega, h1.size, ?_⟩
      · cases hs : S w.heap.size with
        | none => rfl
        | some o =>
          have := a1 _ _ hs
          simp only [hp] at this
          have := (Array.getElem?_eq_some_iff.1 this).1
          omega
      · simp only
        rw [hh, Array.getElem?_push, if_pos rfl]
    · obtain ⟨p1, p2, p3, p4⟩ := hL p hpm
      exact ⟨p1, p2, p3, by rw [hk p.1 (hlt p hpm)]; exact p4⟩

theorem St.put {w0 w : World} {S0 : Hp} {bf : Nat} {x : RdrT.den} {p : Nat} {cs : Array Value} {E : Nat} {L : List (Nat × Array Value × Nat)} (h : St w0 S0 w bf x ((p, cs, E) :: L)) (hd : ∀ q ∈ L, q.1 ≠ p) {w' : World} {cs' : Array Value}
    (hw : w' = setObj' w p (.cells cs' E (0, 0))) : St w0 S0 w' bf x ((p, cs', E) :: L) := by
  have hlt := h.lt
  obtain ⟨S, h1, h2, h3, h4, h5, hL⟩ := h
  obtain ⟨q1, q2, q3, q4⟩ := hL (p, cs, E) (List.mem_cons_self ..)
  simp only at q1 q2 q3 q4
  have hne : ∀ k, k ≠ p → w'.heap[k]? = w.heap[k]? := fun k hk => by
    have := hp_setObj_ne (w := w) (o := .cells cs' E (0, 0)) hk
    rw [hw]; exact this
  have hsz : w'.heap.size = w.heap.size := by rw [hw]; simp [setObj']
  obtain ⟨a1, a2, E', fr, a3, a4⟩ := h4
  refine ⟨S, ⟨by rw [hsz]; exact h1.size, fun k h1' h2' => by rw [hne k (by omega)]; exact h1.same k h1' h2', by rw [hw]; exact h1.tape, by rw [hw]; exact h1.os, by rw [hw]; exact h1.output⟩, h2, h3, ⟨fun k o ho => ?_, a2, E', fr, ?_, a4⟩, h5, fun u hu => ?_⟩
  · have hk : k ≠ p := fun e => by rw [e, q1] at ho; cases ho
    have := a1 k o ho
    simp only [hp] at this ⊢
    rw [hne k hk]
    exact this
  · rw [hne bf (Ne.symm q2)]; exact a3
  · rcases List.mem_cons.1 hu with rfl | hu
    · refine ⟨q1, q2, q3, ?_⟩
      rw [hw]
      exact hp_setObj q4
    · obtain ⟨p1, p2, p3, p4⟩ := hL u (List.mem_cons_of_mem _ hu)
      exact ⟨p1, p2, p3, by rw [hne u.1 (hd u hu)]; exact p4⟩

theorem St.cell {w0 w : World} {S0 : Hp} {bf : Nat} {x : RdrT.den} {L : List (Nat × Array Value × Nat)} (h : St w0 S0 w bf x L) {p : Nat} {cs : Array Value} {E i : Nat} {v : Value} (hm : (p, cs, E) ∈ L) (hi : cs[i]? = some v) : w.cell? ⟨p, i, none⟩ = some v := by
  obtain ⟨S, _, _, _, _, _, hL⟩ := h
  have := (hL _ hm).2.2.2
  simp only at this
  simp [World.cell?, this, hi]

theorem St.free {w0 w : World} {S0 : Hp} {bf : Nat} {x : RdrT.den} {L : List (Nat × Array Value × Nat)} (h : St w0 S0 w bf x L) {p : Nat} {cs : Array Value} {E i : Nat} (hm : (p, cs, E) ∈ L) : w.frozen? ⟨p, i, none⟩ = false := by
  obtain ⟨S, _, _, _, _, _, hL⟩ := h
  have := (hL _ hm).2.2.2
  simp only at this
  simp [World.frozen?, this]

theorem St.swap {w0 w : World} {S0 : Hp} {bf : Nat} {x : RdrT.den} {L L' : List (Nat × Array Value × Nat)} (h : St w0 S0 w bf x L) (hm : ∀ p ∈ L', p ∈ L) : St w0 S0 w bf x L' := by
  obtain ⟨S, h1, h2, h3, h4, h5, hL⟩ := h
  exact ⟨S, h1, h2, h3, h4, h5, fun p hp => hL p (hm p hp)⟩

theorem St.setCell {w0 w : World} {S0 : Hp} {bf : Nat} {x : RdrT.den} {p : Nat} {cs : Array Value} {E : Nat} {L : List (Nat × Array Value × Nat)} (h : St w0 S0 w bf x ((p, cs, E) :: L)) (hd : ∀ q ∈ L, q.1 ≠ p) (i : Nat) (v : Value) :
    St w0 S0 (w.setCell ⟨p, i, none⟩ v) bf x ((p, cs.setIfInBounds i v, E) :: L) := by
  have hb : hp w p = some (.cells cs E (0, 0)) := by
    obtain ⟨S, _, _, _, _, _, hL⟩ := h
    exact (hL _ (List.mem_cons_self ..)).2.2.2
  exact h.put hd (setCell_eq v hb)

theorem num_step (N : Nat) {w0 w : World} {S0 : Hp} {bf : Nat} {x x' : RdrT.den} {L : List (Nat × Array Value × Nat)} {most v : Int} (h : St w0 S0 w bf x L) (hy : field_Reader_Num N x most = some (v, (x', ()))) :
    Calls Try.prog 36 #[.pointer (some ⟨bf, 0, none⟩), .int .u64 most] w fun r w' => r = .returned (.int .u64 v) ∧ St w0 S0 w' bf x' L :=
  h.fine (fun S hR => num_call N hR hy)

theorem text_step (N : Nat) {w0 w : World} {S0 : Hp} {bf : Nat} {x x' : RdrT.den} {L : List (Nat × Array Value × Nat)} {most : Int} {t : List UInt8} (h : St w0 S0 w bf x L) (hy : field_Reader_Text N x most = some (t, (x', ()))) :
    Calls Try.prog 29 #[.pointer (some ⟨bf, 0, none⟩), .int .i64 most] w fun r w' => r = .returned (.string ⟨⟨t⟩⟩) ∧ St w0 S0 w' bf x' L :=
  h.fine (fun S hR => text_call N hR hy)

theorem byte_step (N : Nat) {w0 w : World} {S0 : Hp} {bf : Nat} {x x' : RdrT.den} {L : List (Nat × Array Value × Nat)} {v : Int} (h : St w0 S0 w bf x L) (hy : field_Reader_Byte N x = some (v, (x', ()))) :
    Calls Try.prog 28 #[.pointer (some ⟨bf, 0, none⟩)] w fun r w' => r = .returned (.int .u8 v) ∧ St w0 S0 w' bf x' L :=
  h.fine (fun S hR => by
    refine ((field_Reader_Byte_ct N).2 w S _ _ _ (rdr_args hR [] (fun _ hp => by cases hp)) hR.1 (glob_none S) _ hy).mono ?_
    intro e w' he
    obtain ⟨u, o, S', rfl, hr, hf⟩ := fine_of rfl rfl obR_mem rfl he
    exact ⟨by rw [VR.int_inv hr.1], hf⟩)

theorem fail_step (N : Nat) {w0 w : World} {S0 : Hp} {bf : Nat} {x x' : RdrT.den} {L : List (Nat × Array Value × Nat)} {v : Int} (h : St w0 S0 w bf x L) (hy : field_Reader_Fail N x v = some ((), (x', ()))) :
    Calls Try.prog 37 #[.pointer (some ⟨bf, 0, none⟩), .int .i64 v] w fun r w' => (∃ u, r = .returned u) ∧ St w0 S0 w' bf x' L :=
  h.fine (fun S hR => by
    refine ((field_Reader_Fail_ct N).2 w S _ _ _ (rdr_args hR [(.v (.int .i64) v, .int .i64 v)] (fun p hp => by
      rw [List.mem_singleton.1 hp]; exact ⟨⟨VR.int, rfl⟩, rfl⟩)) hR.1 (glob_none S) _ hy).mono ?_
    intro e w' he
    obtain ⟨u, o, S', rfl, hr, hf⟩ := fine_of rfl rfl obR_mem rfl he
    exact ⟨⟨u, rfl⟩, hf⟩)

theorem end_step (N : Nat) {w0 w : World} {S0 : Hp} {bf : Nat} {x x' : RdrT.den} {L : List (Nat × Array Value × Nat)} {v : Int} (h : St w0 S0 w bf x L) (hy : field_Reader_End N x = some (v, (x', ()))) :
    Calls Try.prog 31 #[.pointer (some ⟨bf, 0, none⟩)] w fun r w' => r = .returned (.int .i64 v) ∧ St w0 S0 w' bf x' L :=
  h.fine (fun S hR => by
    refine ((field_Reader_End_ct N).2 w S _ _ _ (rdr_args hR [] (fun _ hp => by cases hp)) hR.1 (glob_none S) _ hy).mono ?_
    intro e w' he
    obtain ⟨u, o, S', rfl, hr, hf⟩ := fine_of rfl rfl obR_mem rfl he
    exact ⟨by rw [VR.int_inv hr.1], hf⟩)

theorem word_step (N : Nat) {w0 w : World} {S0 : Hp} {bf : Nat} {x : RdrT.den} {L : List (Nat × Array Value × Nat)} {t : List UInt8} {v : Bool} (h : St w0 S0 w bf x L) (hy : name_Word N t = some v) :
    Calls Try.prog 39 #[.string ⟨⟨t⟩⟩] w fun r w' => r = .returned (.bool v) ∧ St w0 S0 w' bf x L :=
  h.calm (fun S hS => word_bool N hS hy)

theorem new_step (N : Nat) {w0 w : World} {S0 : Hp} {q : Nat} {cs : Array Value} {E : Nat} {s : List UInt8} (hS0 : Lift.Sub S0 (hp w)) (h1 : WF w0 (fun _ => False) w) (hq : w0.heap.size ≤ q) (hn : S0 q = none) (hc : w.heap[q]? = some (.cells cs E (0, 0))) :
    Calls Try.prog 27 #[.string ⟨⟨s⟩⟩] w fun r w' => ∃ bf, r = .returned (.pointer (some ⟨bf, 0, none⟩)) ∧ St w0 S0 w' bf (true, (s, (0, ()))) [(q, cs, E)] := by
  refine ((field_New_ct N).2 w S0 _ _ _ (args_plain [(.v .str s, .string ⟨⟨s⟩⟩)] (fun p hp => by rw [List.mem_singleton.1 hp]; exact ⟨⟨VR.str, rfl⟩, rfl⟩)) hS0 (glob_none S0) (true, (s, (0, ()))) rfl).mono ?_
  intro e w' he
  obtain ⟨v, S', o, ob', rfl, hwf, k1, k2, k3, ⟨hr, _⟩, ho, _⟩ := he
  obtain ⟨bf, E', fr, ho', hv, hcell, hfr⟩ := rdr_open hr
  subst hv
  obtain ⟨o1, o2⟩ := ho bf (by rw [ho']; exact List.mem_singleton.2 rfl)
  have o2 : w.heap.size ≤ bf := by
    rcases o2 with ⟨i, hi⟩ | h
    · cases hi
    · exact h
  have hlt : q < w.heap.size := (Array.getElem?_eq_some_iff.1 hc).1
  refine ⟨bf, rfl, S', ⟨Nat.le_trans h1.size hwf.size, fun k hk _ => ?_, hwf.tape.trans h1.tape, hwf.os.trans h1.os, hwf.output.trans h1.output⟩, k1, fun k hk => ?_, ⟨k2, o1, E', fr, hcell, hfr⟩, Nat.le_trans h1.size o2, fun p hp => ?_⟩
  · rw [hwf.same k (Nat.lt_of_lt_of_le hk h1.size) (by rintro ⟨i, hi⟩; cases hi)]
    exact h1.same k hk (fun h => h)
  · rcases k3 k hk with h | ⟨i, hi⟩ | h
    · exact .inl h
    · cases hi
    · exact .inr (Nat.le_trans h1.size h)
  · rw [List.mem_singleton.1 hp]
    refine ⟨?_, by simp only; omega, hq, ?_⟩
    · cases hs : S' q with
      | none => rfl
      | some o =>
        rcases k3 q (by rw [hs]; simp) with h | ⟨i, hi⟩ | h
        · exact absurd hn h
        · cases hi
        · omega
    · simp only
      rw [hwf.same q hlt (by rintro ⟨i, hi⟩; cases hi)]
      exact hc

theorem St.toCalm {w0 w : World} {S0 : Hp} {bf : Nat} {x : RdrT.den} {L : List (Nat × Array Value × Nat)} (h : St w0 S0 w bf x L) : Calm w0 S0 w := by
  obtain ⟨S, h1, h2, h3, h4, h5, hL⟩ := h
  exact ⟨S, h1, h2, h4.1, h3⟩

theorem St.four {w0 w : World} {S0 : Hp} {bf : Nat} {x : RdrT.den} {L : List (Nat × Array Value × Nat)} {p : Nat} {cs : Array Value} {E : Nat} (h : St w0 S0 w bf x L) (hm : (p, cs, E) ∈ L) (a b c d : Value) :
    Calm w0 S0 ((((w.setCell ⟨p, 0, none⟩ a).setCell ⟨p, 1, none⟩ b).setCell ⟨p, 2, none⟩ c).setCell ⟨p, 3, none⟩ d) := by
  have f := h.swap (L' := [(p, cs, E)]) (by intro q hq; rw [List.mem_singleton.1 hq]; exact hm)
  have hd : ∀ q ∈ ([] : List (Nat × Array Value × Nat)), q.1 ≠ p := fun q hq => by cases hq
  exact ((((f.setCell hd 0 a).setCell hd 1 b).setCell hd 2 c).setCell hd 3 d).toCalm

set_option maxHeartbeats 4000000 in
theorem ends_of_calm {w w' : World} {S : Hp} {args : List A} {vals : List Value} {ob : Nat → List Nat} {rA : A} {rV : Value} {outs : List A}
    (hb : ∀ y ∈ args, isBoxA y = false) (hob : ∀ i, ob i = []) (hC : Calm w S w') (hr : ∀ S', ARel (hp w') S' (fun _ => undef) rA rV []) (hrr : rA.refs = []) : Lift.Ends w S args vals ob rA outs (.returned rV) w' := by
  obtain ⟨S', h1, h2, h3, h4⟩ := hC
  refine ⟨rV, S', [], ob, rfl, ⟨h1.size, fun k hk _ => h1.same k hk (fun h => h), h1.tape, h1.os, h1.output⟩, h2, h3, fun k hk => ?_, ⟨hr S', hrr⟩, (fun k hk => by cases hk), .nil, ?_, ?_, ?_, ?_, fun _ h => h⟩
  · rcases h4 k hk with h | h
    · exact .inl h
    · exact .inr (.inr h)
  · intro i y hy hbx
    have := hb y (List.mem_of_getElem? hy)
    rw [hbx] at this
    cases this
  · intro i k hk
    rw [hob i] at hk
    cases hk
  · intro i j k hi
    rw [hob i] at hi
    cases hi
  · intro i
    rw [hob i]
    exact .nil

theorem form_bool (N : Nat) {w : World} {S : Hp} (hS : Lift.Sub S (hp w)) {k n e : Int} {t x : List UInt8} {v : Bool} (hy : ring_Form N (k, t, n, e, x, ()) = some v) :
    Calls Try.prog 16 #[.agg #[.int .i64 k, .string ⟨⟨t⟩⟩, .int .i64 n, .int .i64 e, .string ⟨⟨x⟩⟩]] w fun r w' => r = .returned (.bool v) ∧ Calm w S w' := by
  refine ((ring_Form_ct N).2 w S _ _ _ (args_plain [(.v (.pair (.int .i64) (.pair .str (.pair (.int .i64) (.pair (.int .i64) (.pair .str .unit))))) (k, t, n, e, x, ()), .agg #[.int .i64 k, .string ⟨⟨t⟩⟩, .int .i64 n, .int .i64 e, .string ⟨⟨x⟩⟩])] (fun p hp => by
    rw [List.mem_singleton.1 hp]
    exact ⟨⟨⟨_, rfl, [.int .i64 k], _, rfl, rfl, [.string ⟨⟨t⟩⟩], _, rfl, rfl, [.int .i64 n], _, rfl, rfl, [.int .i64 e], _, rfl, rfl, [.string ⟨⟨x⟩⟩], [], rfl, rfl, rfl⟩, rfl⟩, rfl⟩)) hS (glob_none S) _ hy).mono ?_
  intro e' w' he
  obtain ⟨u, o, S', rfl, hr, hc⟩ := calm_of he
  exact ⟨by rw [VR.bool_inv hr.1], hc⟩

theorem Calm.drew {w w' : World} {S : Hp} (h : Calm w S w') : Calm w S w'.drew := by
  obtain ⟨S', h1, h2, h3, h4⟩ := h
  exact ⟨S', ⟨h1.size, h1.same, h1.tape, h1.os, h1.output⟩, h2, h3, h4⟩

theorem numbersOf_walk {w : World} {b : Nat} :
    Calls Try.prog 17 #[.pointer (some ⟨b, 0, none⟩)] w fun r w' => r = .returned (.agg #[.pointer (some ⟨b, 3, none⟩), .pointer (some ⟨b, 2, none⟩)]) ∧ ∀ S, Lift.Sub S (hp w) → Calm w S w' := by
  go_enter Try.func17, Try.ntmps17
  go_wp2
  go_region_held3 (fun _ => True) (trivial) (fail)
  all_goals go_wp2
  refine ⟨rfl, _, ?_, rfl, fun S hS => (calm_alloc hS _ _).drew⟩
  have c0 : (w.alloc (.cells #[.pointer (some ⟨b, 3, none⟩), .pointer (some ⟨b, 2, none⟩)] 40)).cell? ⟨w.heap.size, 0, none⟩ = some (.pointer (some ⟨b, 3, none⟩)) := alloc_at rfl
  have c1 : (w.alloc (.cells #[.pointer (some ⟨b, 3, none⟩), .pointer (some ⟨b, 2, none⟩)] 40)).cell? ⟨w.heap.size, 1, none⟩ = some (.pointer (some ⟨b, 2, none⟩)) := alloc_at rfl
  simp [results, Try.results17, go_sem, c0, c1]

theorem putnum_walk (N : Nat) {w : World} {S : Hp} {b c : Nat} {e n : Int} {a1 a2 : List UInt8} (hS : Lift.Sub S (hp w))
    (c0 : w.cell? ⟨c, 0, none⟩ = some (.pointer (some ⟨b, 3, none⟩))) (c1 : w.cell? ⟨c, 1, none⟩ = some (.pointer (some ⟨b, 2, none⟩)))
    (b2 : w.cell? ⟨b, 2, none⟩ = some (.int .i64 n)) (b3 : w.cell? ⟨b, 3, none⟩ = some (.int .i64 e))
    (he : 0 ≤ e) (he' : e ≤ 1099511627776) (h1 : field_Num N e = some a1) (hn : 0 ≤ n) (hn' : n ≤ 1099511627776) (h2 : field_Num N n = some a2)
    (l1 : a1.length ≤ 9223372036854775807) (l2 : a1.length + a2.length ≤ 9223372036854775807) :
    Calls Try.prog 19 #[.slice (some ⟨c, 0, none⟩) 2 2] w fun r w' => r = .returned (.string ⟨⟨a1 ++ a2⟩⟩) ∧ Calm w S w' := by
  have H1 := num_bytes N hS h1
  have H2 : ∀ w1, Calm w S w1 → Calls Try.prog 25 #[.int .u64 n] w1 fun r w' => r = .returned (.string ⟨⟨a2⟩⟩) ∧ Calm w S w' := fun w1 ⟨S1, k1, k2, k3, k4⟩ =>
    (num_bytes N k3 h2).mono (by rintro r w' ⟨rfl, S2, l1, l2, l3, l4⟩; exact ⟨rfl, S2, k1.trans l1 (fun _ h => .inl h), k2.trans l2, l3, fun k hk => (l4 k hk).elim (k4 k) (fun h => .inr (Nat.le_trans k1.size h))⟩)
  go_enter Try.func19, Try.ntmps19
  go_wp2
  refine wp_loop_rounds 3 ?_
  rw [rounds_succ]
  go_wp2_with (go_at_call 25; refine H1.mono ?_; rintro r w1 ⟨rfl, hq⟩; have q1 := hq.cell c1; have q2 := hq.cell b2; have G2 := H2 w1 hq; clear H1 H2 hq)
  rw [rounds_succ]
  go_wp2_with (go_at_call 25; refine G2.mono ?_; rintro r w2 ⟨rfl, hq⟩; have HM := Go.Lib.hid hq; clear G2 hq)
  rw [rounds_succ]
  go_wp2
  first | go_ret | go_ret2
  refine ⟨?_, HM.out⟩
  have z : (⟨#[]⟩ : ByteArray) = ⟨⟨[]⟩⟩ := rfl
  simp [z, bytes_add]

theorem calm_comp {w w1 : World} {S : Hp} (h : Calm w S w1) : ∃ S1, Lift.Sub S1 (hp w1) ∧ ∀ w2, Calm w1 S1 w2 → Calm w S w2 := by
  obtain ⟨S1, k1, k2, k3, k4⟩ := h
  exact ⟨S1, k3, fun w2 ⟨S2, l1, l2, l3, l4⟩ => ⟨S2, k1.trans l1 (fun _ h => .inl h), k2.trans l2, l3, fun k hk => (l4 k hk).elim (k4 k) (fun h => .inr (Nat.le_trans k1.size h))⟩⟩

theorem text_calm (N : Nat) {w w1 : World} {S : Hp} {t s : List UInt8} (h : Calm w S w1) (hy : field_Text N t = some s) :
    Calls Try.prog 18 #[.string ⟨⟨t⟩⟩] w1 fun r w' => r = .returned (.string ⟨⟨s⟩⟩) ∧ Calm w S w' := by
  obtain ⟨S1, hS, hk⟩ := calm_comp h
  exact (text_bytes N hS hy).mono (by rintro r w' ⟨rfl, hq⟩; exact ⟨rfl, hk _ hq⟩)

theorem putnum_calm (N : Nat) {w w1 : World} {S : Hp} {b c : Nat} {e n : Int} {a1 a2 : List UInt8} (h : Calm w S w1)
    (c0 : w.cell? ⟨c, 0, none⟩ = some (.pointer (some ⟨b, 3, none⟩))) (c1 : w.cell? ⟨c, 1, none⟩ = some (.pointer (some ⟨b, 2, none⟩)))
    (b2 : w.cell? ⟨b, 2, none⟩ = some (.int .i64 n)) (b3 : w.cell? ⟨b, 3, none⟩ = some (.int .i64 e))
    (he : 0 ≤ e) (he' : e ≤ 1099511627776) (h1 : field_Num N e = some a1) (hn : 0 ≤ n) (hn' : n ≤ 1099511627776) (h2 : field_Num N n = some a2)
    (l1 : a1.length ≤ 9223372036854775807) (l2 : a1.length + a2.length ≤ 9223372036854775807) :
    Calls Try.prog 19 #[.slice (some ⟨c, 0, none⟩) 2 2] w1 fun r w' => r = .returned (.string ⟨⟨a1 ++ a2⟩⟩) ∧ Calm w S w' := by
  obtain ⟨S1, hS, hk⟩ := calm_comp h
  exact (putnum_walk N hS (h.cell c0) (h.cell c1) (h.cell b2) (h.cell b3) he he' h1 hn hn' h2 l1 l2).mono (by rintro r w' ⟨rfl, hq⟩; exact ⟨rfl, hk _ hq⟩)

/-- what the fifth region stands on -/
theorem rput_mid {W w2 w3 : World} {S : Hp} {b E F : Nat} {k n e : Int} {t x : List UInt8} {p q : Value} (hk : 0 ≤ k) (hk' : k ≤ 255)
    (b1 : W.cell? ⟨b, 1, none⟩ = some (.string ⟨⟨t⟩⟩)) (b2 : W.cell? ⟨b, 2, none⟩ = some (.int .i64 n)) (b3 : W.cell? ⟨b, 3, none⟩ = some (.int .i64 e)) (b4 : W.cell? ⟨b, 4, none⟩ = some (.string ⟨⟨x⟩⟩))
    (h1 : Calm W S w2) (h2 : ∀ S, Lift.Sub S (hp w2) → Calm w2 S w3) :
    ∃ S4, Calm ((w3.alloc (.cells #[p, q] E)).alloc (.cells #[.int .u8 k] F)) S4 ((w3.alloc (.cells #[p, q] E)).alloc (.cells #[.int .u8 k] F)) ∧ (∀ w', Calm ((w3.alloc (.cells #[p, q] E)).alloc (.cells #[.int .u8 k] F)) S4 w' → Calm W S w') ∧
      ((w3.alloc (.cells #[p, q] E)).alloc (.cells #[.int .u8 k] F)).cell? ⟨b, 1, none⟩ = some (.string ⟨⟨t⟩⟩) ∧
      ((w3.alloc (.cells #[p, q] E)).alloc (.cells #[.int .u8 k] F)).cell? ⟨b, 2, none⟩ = some (.int .i64 n) ∧
      ((w3.alloc (.cells #[p, q] E)).alloc (.cells #[.int .u8 k] F)).cell? ⟨b, 3, none⟩ = some (.int .i64 e) ∧
      ((w3.alloc (.cells #[p, q] E)).alloc (.cells #[.int .u8 k] F)).cell? ⟨b, 4, none⟩ = some (.string ⟨⟨x⟩⟩) ∧
      ((w3.alloc (.cells #[p, q] E)).alloc (.cells #[.int .u8 k] F)).cell? ⟨w3.heap.size, 0, none⟩ = some p ∧
      ((w3.alloc (.cells #[p, q] E)).alloc (.cells #[.int .u8 k] F)).cell? ⟨w3.heap.size, 1, none⟩ = some q ∧
      (convert 43 9 (.slice (some ⟨w3.heap.size + 1, 0, none⟩) 1 1)).run Try.prog ((w3.alloc (.cells #[p, q] E)).alloc (.cells #[.int .u8 k] F)) = .ok (.string ⟨⟨[UInt8.ofNat k.toNat]⟩⟩) ((w3.alloc (.cells #[p, q] E)).alloc (.cells #[.int .u8 k] F)) := by
  have hA : Calm W S w3 := h1.next h2
  have hB : Calm W S (w3.alloc (.cells #[p, q] E)) := hA.next fun S1 h => calm_alloc h _ _
  have hC : Calm W S ((w3.alloc (.cells #[p, q] E)).alloc (.cells #[.int .u8 k] F)) := hB.next fun S1 h => calm_alloc h _ _
  have hD := calm_alloc (w := w3.alloc (.cells #[p, q] E)) (S := fun _ => none) (fun _ _ h => by cases h) #[.int .u8 k] F
  have z : (w3.alloc (.cells #[p, q] E)).heap.size = w3.heap.size + 1 := Array.size_push ..
  obtain ⟨S4, i1, i2⟩ := calm_comp hC
  refine ⟨S4, Calm.refl i1, i2, hC.cell b1, hC.cell b2, hC.cell b3, hC.cell b4, hD.cell (alloc_at rfl), hD.cell (alloc_at rfl), ?_⟩
  have := run_convert_bytes_back (P := Try.prog) ((w3.alloc (.cells #[p, q] E)).alloc (.cells #[.int .u8 k] F)) 43 9 5 ⟨w3.heap.size + 1, 0, none⟩ 1 [UInt8.ofNat k.toNat] Try.underlying43 Try.underlying5 Try.underlying9 (fun j hj => by
    have : j = 0 := by simp at hj; exact hj
    subst this
    have hr : (([UInt8.ofNat k.toNat][0]).toNat : Int) = k := by
      have hb : (UInt8.ofNat k.toNat).toNat = k.toNat % 256 := UInt8.toNat_ofNat ..
      show ((UInt8.ofNat k.toNat).toNat : Int) = k
      rw [hb]
      omega
    have := alloc_at (w := w3.alloc (.cells #[p, q] E)) (cs := #[.int .u8 k]) (E := F) (i := 0) rfl
    rw [z] at this
    rw [hr]
    exact this)
  exact this

attribute [local irreducible] Calm in
set_option maxHeartbeats 3200000 in
theorem rput_walk (N : Nat) {w : World} {S : Hp} {k n e : Int} {t x s1 s2 s3 s4 : List UInt8} (hS : Lift.Sub S (hp w)) (hf : ring_Form N (k, t, n, e, x, ()) = some true) (hk : 0 ≤ k) (hk' : k ≤ 255)
    (h1 : field_Text N t = some s1) (h4 : field_Text N x = some s4)
    (he : 0 ≤ e) (he' : e ≤ 1099511627776) (h2 : field_Num N e = some s2) (hn : 0 ≤ n) (hn' : n ≤ 1099511627776) (h3 : field_Num N n = some s3)
    (l1 : 1 + s1.length ≤ 9223372036854775807) (l2 : 1 + s1.length + (s2.length + s3.length) ≤ 9223372036854775807) (l3 : 1 + s1.length + (s2.length + s3.length) + s4.length ≤ 9223372036854775807) :
    Calls Try.prog 7 #[.agg #[.int .i64 k, .string ⟨⟨t⟩⟩, .int .i64 n, .int .i64 e, .string ⟨⟨x⟩⟩]] w (fun r w' => r = .returned (.tuple #[.string ⟨⟨[UInt8.ofNat k.toNat] ++ s1 ++ (s2 ++ s3) ++ s4⟩⟩, .int .i64 0]) ∧ Calm w S w') := by
  suffices HX : ∀ R : Ending → World → Prop, Go.RowKit.Hid (∀ w', Calm w S w' → R (.returned (.tuple #[.string ⟨⟨[UInt8.ofNat k.toNat] ++ s1 ++ (s2 ++ s3) ++ s4⟩⟩, .int .i64 0])) w') → Calls Try.prog 7 #[.agg #[.int .i64 k, .string ⟨⟨t⟩⟩, .int .i64 n, .int .i64 e, .string ⟨⟨x⟩⟩]] w R from HX _ (Go.Lib.hid (fun w' h => ⟨rfl, h⟩))
  intro R HR
  obtain ⟨W, hW⟩ : ∃ W, W = w.alloc (.cells #[.int .i64 k, .string ⟨⟨t⟩⟩, .int .i64 n, .int .i64 e, .string ⟨⟨x⟩⟩] 28) := ⟨_, rfl⟩
  have hc := calm_alloc hS #[.int .i64 k, .string ⟨⟨t⟩⟩, .int .i64 n, .int .i64 e, .string ⟨⟨x⟩⟩] 28
  have b0 : W.cell? ⟨w.heap.size, 0, none⟩ = some (.int .i64 k) := by rw [hW]; exact alloc_at rfl
  have b1 : W.cell? ⟨w.heap.size, 1, none⟩ = some (.string ⟨⟨t⟩⟩) := by rw [hW]; exact alloc_at rfl
  have b2 : W.cell? ⟨w.heap.size, 2, none⟩ = some (.int .i64 n) := by rw [hW]; exact alloc_at rfl
  have b3 : W.cell? ⟨w.heap.size, 3, none⟩ = some (.int .i64 e) := by rw [hW]; exact alloc_at rfl
  have b4 : W.cell? ⟨w.heap.size, 4, none⟩ = some (.string ⟨⟨x⟩⟩) := by rw [hW]; exact alloc_at rfl
  rw [← hW] at hc
  obtain ⟨S1, g3, hcc0⟩ := calm_comp hc
  have hcc := Go.Lib.hid hcc0
  clear hcc0 hc
  have HF := form_bool N g3 hf
  have HZ := Go.Lib.hid (fun w2 w3 : World => rput_mid (W := W) (w2 := w2) (w3 := w3) (S := S1) (E := 40) (F := 5) (p := .pointer (some ⟨w.heap.size, 3, none⟩)) (q := .pointer (some ⟨w.heap.size, 2, none⟩)) hk hk' b1 b2 b3 b4)
  have HL := Go.Lib.hid (And.intro h1 (And.intro h2 (And.intro h3 (And.intro h4 (And.intro l1 (And.intro l2 l3))))))
  have HE := Go.Lib.hid (And.intro he (And.intro he' (And.intro hn hn')))
  clear h1 h2 h3 h4 l1 l2 l3 he he' hn hn' b1 b2 b3 b4
  subst hW
  have HNo := fun w2 : World => numbersOf_walk (w := w2) (b := w.heap.size)
  go_enter Try.func7, Try.ntmps7
  go_wp2_with (first
    | (go_at_call 16; refine HF.mono ?_; rintro r w2 ⟨rfl, hq⟩; have hn2 := HNo w2; have k0 := hq.cell b0; have HM2 := Go.Lib.hid hq; clear HF hq HNo)
    | (go_at_call 17; refine hn2.mono ?_; rintro r w3 ⟨rfl, hq3⟩; have j0 := (hq3 _ (show Lift.Sub (fun _ => none) (hp w2) from fun _ _ h => by cases h)).cell k0; have j1 := (calm_alloc (w := w3) (S := fun _ => none) (fun _ _ h => by cases h) #[.pointer (some ⟨w.heap.size, 3, none⟩), .pointer (some ⟨w.heap.size, 2, none⟩)] 40).cell j0; obtain ⟨S4, y0, y1, y2, y3, y4, y5, y6, y7, y8⟩ := HZ.out w2 w3 HM2.out hq3; clear hn2 hq3 k0))
  obtain ⟨W4, hW4⟩ : ∃ W4, W4 = ((w3.alloc (.cells #[.pointer (some ⟨w.heap.size, 3, none⟩), .pointer (some ⟨w.heap.size, 2, none⟩)] 40)).alloc (.cells #[.int .u8 k] 5)) := ⟨_, rfl⟩
  rw [← hW4] at y0 y1 y2 y3 y4 y5 y6 y7 ⊢
  clear y8 hW4 j1 j0 HZ
  have HT1 : ∀ w1, Calm W4 S4 w1 → _ := fun w1 h => text_calm N h HL.out.1
  have HT4 : ∀ w1, Calm W4 S4 w1 → _ := fun w1 h => text_calm N h HL.out.2.2.2.1
  have HP : ∀ w1, Calm W4 S4 w1 → _ := fun w1 h => putnum_calm N h y6 y7 y3 y4 HE.out.1 HE.out.2.1 HL.out.2.1 HE.out.2.2.1 HE.out.2.2.2 HL.out.2.2.1 (by have := HL.out; omega) (by have := HL.out; omega)
  have z1 : ∀ w1, Calm W4 S4 w1 → w1.cell? ⟨w.heap.size, 1, none⟩ = some (.string ⟨⟨t⟩⟩) := fun w1 h => h.cell y2
  have z4 : ∀ w1, Calm W4 S4 w1 → w1.cell? ⟨w.heap.size, 4, none⟩ = some (.string ⟨⟨x⟩⟩) := fun w1 h => h.cell y5
  have Y1 := Go.Lib.hid y1
  clear y1 y2 y3 y4 y5 y6 y7
  have q1 : ¬ 9223372036854775807 < 1 + s1.length := by have := HL.out; omega
  have q2 : ¬ 9223372036854775807 < 1 + s1.length + (s2.length + s3.length) := by have := HL.out.2.2.2.2.2.1; omega
  have q3 : ¬ 9223372036854775807 < 1 + s1.length + (s2.length + s3.length) + s4.length := by have := HL.out.2.2.2.2.2.2; omega
  go_region_held3 (fun w' => Calm W4 S4 w' ∧ w'.cell? ⟨w.heap.size, 1, none⟩ = some (.string ⟨⟨t⟩⟩) ∧ w'.cell? ⟨w.heap.size, 4, none⟩ = some (.string ⟨⟨x⟩⟩))
    (first | exact ⟨y0, z1 _ y0, z4 _ y0⟩ | exact ⟨y0.drew, z1 _ y0.drew, z4 _ y0.drew⟩ | (rename_i hs; exact ⟨hs.1.drew, z1 _ hs.1.drew, z4 _ hs.1.drew⟩) | (exact ⟨by assumption, z1 _ (by assumption), z4 _ (by assumption)⟩))
    (first
      | (go_at_call_of 18 (Value.string ⟨⟨t⟩⟩); refine (HT1 _ (by first | exact y0.drew | assumption)).mono ?_; rintro r w' ⟨rfl, hq⟩)
      | (go_at_call_of 18 (Value.string ⟨⟨x⟩⟩); refine (HT4 _ (by first | exact y0.drew | assumption)).mono ?_; rintro r w' ⟨rfl, hq⟩)
      | (go_at_call 19; refine (HP _ (by first | exact y0.drew | assumption)).mono ?_; rintro r w' ⟨rfl, hq⟩))
  all_goals go_wp2
  all_goals (simp only [bytes_add]; exact HR.out _ (hcc.out _ (Y1.out _ (by assumption))))

theorem rput_bad (N : Nat) {w : World} {S : Hp} {k n e : Int} {t x : List UInt8} (hS : Lift.Sub S (hp w)) (hf : ring_Form N (k, t, n, e, x, ()) = some false) :
    Calls Try.prog 7 #[.agg #[.int .i64 k, .string ⟨⟨t⟩⟩, .int .i64 n, .int .i64 e, .string ⟨⟨x⟩⟩]] w (fun r w' => r = .returned (.tuple #[.string ⟨⟨[]⟩⟩, .int .i64 2]) ∧ Calm w S w') := by
  suffices HX : ∀ R : Ending → World → Prop, Go.RowKit.Hid (∀ w', Calm w S w' → R (.returned (.tuple #[.string ⟨⟨[]⟩⟩, .int .i64 2])) w') → Calls Try.prog 7 #[.agg #[.int .i64 k, .string ⟨⟨t⟩⟩, .int .i64 n, .int .i64 e, .string ⟨⟨x⟩⟩]] w R from HX _ (Go.Lib.hid (fun w' h => ⟨rfl, h⟩))
  intro R HR
  obtain ⟨W, hW⟩ : ∃ W, W = w.alloc (.cells #[.int .i64 k, .string ⟨⟨t⟩⟩, .int .i64 n, .int .i64 e, .string ⟨⟨x⟩⟩] 28) := ⟨_, rfl⟩
  have hc := calm_alloc hS #[.int .i64 k, .string ⟨⟨t⟩⟩, .int .i64 n, .int .i64 e, .string ⟨⟨x⟩⟩] 28
  have b0 : W.cell? ⟨w.heap.size, 0, none⟩ = some (.int .i64 k) := by rw [hW]; exact alloc_at rfl
  have b1 : W.cell? ⟨w.heap.size, 1, none⟩ = some (.string ⟨⟨t⟩⟩) := by rw [hW]; exact alloc_at rfl
  have b2 : W.cell? ⟨w.heap.size, 2, none⟩ = some (.int .i64 n) := by rw [hW]; exact alloc_at rfl
  have b3 : W.cell? ⟨w.heap.size, 3, none⟩ = some (.int .i64 e) := by rw [hW]; exact alloc_at rfl
  have b4 : W.cell? ⟨w.heap.size, 4, none⟩ = some (.string ⟨⟨x⟩⟩) := by rw [hW]; exact alloc_at rfl
  rw [← hW] at hc
  obtain ⟨S1, g3, hcc0⟩ := calm_comp hc
  have hcc := Go.Lib.hid hcc0
  clear hcc0 hc
  have HF := form_bool N g3 hf
  subst hW
  go_enter Try.func7, Try.ntmps7
  go_wp2_with (go_at_call 16; refine HF.mono ?_; rintro r w2 ⟨rfl, hq⟩; have HM2 := Go.Lib.hid hq; clear HF hq)
  exact HR.out _ (hcc.out _ HM2.out)

abbrev EvT : T := .pair (.int .i64) (.pair .str (.pair (.int .i64) (.pair (.int .i64) (.pair .str .unit))))

theorem ev_inv {S : Hp} {t x : List UInt8} {k e n : Int} {v : Value} (h : VR S EvT (k, t, n, e, x, ()) v) : v = .agg #[.int .i64 k, .string ⟨⟨t⟩⟩, .int .i64 n, .int .i64 e, .string ⟨⟨x⟩⟩] := by
  have h' : ∃ cs, v = .agg cs ∧ Rd S EvT (k, t, n, e, x, ()) cs.toList := h
  obtain ⟨cs, rfl, c1, c2, hc, k1, c3, c4, hc', k2, c5, c6, hc'', k3, c7, c8, hc3, k4, c9, c10, hc4, k5, k6⟩ := h'
  have e1 : c1 = [.int .i64 k] := k1
  have e2 : c3 = [.string ⟨⟨t⟩⟩] := k2
  have e3 : c5 = [.int .i64 n] := k3
  have e4 : c7 = [.int .i64 e] := k4
  have e5 : c9 = [.string ⟨⟨x⟩⟩] := k5
  have e6 : c10 = [] := k6
  congr 1
  apply Array.toList_inj.1
  rw [hc, hc', hc'', hc3, hc4, e1, e2, e3, e4, e5, e6]
  rfl

theorem ev_rel (S : Hp) (t x : List UInt8) (k e n : Int) : VR S EvT (k, t, n, e, x, ()) (.agg #[.int .i64 k, .string ⟨⟨t⟩⟩, .int .i64 n, .int .i64 e, .string ⟨⟨x⟩⟩]) :=
  show ∃ cs, _ = Value.agg cs ∧ Rd S EvT (k, t, n, e, x, ()) cs.toList from
    ⟨_, rfl, [.int .i64 k], _, rfl, rfl, [.string ⟨⟨t⟩⟩], _, rfl, rfl, [.int .i64 n], _, rfl, rfl, [.int .i64 e], _, rfl, rfl, [.string ⟨⟨x⟩⟩], [], rfl, rfl, rfl⟩

noncomputable def record_Put (N : Nat) (v : EvT.den) : Option (List UInt8 × Int × Unit) :=
  (ring_Form N v).bind fun ok =>
  cond (!ok) (some ([], (2, ())))
  ((field_Text N v.2.1).bind fun s1 =>
    (field_Num N v.2.2.2.1).bind fun s2 =>
    (field_Num N v.2.2.1).bind fun s3 =>
    (field_Text N v.2.2.2.2.1).bind fun s4 =>
    cond (decide ((0 ≤ v.1 ∧ v.1 ≤ 255) ∧ (0 ≤ v.2.2.2.1 ∧ v.2.2.2.1 ≤ 1099511627776) ∧ (0 ≤ v.2.2.1 ∧ v.2.2.1 ≤ 1099511627776) ∧
        1 + s1.length + (s2.length + s3.length) + s4.length ≤ 9223372036854775807))
      (some ([UInt8.ofNat v.1.toNat] ++ s1 ++ (s2 ++ s3) ++ s4, (0, ()))) none)

theorem rput_call (N : Nat) {w : World} {S : Hp} {t x y : List UInt8} {k e n f : Int} (hS : Lift.Sub S (hp w)) (hy : record_Put N (k, t, n, e, x, ()) = some (y, (f, ()))) :
    Calls Try.prog 7 #[.agg #[.int .i64 k, .string ⟨⟨t⟩⟩, .int .i64 n, .int .i64 e, .string ⟨⟨x⟩⟩]] w fun r w' => r = .returned (.tuple #[.string ⟨⟨y⟩⟩, .int .i64 f]) ∧ Calm w S w' := by
  unfold record_Put at hy
  dsimp only at hy
  cases hw : ring_Form N (k, t, n, e, x, ()) with
  | none => rw [hw] at hy; cases hy
  | some ok =>
  rw [hw, Option.bind_some] at hy
  cases ok with
  | false =>
    cases hy
    exact rput_bad N hS hw
  | true =>
    rw [Bool.not_true, cond_false] at hy
    cases h1 : field_Text N t with
    | none => rw [h1] at hy; cases hy
    | some s1 =>
    rw [h1, Option.bind_some] at hy
    cases h2 : field_Num N e with
    | none => rw [h2] at hy; cases hy
    | some s2 =>
    rw [h2, Option.bind_some] at hy
    cases h3 : field_Num N n with
    | none => rw [h3] at hy; cases hy
    | some s3 =>
    rw [h3, Option.bind_some] at hy
    cases h4 : field_Text N x with
    | none => rw [h4] at hy; cases hy
    | some s4 =>
    rw [h4, Option.bind_some] at hy
    by_cases hl : (0 ≤ k ∧ k ≤ 255) ∧ (0 ≤ e ∧ e ≤ 1099511627776) ∧ (0 ≤ n ∧ n ≤ 1099511627776) ∧ 1 + s1.length + (s2.length + s3.length) + s4.length ≤ 9223372036854775807
    · rw [decide_eq_true hl] at hy
      cases hy
      obtain ⟨⟨a1, a2⟩, ⟨a3, a4⟩, ⟨a5, a6⟩, a7⟩ := hl
      exact rput_walk N hS hw a1 a2 h1 h4 a3 a4 h2 a5 a6 h3 (by omega) (by omega) a7
    · rw [decide_eq_false hl] at hy
      cases hy

noncomputable def record_Put_res (N : Nat) : List A → Res := resOf [(0, .v (.pair (.int .i64) (.pair .str (.pair (.int .i64) (.pair (.int .i64) (.pair .str .unit))))))] (fun x => record_Put N x.1) (oRes (.tup [.str, (.int .i64)]) 1)

theorem record_Put_ct (N : Nat) : Contract Try.prog noGlob 7 (record_Put_res N) := by
  refine Contract.hand ⟨_, Try.func7, by kernel_rfl, by decide⟩ ?_
  intro w S vals ob x y har hS hg hy
  obtain ⟨⟨k, t, n, e, x, u⟩, u'⟩ := x
  cases u
  cases u'
  obtain ⟨s, f, u⟩ := y
  cases u
  obtain ⟨⟨v0, hv0, hA0, ho0⟩, _⟩ := har.rel 0 _ rfl
  have hvals : vals = [v0] := by
    match vals, har.len with
    | [a], _ => cases hv0; rfl
  have e0 := ev_inv hA0
  subst e0
  subst hvals
  refine (rput_call N hS hy).mono ?_
  rintro r w' ⟨rfl, hC⟩
  exact ends_of_calm (fun y hy => by rw [List.mem_singleton.1 hy]; rfl) (fun i => by
    match i with
    | 0 => exact ho0
    | i + 1 => exact har.out _ (by simp [mkS, deads])) hC (fun S' => ⟨rfl, _, rfl, .cons VR.str (.cons VR.int .nil)⟩) rfl

theorem rgets_call (N : Nat) {w0 w : World} {S0 : Hp} {bf b c : Nat} {x x1 x2 : RdrT.den} {k t y : Value} {e0 n0 v1 v2 : Int} {Q : Array Value} {q E E1 E2 : Nat} (hcb : c ≠ b) (hqb : q ≠ b)
    (h : St w0 S0 w bf x [(b, #[k, t, .int .i64 n0, .int .i64 e0, y], E), (c, #[.pointer (some ⟨b, 3, none⟩), .pointer (some ⟨b, 2, none⟩)], E1), (q, Q, E2)])
    (h1 : field_Reader_Num N x 1099511627776 = some (v1, (x1, ()))) (h2 : field_Reader_Num N x1 1099511627776 = some (v2, (x2, ()))) :
    Calls Try.prog 30 #[.pointer (some ⟨bf, 0, none⟩), .slice (some ⟨c, 0, none⟩) 2 2] w fun r w' => (∃ u, r = .returned u) ∧
      St w0 S0 w' bf x2 [(b, #[k, t, .int .i64 (Go.RowKit.wrap64 v2), .int .i64 (Go.RowKit.wrap64 v1), y], E), (c, #[.pointer (some ⟨b, 3, none⟩), .pointer (some ⟨b, 2, none⟩)], E1), (q, Q, E2)] := by
  have hd : ∀ p ∈ [((c, #[Value.pointer (some ⟨b, 3, none⟩), .pointer (some ⟨b, 2, none⟩)], E1) : Nat × Array Value × Nat), (q, Q, E2)], p.1 ≠ b := by
    intro p hp
    rcases List.mem_cons.1 hp with rfl | hp
    · exact hcb
    · rw [List.mem_singleton.1 hp]; exact hqb
  have c0 := h.cell (p := c) (i := 0) (List.mem_cons_of_mem _ (List.mem_cons_self ..)) rfl
  have H1 := num_step N h h1
  go_enter Try.func30, Try.ntmps30
  go_wp2
  refine wp_loop_rounds 3 ?_
  rw [rounds_succ]
  go_wp2_with (go_at_call 36; refine H1.mono ?_; rintro r w1 ⟨rfl, hs⟩; have o1 := hs.cell (p := b) (i := 3) (List.mem_cons_self ..) rfl; have o2 := hs.free (p := b) (i := 3) (List.mem_cons_self ..); have HM := Go.Lib.hid hs; clear H1 hs)
  obtain ⟨W1, hW1⟩ : ∃ W, W = w1.setCell ⟨b, 3, none⟩ (.int .i64 (Go.RowKit.wrap64 v1)) := ⟨_, rfl⟩
  rw [← hW1]
  have hs1 : St w0 S0 W1 bf x1 [(b, #[k, t, .int .i64 n0, .int .i64 (Go.RowKit.wrap64 v1), y], E), (c, #[.pointer (some ⟨b, 3, none⟩), .pointer (some ⟨b, 2, none⟩)], E1), (q, Q, E2)] := by
    rw [hW1]
    exact HM.out.setCell hd 3 _
  clear o1 o2 HM hW1 c0
  have c1 := hs1.cell (p := c) (i := 1) (List.mem_cons_of_mem _ (List.mem_cons_self ..)) rfl
  have H2 := num_step N hs1 h2
  have KS := Go.Lib.hid hs1
  clear hs1
  rw [rounds_succ]
  go_wp2_with (go_at_call 36; refine H2.mono ?_; rintro r w2 ⟨rfl, hs⟩; have o1 := hs.cell (p := b) (i := 2) (List.mem_cons_self ..) rfl; have o2 := hs.free (p := b) (i := 2) (List.mem_cons_self ..); have HM := Go.Lib.hid hs; clear H2 hs KS)
  obtain ⟨W2, hW2⟩ : ∃ W, W = w2.setCell ⟨b, 2, none⟩ (.int .i64 (Go.RowKit.wrap64 v2)) := ⟨_, rfl⟩
  rw [← hW2]
  have hs2 : St w0 S0 W2 bf x2 [(b, #[k, t, .int .i64 (Go.RowKit.wrap64 v2), .int .i64 (Go.RowKit.wrap64 v1), y], E), (c, #[.pointer (some ⟨b, 3, none⟩), .pointer (some ⟨b, 2, none⟩)], E1), (q, Q, E2)] := by
    rw [hW2]
    exact HM.out.setCell hd 2 _
  clear o1 o2 HM hW2 c1
  have KS := Go.Lib.hid hs2
  clear hs2
  rw [rounds_succ]
  go_wp2
  first | go_end0 | go_ret | go_ret2
  exact ⟨⟨_, rfl⟩, KS.out⟩

/-- a reader that New has made -/
theorem new_first (N : Nat) {w : World} {S : Hp} {s : List UInt8} (hS : Lift.Sub S (hp w)) :
    Calls Try.prog 27 #[.string ⟨⟨s⟩⟩] w fun r w' => ∃ bf, r = .returned (.pointer (some ⟨bf, 0, none⟩)) ∧ St w S w' bf (true, (s, (0, ()))) [] := by
  refine ((field_New_ct N).2 w S _ _ _ (args_plain [(.v .str s, .string ⟨⟨s⟩⟩)] (fun p hp => by rw [List.mem_singleton.1 hp]; exact ⟨⟨VR.str, rfl⟩, rfl⟩)) hS (glob_none S) (true, (s, (0, ()))) rfl).mono ?_
  intro e w' he
  obtain ⟨v, S', o, ob', rfl, hwf, k1, k2, k3, ⟨hr, _⟩, ho, _⟩ := he
  obtain ⟨bf, E', fr, ho', hv, hcell, hfr⟩ := rdr_open hr
  subst hv
  obtain ⟨o1, o2⟩ := ho bf (by rw [ho']; exact List.mem_singleton.2 rfl)
  have o2 : w.heap.size ≤ bf := by
    rcases o2 with ⟨i, hi⟩ | h
    · cases hi
    · exact h
  refine ⟨bf, rfl, S', ⟨hwf.size, fun k hk _ => ?_, hwf.tape, hwf.os, hwf.output⟩, k1, fun k hk => ?_, ⟨k2, o1, E', fr, hcell, hfr⟩, o2, fun p hp => by cases hp⟩
  · exact hwf.same k hk (by rintro ⟨i, hi⟩; cases hi)
  · rcases k3 k hk with h | ⟨i, hi⟩ | h
    · exact .inl h
    · cases hi
    · exact .inr h

theorem St.drew {w0 w : World} {S0 : Hp} {bf : Nat} {x : RdrT.den} {L : List (Nat × Array Value × Nat)} (h : St w0 S0 w bf x L) : St w0 S0 w.drew bf x L := by
  obtain ⟨S, h1, h2, h3, h4, h5, hL⟩ := h
  obtain ⟨a1, a2, E', fr, a3, a4⟩ := h4
  exact ⟨S, ⟨h1.size, h1.same, h1.tape, h1.os, h1.output⟩, h2, h3, ⟨a1, a2, E', fr, a3, a4⟩, h5, hL⟩

theorem form_step (N : Nat) {w0 w : World} {S0 : Hp} {bf : Nat} {x : RdrT.den} {L : List (Nat × Array Value × Nat)} {k n e : Int} {t z : List UInt8} {v : Bool} (h : St w0 S0 w bf x L) (hy : ring_Form N (k, t, n, e, z, ()) = some v) :
    Calls Try.prog 16 #[.agg #[.int .i64 k, .string ⟨⟨t⟩⟩, .int .i64 n, .int .i64 e, .string ⟨⟨z⟩⟩]] w fun r w' => r = .returned (.bool v) ∧ St w0 S0 w' bf x L :=
  h.calm (fun S hS => form_bool N hS hy)

theorem numbersOf_step {w0 w : World} {S0 : Hp} {bf b : Nat} {x : RdrT.den} {L : List (Nat × Array Value × Nat)} (h : St w0 S0 w bf x L) :
    Calls Try.prog 17 #[.pointer (some ⟨b, 0, none⟩)] w fun r w' => r = .returned (.agg #[.pointer (some ⟨b, 3, none⟩), .pointer (some ⟨b, 2, none⟩)]) ∧ St w0 S0 w' bf x L :=
  h.calm (fun S hS => numbersOf_walk.mono (by rintro r w' ⟨e, hc⟩; exact ⟨e, hc S hS⟩))

theorem St.five {w0 w : World} {S0 : Hp} {bf : Nat} {x : RdrT.den} {L : List (Nat × Array Value × Nat)} {p : Nat} {cs : Array Value} {E : Nat} (h : St w0 S0 w bf x L) (hm : (p, cs, E) ∈ L) (a b c d e : Value) :
    Calm w0 S0 (((((w.setCell ⟨p, 0, none⟩ a).setCell ⟨p, 1, none⟩ b).setCell ⟨p, 2, none⟩ c).setCell ⟨p, 3, none⟩ d).setCell ⟨p, 4, none⟩ e) := by
  have f := h.swap (L' := [(p, cs, E)]) (by intro q hq; rw [List.mem_singleton.1 hq]; exact hm)
  have hd : ∀ q ∈ ([] : List (Nat × Array Value × Nat)), q.1 ≠ p := fun q hq => by cases hq
  exact (((((f.setCell hd 0 a).setCell hd 1 b).setCell hd 2 c).setCell hd 3 d).setCell hd 4 e).toCalm

set_option maxHeartbeats 4000000 in
theorem rget_bad (N : Nat) {w : World} {S : Hp} {s t z : List UInt8} {x0 x1 x2 x3 x4 x5 : RdrT.den} {v n1 n2 e : Int} (hS : Lift.Sub S (hp w)) (hv : 0 ≤ v ∧ v ≤ 255) (hB : field_Reader_Byte N (true, (s, (0, ()))) = some (v, (x0, ())))
    (hT : field_Reader_Text N x0 32 = some (t, (x1, ())))
    (h1 : field_Reader_Num N x1 1099511627776 = some (n1, (x2, ()))) (h2 : field_Reader_Num N x2 1099511627776 = some (n2, (x3, ())))
    (hZ : field_Reader_Text N x3 32 = some (z, (x4, ())))
    (hE : field_Reader_End N x4 = some (e, (x5, ()))) (he : e ≠ 0) :
    Calls Try.prog 11 #[.string ⟨⟨s⟩⟩] w fun r w' => r = .returned (.tuple #[.agg #[.int .i64 0, .string ⟨#[]⟩, .int .i64 0, .int .i64 0, .string ⟨#[]⟩], .int .i64 e]) ∧ Calm w S w' := by
  have hq : S w.heap.size = none := by
    cases hs : S w.heap.size with
    | none => rfl
    | some o =>
      have := hS _ _ hs
      simp only [hp] at this
      have := (Array.getElem?_eq_some_iff.1 this).1
      omega
  have hv8 : Go.RowKit.wrap64 v = v := by unfold Go.RowKit.wrap64; omega
  have hh : (w.alloc (.cells #[.int .i64 0, .string ⟨#[]⟩, .int .i64 0, .int .i64 0, .string ⟨#[]⟩] 28)).heap = w.heap.push (.cells #[.int .i64 0, .string ⟨#[]⟩, .int .i64 0, .int .i64 0, .string ⟨#[]⟩] 28 (0, 0)) := rfl
  have HN := new_step N (w0 := w) (S0 := S) (w := w.alloc (.cells #[.int .i64 0, .string ⟨#[]⟩, .int .i64 0, .int .i64 0, .string ⟨#[]⟩] 28)) (s := s) (q := w.heap.size) (cs := #[.int .i64 0, .string ⟨#[]⟩, .int .i64 0, .int .i64 0, .string ⟨#[]⟩]) (E := 28)
    (fun k o ho => by
      have := hS k o ho
      simp only [hp] at this ⊢
      rw [hh, Array.getElem?_push, if_neg (by have := (Array.getElem?_eq_some_iff.1 this).1; omega)]
      exact this)
    ⟨by rw [hh, Array.size_push]; omega, fun k hk _ => by rw [hh, Array.getElem?_push, if_neg (by omega)], rfl, rfl, rfl⟩ (Nat.le_refl _) hq (by rw [hh, Array.getElem?_push, if_pos rfl])
  clear hh
  go_enter Try.func11, Try.ntmps11
  go_wp2_with (first
    | (go_at_call 27; refine HN.mono ?_; rintro r w1 ⟨bf, rfl, hs1⟩; have HB := byte_step N hs1 hB; clear HN hs1)
    | (go_at_call 28; refine HB.mono ?_; rintro r w2 ⟨rfl, hs2⟩; have HT := text_step N hs2 hT; clear HB hs2)
    | (go_at_call 29; refine HT.mono ?_; rintro r w3 ⟨rfl, hs3⟩; have hqb := Nat.ne_of_lt (hs3.lt _ (List.mem_cons_self ..)); have HNo := numbersOf_step (b := w3.heap.size) (hs3.alloc #[.int .i64 v, .string ⟨⟨t⟩⟩, .int .i64 0, .int .i64 0, .string ⟨#[]⟩] 28); clear HT hs3)
    | (go_at_call 17; refine HNo.mono ?_; rintro r w4 ⟨rfl, hs4⟩; have hd1 := Nat.ne_of_gt (hs4.lt _ (List.mem_cons_self ..)); have hs6 := hs4.alloc #[.pointer (some ⟨w3.heap.size, 3, none⟩), .pointer (some ⟨w3.heap.size, 2, none⟩)] 40; have hs7 := hs6.swap (L' := [(w3.heap.size, #[.int .i64 v, .string ⟨⟨t⟩⟩, .int .i64 0, .int .i64 0, .string ⟨#[]⟩], 28), (w4.heap.size, #[.pointer (some ⟨w3.heap.size, 3, none⟩), .pointer (some ⟨w3.heap.size, 2, none⟩)], 40), (w.heap.size, #[.int .i64 0, .string ⟨#[]⟩, .int .i64 0, .int .i64 0, .string ⟨#[]⟩], 28)]) (by intro p hp; simp only [List.mem_cons, List.not_mem_nil, or_false] at hp ⊢; rcases hp with rfl | rfl | rfl <;> simp); have HG := rgets_call N hd1 hqb hs7 h1 h2; have jd1 := Go.Lib.hid hd1; have jqb := Go.Lib.hid hqb; have c40 := hs6.cell (p := w4.heap.size) (i := 0) (List.mem_cons_self ..) rfl; have c41 := hs6.cell (p := w4.heap.size) (i := 1) (List.mem_cons_self ..) rfl; clear hs6 hs7 hd1 hqb HNo hs4)
    | (go_at_call 30; refine HG.mono ?_; rintro r w5 ⟨⟨u3, rfl⟩, hs5⟩; have HZ := text_step N hs5 hZ; clear HG hs5 c40 c41)
    | (go_at_call 29; refine HZ.mono ?_; rintro r w6 ⟨rfl, hs6⟩; have hd : ∀ p ∈ [((w4.heap.size, #[.pointer (some ⟨w3.heap.size, 3, none⟩), .pointer (some ⟨w3.heap.size, 2, none⟩)], 40) : Nat × Array Value × Nat), (w.heap.size, #[.int .i64 0, .string ⟨#[]⟩, .int .i64 0, .int .i64 0, .string ⟨#[]⟩], 28)], p.1 ≠ w3.heap.size := (by intro p hp; rcases List.mem_cons.1 hp with rfl | hp; exact jd1.out; rw [List.mem_singleton.1 hp]; exact jqb.out); have of6 := hs6.free (p := w3.heap.size) (i := 4) (List.mem_cons_self ..); have oc6 := hs6.cell (p := w3.heap.size) (i := 4) (List.mem_cons_self ..) rfl; have hs7 := hs6.setCell hd 4 (.string ⟨⟨z⟩⟩); have HE := end_step N hs7 hE; clear HZ hs6 hs7 hd)
    | (go_at_call 31; refine HE.mono ?_; rintro r w7 ⟨rfl, hs7⟩; have qc0 := hs7.cell (p := w.heap.size) (i := 0) (List.mem_cons_of_mem _ (List.mem_cons_of_mem _ (List.mem_cons_self ..))) rfl; have qf0 := hs7.free (p := w.heap.size) (i := 0) (List.mem_cons_of_mem _ (List.mem_cons_of_mem _ (List.mem_cons_self ..))); have qc1 := hs7.cell (p := w.heap.size) (i := 1) (List.mem_cons_of_mem _ (List.mem_cons_of_mem _ (List.mem_cons_self ..))) rfl; have qf1 := hs7.free (p := w.heap.size) (i := 1) (List.mem_cons_of_mem _ (List.mem_cons_of_mem _ (List.mem_cons_self ..))); have qc2 := hs7.cell (p := w.heap.size) (i := 2) (List.mem_cons_of_mem _ (List.mem_cons_of_mem _ (List.mem_cons_self ..))) rfl; have qf2 := hs7.free (p := w.heap.size) (i := 2) (List.mem_cons_of_mem _ (List.mem_cons_of_mem _ (List.mem_cons_self ..))); have qc3 := hs7.cell (p := w.heap.size) (i := 3) (List.mem_cons_of_mem _ (List.mem_cons_of_mem _ (List.mem_cons_self ..))) rfl; have qf3 := hs7.free (p := w.heap.size) (i := 3) (List.mem_cons_of_mem _ (List.mem_cons_of_mem _ (List.mem_cons_self ..))); have qc4 := hs7.cell (p := w.heap.size) (i := 4) (List.mem_cons_of_mem _ (List.mem_cons_of_mem _ (List.mem_cons_self ..))) rfl; have qf4 := hs7.free (p := w.heap.size) (i := 4) (List.mem_cons_of_mem _ (List.mem_cons_of_mem _ (List.mem_cons_self ..))); have HM := Go.Lib.hid hs7; clear HE hs7)
    )
  refine ⟨rfl, _, ?_, rfl, HM.out.five (List.mem_cons_of_mem _ (List.mem_cons_of_mem _ (List.mem_cons_self ..))) _ _ _ _ _⟩
  simp [results, Try.results11, go_sem, qc0, qc1, qc2, qc3, qc4]

set_option maxHeartbeats 4000000 in
theorem rget_form (N : Nat) {w : World} {S : Hp} {s t z : List UInt8} {x0 x1 x2 x3 x4 x5 : RdrT.den} {v n1 n2 e : Int} (hS : Lift.Sub S (hp w)) (hv : 0 ≤ v ∧ v ≤ 255) (hB : field_Reader_Byte N (true, (s, (0, ()))) = some (v, (x0, ())))
    (hT : field_Reader_Text N x0 32 = some (t, (x1, ())))
    (h1 : field_Reader_Num N x1 1099511627776 = some (n1, (x2, ()))) (h2 : field_Reader_Num N x2 1099511627776 = some (n2, (x3, ())))
    (hZ : field_Reader_Text N x3 32 = some (z, (x4, ())))
    (hE : field_Reader_End N x4 = some (e, (x5, ()))) (he : e = 0) (hF : ring_Form N (v, t, Go.RowKit.wrap64 n2, Go.RowKit.wrap64 n1, z, ()) = some false) :
    Calls Try.prog 11 #[.string ⟨⟨s⟩⟩] w fun r w' => r = .returned (.tuple #[.agg #[.int .i64 0, .string ⟨#[]⟩, .int .i64 0, .int .i64 0, .string ⟨#[]⟩], .int .i64 2]) ∧ Calm w S w' := by
  subst he
  have hq : S w.heap.size = none := by
    cases hs : S w.heap.size with
    | none => rfl
    | some o =>
      have := hS _ _ hs
      simp only [hp] at this
      have := (Array.getElem?_eq_some_iff.1 this).1
      omega
  have hv8 : Go.RowKit.wrap64 v = v := by unfold Go.RowKit.wrap64; omega
  have hh : (w.alloc (.cells #[.int .i64 0, .string ⟨#[]⟩, .int .i64 0, .int .i64 0, .string ⟨#[]⟩] 28)).heap = w.heap.push (.cells #[.int .i64 0, .string ⟨#[]⟩, .int .i64 0, .int .i64 0, .string ⟨#[]⟩] 28 (0, 0)) := rfl
  have HN := new_step N (w0 := w) (S0 := S) (w := w.alloc (.cells #[.int .i64 0, .string ⟨#[]⟩, .int .i64 0, .int .i64 0, .string ⟨#[]⟩] 28)) (s := s) (q := w.heap.size) (cs := #[.int .i64 0, .string ⟨#[]⟩, .int .i64 0, .int .i64 0, .string ⟨#[]⟩]) (E := 28)
    (fun k o ho => by
      have := hS k o ho
      simp only [hp] at this ⊢
      rw [hh, Array.getElem?_push, if_neg (by have := (Array.getElem?_eq_some_iff.1 this).1; omega)]
      exact this)
    ⟨by rw [hh, Array.size_push]; omega, fun k hk _ => by rw [hh, Array.getElem?_push, if_neg (by omega)], rfl, rfl, rfl⟩ (Nat.le_refl _) hq (by rw [hh, Array.getElem?_push, if_pos rfl])
  clear hh
  go_enter Try.func11, Try.ntmps11
  go_wp2_with (first
    | (go_at_call 27; refine HN.mono ?_; rintro r w1 ⟨bf, rfl, hs1⟩; have HB := byte_step N hs1 hB; clear HN hs1)
    | (go_at_call 28; refine HB.mono ?_; rintro r w2 ⟨rfl, hs2⟩; have HT := text_step N hs2 hT; clear HB hs2)
    | (go_at_call 29; refine HT.mono ?_; rintro r w3 ⟨rfl, hs3⟩; have hqb := Nat.ne_of_lt (hs3.lt _ (List.mem_cons_self ..)); have HNo := numbersOf_step (b := w3.heap.size) (hs3.alloc #[.int .i64 v, .string ⟨⟨t⟩⟩, .int .i64 0, .int .i64 0, .string ⟨#[]⟩] 28); clear HT hs3)
    | (go_at_call 17; refine HNo.mono ?_; rintro r w4 ⟨rfl, hs4⟩; have hd1 := Nat.ne_of_gt (hs4.lt _ (List.mem_cons_self ..)); have hs6 := hs4.alloc #[.pointer (some ⟨w3.heap.size, 3, none⟩), .pointer (some ⟨w3.heap.size, 2, none⟩)] 40; have hs7 := hs6.swap (L' := [(w3.heap.size, #[.int .i64 v, .string ⟨⟨t⟩⟩, .int .i64 0, .int .i64 0, .string ⟨#[]⟩], 28), (w4.heap.size, #[.pointer (some ⟨w3.heap.size, 3, none⟩), .pointer (some ⟨w3.heap.size, 2, none⟩)], 40), (w.heap.size, #[.int .i64 0, .string ⟨#[]⟩, .int .i64 0, .int .i64 0, .string ⟨#[]⟩], 28)]) (by intro p hp; simp only [List.mem_cons, List.not_mem_nil, or_false] at hp ⊢; rcases hp with rfl | rfl | rfl <;> simp); have HG := rgets_call N hd1 hqb hs7 h1 h2; have jd1 := Go.Lib.hid hd1; have jqb := Go.Lib.hid hqb; have c40 := hs6.cell (p := w4.heap.size) (i := 0) (List.mem_cons_self ..) rfl; have c41 := hs6.cell (p := w4.heap.size) (i := 1) (List.mem_cons_self ..) rfl; clear hs6 hs7 hd1 hqb HNo hs4)
    | (go_at_call 30; refine HG.mono ?_; rintro r w5 ⟨⟨u3, rfl⟩, hs5⟩; have HZ := text_step N hs5 hZ; clear HG hs5 c40 c41)
    | (go_at_call 29; refine HZ.mono ?_; rintro r w6 ⟨rfl, hs6⟩; have hd : ∀ p ∈ [((w4.heap.size, #[.pointer (some ⟨w3.heap.size, 3, none⟩), .pointer (some ⟨w3.heap.size, 2, none⟩)], 40) : Nat × Array Value × Nat), (w.heap.size, #[.int .i64 0, .string ⟨#[]⟩, .int .i64 0, .int .i64 0, .string ⟨#[]⟩], 28)], p.1 ≠ w3.heap.size := (by intro p hp; rcases List.mem_cons.1 hp with rfl | hp; exact jd1.out; rw [List.mem_singleton.1 hp]; exact jqb.out); have of6 := hs6.free (p := w3.heap.size) (i := 4) (List.mem_cons_self ..); have oc6 := hs6.cell (p := w3.heap.size) (i := 4) (List.mem_cons_self ..) rfl; have hs7 := hs6.setCell hd 4 (.string ⟨⟨z⟩⟩); have HE := end_step N hs7 hE; clear HZ hs6 hs7 hd)
    | (go_at_call 31; refine HE.mono ?_; rintro r w7 ⟨rfl, hs7⟩; have rc0 := hs7.cell (p := w3.heap.size) (i := 0) (List.mem_cons_self ..) rfl; have rc1 := hs7.cell (p := w3.heap.size) (i := 1) (List.mem_cons_self ..) rfl; have rc2 := hs7.cell (p := w3.heap.size) (i := 2) (List.mem_cons_self ..) rfl; have rc3 := hs7.cell (p := w3.heap.size) (i := 3) (List.mem_cons_self ..) rfl; have rc4 := hs7.cell (p := w3.heap.size) (i := 4) (List.mem_cons_self ..) rfl; have HFm := form_step N hs7 hF; clear HE hs7)
    | (go_at_call 16; refine HFm.mono ?_; rintro r w8 ⟨rfl, hs8⟩; have qc0 := hs8.cell (p := w.heap.size) (i := 0) (List.mem_cons_of_mem _ (List.mem_cons_of_mem _ (List.mem_cons_self ..))) rfl; have qf0 := hs8.free (p := w.heap.size) (i := 0) (List.mem_cons_of_mem _ (List.mem_cons_of_mem _ (List.mem_cons_self ..))); have qc1 := hs8.cell (p := w.heap.size) (i := 1) (List.mem_cons_of_mem _ (List.mem_cons_of_mem _ (List.mem_cons_self ..))) rfl; have qf1 := hs8.free (p := w.heap.size) (i := 1) (List.mem_cons_of_mem _ (List.mem_cons_of_mem _ (List.mem_cons_self ..))); have qc2 := hs8.cell (p := w.heap.size) (i := 2) (List.mem_cons_of_mem _ (List.mem_cons_of_mem _ (List.mem_cons_self ..))) rfl; have qf2 := hs8.free (p := w.heap.size) (i := 2) (List.mem_cons_of_mem _ (List.mem_cons_of_mem _ (List.mem_cons_self ..))); have qc3 := hs8.cell (p := w.heap.size) (i := 3) (List.mem_cons_of_mem _ (List.mem_cons_of_mem _ (List.mem_cons_self ..))) rfl; have qf3 := hs8.free (p := w.heap.size) (i := 3) (List.mem_cons_of_mem _ (List.mem_cons_of_mem _ (List.mem_cons_self ..))); have qc4 := hs8.cell (p := w.heap.size) (i := 4) (List.mem_cons_of_mem _ (List.mem_cons_of_mem _ (List.mem_cons_self ..))) rfl; have qf4 := hs8.free (p := w.heap.size) (i := 4) (List.mem_cons_of_mem _ (List.mem_cons_of_mem _ (List.mem_cons_self ..))); have HM := Go.Lib.hid hs8; clear HFm hs8))
  refine ⟨rfl, _, ?_, rfl, HM.out.five (List.mem_cons_of_mem _ (List.mem_cons_of_mem _ (List.mem_cons_self ..))) _ _ _ _ _⟩
  simp [results, Try.results11, go_sem, qc0, qc1, qc2, qc3, qc4]

set_option maxHeartbeats 4000000 in
theorem rget_good (N : Nat) {w : World} {S : Hp} {s t z : List UInt8} {x0 x1 x2 x3 x4 x5 : RdrT.den} {v n1 n2 e : Int} (hS : Lift.Sub S (hp w)) (hv : 0 ≤ v ∧ v ≤ 255) (hB : field_Reader_Byte N (true, (s, (0, ()))) = some (v, (x0, ())))
    (hT : field_Reader_Text N x0 32 = some (t, (x1, ())))
    (h1 : field_Reader_Num N x1 1099511627776 = some (n1, (x2, ()))) (h2 : field_Reader_Num N x2 1099511627776 = some (n2, (x3, ())))
    (hZ : field_Reader_Text N x3 32 = some (z, (x4, ())))
    (hE : field_Reader_End N x4 = some (e, (x5, ()))) (he : e = 0) (hF : ring_Form N (v, t, Go.RowKit.wrap64 n2, Go.RowKit.wrap64 n1, z, ()) = some true) :
    Calls Try.prog 11 #[.string ⟨⟨s⟩⟩] w fun r w' => r = .returned (.tuple #[.agg #[.int .i64 v, .string ⟨⟨t⟩⟩, .int .i64 (Go.RowKit.wrap64 n2), .int .i64 (Go.RowKit.wrap64 n1), .string ⟨⟨z⟩⟩], .int .i64 0]) ∧ Calm w S w' := by
  subst he
  have hq : S w.heap.size = none := by
    cases hs : S w.heap.size with
    | none => rfl
    | some o =>
      have := hS _ _ hs
      simp only [hp] at this
      have := (Array.getElem?_eq_some_iff.1 this).1
      omega
  have hv8 : Go.RowKit.wrap64 v = v := by unfold Go.RowKit.wrap64; omega
  have hh : (w.alloc (.cells #[.int .i64 0, .string ⟨#[]⟩, .int .i64 0, .int .i64 0, .string ⟨#[]⟩] 28)).heap = w.heap.push (.cells #[.int .i64 0, .string ⟨#[]⟩, .int .i64 0, .int .i64 0, .string ⟨#[]⟩] 28 (0, 0)) := rfl
  have HN := new_step N (w0 := w) (S0 := S) (w := w.alloc (.cells #[.int .i64 0, .string ⟨#[]⟩, .int .i64 0, .int .i64 0, .string ⟨#[]⟩] 28)) (s := s) (q := w.heap.size) (cs := #[.int .i64 0, .string ⟨#[]⟩, .int .i64 0, .int .i64 0, .string ⟨#[]⟩]) (E := 28)
    (fun k o ho => by
      have := hS k o ho
      simp only [hp] at this ⊢
      rw [hh, Array.getElem?_push, if_neg (by have := (Array.getElem?_eq_some_iff.1 this).1; omega)]
      exact this)
    ⟨by rw [hh, Array.size_push]; omega, fun k hk _ => by rw [hh, Array.getElem?_push, if_neg (by omega)], rfl, rfl, rfl⟩ (Nat.le_refl _) hq (by rw [hh, Array.getElem?_push, if_pos rfl])
  clear hh
  go_enter Try.func11, Try.ntmps11
  go_wp2_with (first
    | (go_at_call 27; refine HN.mono ?_; rintro r w1 ⟨bf, rfl, hs1⟩; have HB := byte_step N hs1 hB; clear HN hs1)
    | (go_at_call 28; refine HB.mono ?_; rintro r w2 ⟨rfl, hs2⟩; have HT := text_step N hs2 hT; clear HB hs2)
    | (go_at_call 29; refine HT.mono ?_; rintro r w3 ⟨rfl, hs3⟩; have hqb := Nat.ne_of_lt (hs3.lt _ (List.mem_cons_self ..)); have HNo := numbersOf_step (b := w3.heap.size) (hs3.alloc #[.int .i64 v, .string ⟨⟨t⟩⟩, .int .i64 0, .int .i64 0, .string ⟨#[]⟩] 28); clear HT hs3)
    | (go_at_call 17; refine HNo.mono ?_; rintro r w4 ⟨rfl, hs4⟩; have hd1 := Nat.ne_of_gt (hs4.lt _ (List.mem_cons_self ..)); have hs6 := hs4.alloc #[.pointer (some ⟨w3.heap.size, 3, none⟩), .pointer (some ⟨w3.heap.size, 2, none⟩)] 40; have hs7 := hs6.swap (L' := [(w3.heap.size, #[.int .i64 v, .string ⟨⟨t⟩⟩, .int .i64 0, .int .i64 0, .string ⟨#[]⟩], 28), (w4.heap.size, #[.pointer (some ⟨w3.heap.size, 3, none⟩), .pointer (some ⟨w3.heap.size, 2, none⟩)], 40), (w.heap.size, #[.int .i64 0, .string ⟨#[]⟩, .int .i64 0, .int .i64 0, .string ⟨#[]⟩], 28)]) (by intro p hp; simp only [List.mem_cons, List.not_mem_nil, or_false] at hp ⊢; rcases hp with rfl | rfl | rfl <;> simp); have HG := rgets_call N hd1 hqb hs7 h1 h2; have jd1 := Go.Lib.hid hd1; have jqb := Go.Lib.hid hqb; have c40 := hs6.cell (p := w4.heap.size) (i := 0) (List.mem_cons_self ..) rfl; have c41 := hs6.cell (p := w4.heap.size) (i := 1) (List.mem_cons_self ..) rfl; clear hs6 hs7 hd1 hqb HNo hs4)
    | (go_at_call 30; refine HG.mono ?_; rintro r w5 ⟨⟨u3, rfl⟩, hs5⟩; have HZ := text_step N hs5 hZ; clear HG hs5 c40 c41)
    | (go_at_call 29; refine HZ.mono ?_; rintro r w6 ⟨rfl, hs6⟩; have hd : ∀ p ∈ [((w4.heap.size, #[.pointer (some ⟨w3.heap.size, 3, none⟩), .pointer (some ⟨w3.heap.size, 2, none⟩)], 40) : Nat × Array Value × Nat), (w.heap.size, #[.int .i64 0, .string ⟨#[]⟩, .int .i64 0, .int .i64 0, .string ⟨#[]⟩], 28)], p.1 ≠ w3.heap.size := (by intro p hp; rcases List.mem_cons.1 hp with rfl | hp; exact jd1.out; rw [List.mem_singleton.1 hp]; exact jqb.out); have of6 := hs6.free (p := w3.heap.size) (i := 4) (List.mem_cons_self ..); have oc6 := hs6.cell (p := w3.heap.size) (i := 4) (List.mem_cons_self ..) rfl; have hs7 := hs6.setCell hd 4 (.string ⟨⟨z⟩⟩); have HE := end_step N hs7 hE; clear HZ hs6 hs7 hd)
    | (go_at_call 31; refine HE.mono ?_; rintro r w7 ⟨rfl, hs7⟩; have rc0 := hs7.cell (p := w3.heap.size) (i := 0) (List.mem_cons_self ..) rfl; have rc1 := hs7.cell (p := w3.heap.size) (i := 1) (List.mem_cons_self ..) rfl; have rc2 := hs7.cell (p := w3.heap.size) (i := 2) (List.mem_cons_self ..) rfl; have rc3 := hs7.cell (p := w3.heap.size) (i := 3) (List.mem_cons_self ..) rfl; have rc4 := hs7.cell (p := w3.heap.size) (i := 4) (List.mem_cons_self ..) rfl; have HFm := form_step N hs7 hF; clear HE hs7)
    | (go_at_call 16; refine HFm.mono ?_; rintro r w8 ⟨rfl, hs8⟩; clear rc0 rc1 rc2 rc3 rc4; have qc0 := hs8.cell (p := w.heap.size) (i := 0) (List.mem_cons_of_mem _ (List.mem_cons_of_mem _ (List.mem_cons_self ..))) rfl; have qf0 := hs8.free (p := w.heap.size) (i := 0) (List.mem_cons_of_mem _ (List.mem_cons_of_mem _ (List.mem_cons_self ..))); have qc1 := hs8.cell (p := w.heap.size) (i := 1) (List.mem_cons_of_mem _ (List.mem_cons_of_mem _ (List.mem_cons_self ..))) rfl; have qf1 := hs8.free (p := w.heap.size) (i := 1) (List.mem_cons_of_mem _ (List.mem_cons_of_mem _ (List.mem_cons_self ..))); have qc2 := hs8.cell (p := w.heap.size) (i := 2) (List.mem_cons_of_mem _ (List.mem_cons_of_mem _ (List.mem_cons_self ..))) rfl; have qf2 := hs8.free (p := w.heap.size) (i := 2) (List.mem_cons_of_mem _ (List.mem_cons_of_mem _ (List.mem_cons_self ..))); have qc3 := hs8.cell (p := w.heap.size) (i := 3) (List.mem_cons_of_mem _ (List.mem_cons_of_mem _ (List.mem_cons_self ..))) rfl; have qf3 := hs8.free (p := w.heap.size) (i := 3) (List.mem_cons_of_mem _ (List.mem_cons_of_mem _ (List.mem_cons_self ..))); have qc4 := hs8.cell (p := w.heap.size) (i := 4) (List.mem_cons_of_mem _ (List.mem_cons_of_mem _ (List.mem_cons_self ..))) rfl; have qf4 := hs8.free (p := w.heap.size) (i := 4) (List.mem_cons_of_mem _ (List.mem_cons_of_mem _ (List.mem_cons_self ..))); have rc0 := hs8.cell (p := w3.heap.size) (i := 0) (List.mem_cons_self ..) rfl; have rc1 := hs8.cell (p := w3.heap.size) (i := 1) (List.mem_cons_self ..) rfl; have rc2 := hs8.cell (p := w3.heap.size) (i := 2) (List.mem_cons_self ..) rfl; have rc3 := hs8.cell (p := w3.heap.size) (i := 3) (List.mem_cons_self ..) rfl; have rc4 := hs8.cell (p := w3.heap.size) (i := 4) (List.mem_cons_self ..) rfl; have HM := Go.Lib.hid hs8; clear HFm hs8))
  refine ⟨rfl, _, ?_, rfl, HM.out.five (List.mem_cons_of_mem _ (List.mem_cons_of_mem _ (List.mem_cons_self ..))) _ _ _ _ _⟩
  simp [results, Try.results11, go_sem, qc0, qc1, qc2, qc3, qc4]

noncomputable def record_Get (N : Nat) (s : List UInt8) : Option (EvT.den × Int × Unit) :=
  (field_Reader_Byte N (true, (s, (0, ())))).bind fun y0 =>
  (field_Reader_Text N y0.2.1 32).bind fun y1 =>
  (field_Reader_Num N y1.2.1 1099511627776).bind fun n1 =>
  (field_Reader_Num N n1.2.1 1099511627776).bind fun n2 =>
  (field_Reader_Text N n2.2.1 32).bind fun y2 =>
  (field_Reader_End N y2.2.1).bind fun y =>
  cond (decide (0 ≤ y0.1 ∧ y0.1 ≤ 255))
  (cond (decide (y.1 = 0))
    ((ring_Form N (y0.1, y1.1, Go.RowKit.wrap64 n2.1, Go.RowKit.wrap64 n1.1, y2.1, ())).bind fun ok =>
      cond ok (some ((y0.1, y1.1, Go.RowKit.wrap64 n2.1, Go.RowKit.wrap64 n1.1, y2.1, ()), (0, ()))) (some ((0, [], 0, 0, [], ()), (2, ()))))
    (some ((0, [], 0, 0, [], ()), (y.1, ())))) none

theorem rgot_call (N : Nat) {w : World} {S : Hp} {s : List UInt8} {y : EvT.den × Int × Unit} (hS : Lift.Sub S (hp w)) (hy : record_Get N s = some y) :
    Calls Try.prog 11 #[.string ⟨⟨s⟩⟩] w fun r w' => r = .returned (.tuple #[.agg #[.int .i64 y.1.1, .string ⟨⟨y.1.2.1⟩⟩, .int .i64 y.1.2.2.1, .int .i64 y.1.2.2.2.1, .string ⟨⟨y.1.2.2.2.2.1⟩⟩], .int .i64 y.2.1]) ∧ Calm w S w' := by
  unfold record_Get at hy
  cases hB : field_Reader_Byte N (true, (s, (0, ()))) with
  | none => rw [hB] at hy; cases hy
  | some y0 =>
  obtain ⟨v, x0, u⟩ := y0
  cases u
  rw [hB, Option.bind_some] at hy
  dsimp only at hy
  cases hT : field_Reader_Text N x0 32 with
  | none => rw [hT] at hy; cases hy
  | some y2 =>
  obtain ⟨t, x1, u⟩ := y2
  cases u
  rw [hT, Option.bind_some] at hy
  dsimp only at hy
  cases h1 : field_Reader_Num N x1 1099511627776 with
  | none => rw [h1] at hy; cases hy
  | some y =>
  obtain ⟨n1, x2, u⟩ := y
  cases u
  rw [h1, Option.bind_some] at hy
  dsimp only at hy
  cases h2 : field_Reader_Num N x2 1099511627776 with
  | none => rw [h2] at hy; cases hy
  | some y =>
  obtain ⟨n2, x3, u⟩ := y
  cases u
  rw [h2, Option.bind_some] at hy
  dsimp only at hy
  cases hZ : field_Reader_Text N x3 32 with
  | none => rw [hZ] at hy; cases hy
  | some y2 =>
  obtain ⟨z, x4, u⟩ := y2
  cases u
  rw [hZ, Option.bind_some] at hy
  dsimp only at hy
  cases hE : field_Reader_End N x4 with
  | none => rw [hE] at hy; cases hy
  | some y =>
  obtain ⟨e, x5, u⟩ := y
  cases u
  rw [hE, Option.bind_some] at hy
  dsimp only at hy
  by_cases hv : 0 ≤ v ∧ v ≤ 255
  · rw [decide_eq_true hv, cond_true] at hy
    by_cases he : e = 0
    · rw [decide_eq_true he, cond_true] at hy
      cases hF : ring_Form N (v, t, Go.RowKit.wrap64 n2, Go.RowKit.wrap64 n1, z, ()) with
      | none => rw [hF] at hy; cases hy
      | some ok =>
      rw [hF, Option.bind_some] at hy
      cases ok with
      | true => cases hy; exact rget_good N hS hv hB hT h1 h2 hZ hE he hF
      | false => cases hy; exact rget_form N hS hv hB hT h1 h2 hZ hE he hF
    · rw [decide_eq_false he, cond_false] at hy
      cases hy
      exact rget_bad N hS hv hB hT h1 h2 hZ hE he
  · rw [decide_eq_false hv] at hy; cases hy

noncomputable def record_Get_res (N : Nat) : List A → Res := resOf [(0, .v .str)] (fun x => record_Get N x.1) (oRes (.tup [(.pair (.int .i64) (.pair .str (.pair (.int .i64) (.pair (.int .i64) (.pair .str .unit))))), (.int .i64)]) 1)

theorem record_Get_ct (N : Nat) : Contract Try.prog noGlob 11 (record_Get_res N) := by
  refine Contract.hand ⟨_, Try.func11, by kernel_rfl, by decide⟩ ?_
  intro w S vals ob x y har hS hg hy
  obtain ⟨s, u⟩ := x
  cases u
  obtain ⟨⟨k, t, n, e, z, u⟩, f, u'⟩ := y
  cases u
  cases u'
  obtain ⟨⟨v0, hv0, hA0, ho0⟩, _⟩ := har.rel 0 _ rfl
  have hvals : vals = [v0] := by
    match vals, har.len with
    | [a], _ => cases hv0; rfl
  have e0 := VR.str_inv hA0
  subst e0
  subst hvals
  refine (rgot_call N hS hy).mono ?_
  rintro r w' ⟨rfl, hC⟩
  exact ends_of_calm (fun y hy => by rw [List.mem_singleton.1 hy]; rfl) (fun i => by
    match i with
    | 0 => exact ho0
    | i + 1 => exact har.out _ (by simp [mkS, deads])) hC (fun S' => ⟨rfl, _, rfl, .cons (ev_rel _ _ _ _ _ _) (.cons VR.int .nil)⟩) rfl

abbrev porterlaw39_works_R : Type := Bool

noncomputable def porterlaw39_works_body : Code := (Go.Proofs.Try.f6.body).getD .skip

noncomputable def porterlaw39_works_L : List (List Nat × List Nat) := [([0], []), ([0, 1], [1]), ([0, 1, 1], [2, 3, 1]), ([0, 1, 1, 1], [2, 3, 4, 1, 5]), ([0, 1, 1, 1, 1], [0]), ([1, 1, 1, 1, 1], [0])]

noncomputable def porterlaw39_works_E (N : Nat) : Env := mkEnv tys noGlob [(11, record_Get_res N), (7, record_Put_res N)] [] [] [] false [] []

theorem porterlaw39_works_Eok (N : Nat) : EnvOk Go.Proofs.Try.prog (porterlaw39_works_E N) := mkEnv_ok mixed tys_ok (FnsOk.cons (record_Get_ct N) (FnsOk.cons (record_Put_ct N) (FnsOk.nil))) (ItsOk.nil)

noncomputable def porterlaw39_works (N : Nat) : Option Bool :=
  (record_Put N ((4 : Int), (([] : List UInt8), ((300 : Int), ((0 : Int), (([] : List UInt8), ())))))).bind fun y =>
  (record_Get N y.1).bind fun y1 =>
  cond (y.1 == ([(4 : UInt8), (0 : UInt8), (0 : UInt8), (172 : UInt8), (2 : UInt8), (0 : UInt8)] : List UInt8))
  (cond (y.2.1 == (0 : Int))
    (cond (Go.Lift.eqD (Go.Lift.T.pair (Go.Lift.T.int Go.IntKind.i64) (Go.Lift.T.pair Go.Lift.T.str (Go.Lift.T.pair (Go.Lift.T.int Go.IntKind.i64) (Go.Lift.T.pair (Go.Lift.T.int Go.IntKind.i64) (Go.Lift.T.pair Go.Lift.T.str Go.Lift.T.unit))))) y1.1 ((4 : Int), (([] : List UInt8), ((300 : Int), ((0 : Int), (([] : List UInt8), ()))))))
      (some (y1.2.1 == (0 : Int)))
      (some false))
    (some false))
  (some false)

noncomputable def porterlaw39_works_t (N : Nat) : Tab Bool := []

theorem porterlaw39_works_link (N : Nat) (x : denS []) : evFX (porterlaw39_works_E N) N (porterlaw39_works_t N) porterlaw39_works_L Go.Proofs.Try.f6 (mkS [] 0 x) (kRes (.v .bool) 0) = porterlaw39_works N := by kernel_rfl

noncomputable def porterlaw39_works_res (N : Nat) : List A → Res := resOf [] (fun x => porterlaw39_works N) (oRes (.v .bool) 0)

theorem porterlaw39_works_ct (N : Nat) : Contract Go.Proofs.Try.prog noGlob 6 (porterlaw39_works_res N) :=
  Contract.of (E := porterlaw39_works_E N) (H := porterlaw39_works_t N) (L := porterlaw39_works_L) (N := N) (body := porterlaw39_works_body) (K := (kRes (.v .bool) 0)) (porterlaw39_works_Eok N) Go.Proofs.Try.func6 (by kernel_rfl) (by decide) (fun _ hb => TabOk.nil) (fun x y h => by rw [porterlaw39_works_link]; exact h) (kRes_ok (s := (.v .bool)) (m := 0))

abbrev porterref38_in_R : Type := Bool

noncomputable def porterref38_in_body : Code := (Go.Proofs.Try.f42.body).getD .skip

noncomputable def porterref38_in_L : List (List Nat × List Nat) := [([0], [0, 1]), ([0, 1], [4]), ([1, 1], [4])]

noncomputable def porterref38_in_E (N : Nat) : Env := mkEnv tys noGlob [] [] [] [] false [] []

theorem porterref38_in_Eok (N : Nat) : EnvOk Go.Proofs.Try.prog (porterref38_in_E N) := mkEnv_ok mixed tys_ok (FnsOk.nil) (ItsOk.nil)

noncomputable def porterref38_in (N : Nat) (n : Int) (first : Int) : Option Bool :=
  cond (decide (first ≤ n))
  (some (decide (n ≤ (1099511627776 : Int))))
  (some false)

noncomputable def porterref38_in_t (N : Nat) : Tab Bool := []

theorem porterref38_in_link (N : Nat) (x : denS [(0, .v (.int .i64)), (0, .v (.int .i64))]) : evFX (porterref38_in_E N) N (porterref38_in_t N) porterref38_in_L Go.Proofs.Try.f42 (mkS [(0, .v (.int .i64)), (0, .v (.int .i64))] 0 x) (kRes (.v .bool) 2) = porterref38_in N x.1 x.2.1 := by kernel_rfl

noncomputable def porterref38_in_res (N : Nat) : List A → Res := resOf [(0, .v (.int .i64)), (0, .v (.int .i64))] (fun x => porterref38_in N x.1 x.2.1) (oRes (.v .bool) 2)

theorem porterref38_in_ct (N : Nat) : Contract Go.Proofs.Try.prog noGlob 42 (porterref38_in_res N) :=
  Contract.of (E := porterref38_in_E N) (H := porterref38_in_t N) (L := porterref38_in_L) (N := N) (body := porterref38_in_body) (K := (kRes (.v .bool) 2)) (porterref38_in_Eok N) Go.Proofs.Try.func42 (by kernel_rfl) (by decide) (fun _ hb => TabOk.nil) (fun x y h => by rw [porterref38_in_link]; exact h) (kRes_ok (s := (.v .bool)) (m := 2))

abbrev porterref09_Word_R : Type := Bool

noncomputable def porterref09_Word_body : Code := (Go.Proofs.Try.f43.body).getD .skip

noncomputable def porterref09_Word_L : List (List Nat × List Nat) := [([0], [0]), ([0, 0, 1], [13, 0]), ([1, 0, 1], [0]), ([0, 0, 1, 0, 1], [2]), ([1, 0, 1, 0, 1], [2]), ([0, 0, 1, 1], [3, 0]), ([0, 1, 0, 1, 1], [3, 0]), ([0, 0, 0, 0, 1, 0, 1, 1], [17, 0, 3]), ([1, 0, 0, 0, 1, 0, 1, 1], [0, 3]), ([1, 1, 0, 0, 0, 1, 0, 1, 1], []), ([0, 0, 0, 1, 0, 0, 1, 0, 1, 1], [0, 3, 4]), ([0, 1, 0, 0, 1, 0, 0, 1, 0, 1, 1], [4, 3, 5, 0]), ([0, 1, 1, 0, 0, 1, 0, 0, 1, 0, 1, 1], [55, 3, 0]), ([1, 1, 1, 0, 0, 1, 0, 0, 1, 0, 1, 1], [3, 0]), ([0, 0, 1, 1, 1, 0, 0, 1, 0, 0, 1, 0, 1, 1], [2]), ([1, 0, 1, 1, 1, 0, 0, 1, 0, 0, 1, 0, 1, 1], [2]), ([0, 1, 0, 0, 1, 0, 1, 1], [3, 0]), ([1, 1, 0, 0, 1, 0, 1, 1], [3, 0]), ([1, 0, 1, 1], []), ([0, 1, 1, 1], [2]), ([1, 1, 1, 1], [2])]

noncomputable def porterref09_Word_E (N : Nat) : Env := mkEnv tys noGlob [] [] [] [] false [] []

theorem porterref09_Word_Eok (N : Nat) : EnvOk Go.Proofs.Try.prog (porterref09_Word_E N) := mkEnv_ok mixed tys_ok (FnsOk.nil) (ItsOk.nil)

noncomputable def porterref09_Word_p2 (N : Nat) (s : (List UInt8)) (k0 : Bool → Option Bool) : Option Bool :=
  cond (decide ((((List.length s) : Nat) : Int) < (1 : Int)))
  (k0 true)
  (k0 (decide ((32 : Int) < (((List.length s) : Nat) : Int))))

noncomputable def porterref09_Word_g2 (N : Nat) (x : denS [(0, .v .str)]) (K : Ex → List A → Option Bool) : Option Bool :=
  porterref09_Word_p2 N x.1 (fun a1 => (K .normal (mkS [(0, .v .str), (12, .v .bool)] 42 (x.1, a1, ()))))

noncomputable def porterref09_Word_h2 (N : Nat) : Hd Bool := fun st K => (unS [(0, .v .str)] 55 (restr [0] 0 st)).bind fun x => porterref09_Word_g2 N x K

noncomputable def porterref09_Word_t2 (N : Nat) : Tab Bool := []

theorem porterref09_Word_ok2 {N : Nat} {c : Ctx} (hb : Base Go.Proofs.Try.prog (porterref09_Word_E N) c) : CodeOk Go.Proofs.Try.prog c (nodeAt porterref09_Word_body [0, 0, 1]) (porterref09_Word_h2 N) :=
  piece_ok (s := [(0, .v .str)]) (m := 55) (g := porterref09_Word_g2 N) [0] (evN_sound hb N (porterref09_Word_t2 N) porterref09_Word_L porterref09_Word_body TabOk.nil [0, 0, 1] _ rfl) (fun x K => by kernel_rfl)

noncomputable def porterref09_Word_p1 (N : Nat) (s : (List UInt8)) (k0 : Bool → Option Bool) (k1 : Option Bool) : Option Bool :=
  porterref09_Word_p2 N s
  (fun x13 => cond x13
    (k0 false)
    (k1))

noncomputable def porterref09_Word_g1 (N : Nat) (x : denS [(0, .v .str)]) (K : Ex → List A → Option Bool) : Option Bool :=
  porterref09_Word_p1 N x.1 (fun a0 => (K .ret (mkS [(2, .v .bool)] 53 (a0, ())))) (K .normal (mkS [(0, .v .str)] 55 (x.1, ())))

noncomputable def porterref09_Word_h1 (N : Nat) : Hd Bool := fun st K => (unS [(0, .v .str)] 55 (restr [0] 0 st)).bind fun x => porterref09_Word_g1 N x K

noncomputable def porterref09_Word_t1 (N : Nat) : Tab Bool := [([0, 0, 1], porterref09_Word_h2 N)]

theorem porterref09_Word_ok1 {N : Nat} {c : Ctx} (hb : Base Go.Proofs.Try.prog (porterref09_Word_E N) c) : CodeOk Go.Proofs.Try.prog c (nodeAt porterref09_Word_body [0, 1]) (porterref09_Word_h1 N) :=
  piece_ok (s := [(0, .v .str)]) (m := 55) (g := porterref09_Word_g1 N) [0] (evN_sound hb N (porterref09_Word_t1 N) porterref09_Word_L porterref09_Word_body (TabOk.cons (porterref09_Word_ok2 hb) TabOk.nil) [0, 1] _ rfl) (fun x K => by kernel_rfl)

noncomputable def porterref09_Word_p5 (N : Nat) (s : (List UInt8)) (i : Int) (k0 : Bool → Option Bool) : Option Bool :=
  cond (Go.Lift.inR i (List.length s))
  (cond (decide ((97 : Int) ≤ (((UInt8.toNat (List.getD s (Int.toNat i) (0 : UInt8))) : Nat) : Int)))
    (cond (Go.Lift.inR i (List.length s))
      (k0 (decide ((((UInt8.toNat (List.getD s (Int.toNat i) (0 : UInt8))) : Nat) : Int) ≤ (122 : Int))))
      (none))
    (k0 false))
  (none)

noncomputable def porterref09_Word_g5 (N : Nat) (x : denS [(0, .v .str), (2, .v (.int .i64))]) (K : Ex → List A → Option Bool) : Option Bool :=
  porterref09_Word_p5 N x.1 x.2.1 (fun a2 => (K .normal (mkS [(0, .v .str), (2, .v (.int .i64)), (0, .v .bool)] 51 (x.1, x.2.1, a2, ()))))

noncomputable def porterref09_Word_h5 (N : Nat) : Hd Bool := fun st K => (unS [(0, .v .str), (2, .v (.int .i64))] 52 (restr [0, 3] 0 st)).bind fun x => porterref09_Word_g5 N x K

noncomputable def porterref09_Word_t5 (N : Nat) : Tab Bool := []

theorem porterref09_Word_ok5 {N : Nat} {c : Ctx} (hb : Base Go.Proofs.Try.prog (porterref09_Word_E N) c) : CodeOk Go.Proofs.Try.prog c (nodeAt porterref09_Word_body [0, 0, 0, 1, 0, 0, 1, 0, 1, 1]) (porterref09_Word_h5 N) :=
  piece_ok (s := [(0, .v .str), (2, .v (.int .i64))]) (m := 52) (g := porterref09_Word_g5 N) [0, 3] (evN_sound hb N (porterref09_Word_t5 N) porterref09_Word_L porterref09_Word_body TabOk.nil [0, 0, 0, 1, 0, 0, 1, 0, 1, 1] _ rfl) (fun x K => by kernel_rfl)

noncomputable def porterref09_Word_p6 (N : Nat) (s : (List UInt8)) (i : Int) (small : Bool) (k0 : Bool → Option Bool) : Option Bool :=
  cond (Go.Lift.inR i (List.length s))
  (cond ((((UInt8.toNat (List.getD s (Int.toNat i) (0 : UInt8))) : Nat) : Int) == (45 : Int))
    (k0 true)
    (cond (Go.Lift.inR i (List.length s))
      (cond (decide ((48 : Int) ≤ (((UInt8.toNat (List.getD s (Int.toNat i) (0 : UInt8))) : Nat) : Int)))
        (cond (Go.Lift.inR i (List.length s))
          (k0 (decide ((((UInt8.toNat (List.getD s (Int.toNat i) (0 : UInt8))) : Nat) : Int) ≤ (57 : Int))))
          (none))
        (k0 false))
      (none)))
  (none)

noncomputable def porterref09_Word_g6 (N : Nat) (x : denS [(0, .v .str), (2, .v (.int .i64)), (0, .v .bool)]) (K : Ex → List A → Option Bool) : Option Bool :=
  porterref09_Word_p6 N x.1 x.2.1 x.2.2.1 (fun a3 => (K .normal (mkS [(0, .v .str), (2, .v (.int .i64)), (0, .v .bool), (0, .v .bool)] 50 (x.1, x.2.1, x.2.2.1, a3, ()))))

noncomputable def porterref09_Word_h6 (N : Nat) : Hd Bool := fun st K => (unS [(0, .v .str), (2, .v (.int .i64)), (0, .v .bool)] 51 (restr [0, 3, 4] 0 st)).bind fun x => porterref09_Word_g6 N x K

noncomputable def porterref09_Word_t6 (N : Nat) : Tab Bool := []

theorem porterref09_Word_ok6 {N : Nat} {c : Ctx} (hb : Base Go.Proofs.Try.prog (porterref09_Word_E N) c) : CodeOk Go.Proofs.Try.prog c (nodeAt porterref09_Word_body [0, 1, 0, 0, 1, 0, 0, 1, 0, 1, 1]) (porterref09_Word_h6 N) :=
  piece_ok (s := [(0, .v .str), (2, .v (.int .i64)), (0, .v .bool)]) (m := 51) (g := porterref09_Word_g6 N) [0, 3, 4] (evN_sound hb N (porterref09_Word_t6 N) porterref09_Word_L porterref09_Word_body TabOk.nil [0, 1, 0, 0, 1, 0, 0, 1, 0, 1, 1] _ rfl) (fun x K => by kernel_rfl)

noncomputable def porterref09_Word_p7 (N : Nat) (s : (List UInt8)) (i : Int) (small : Bool) (other : Bool) (k0 : Bool → Option Bool) : Option Bool :=
  cond (!small)
  (cond (i == (0 : Int))
    (k0 true)
    (k0 (!other)))
  (k0 false)

noncomputable def porterref09_Word_g7 (N : Nat) (x : denS [(0, .v .str), (2, .v (.int .i64)), (0, .v .bool), (0, .v .bool)]) (K : Ex → List A → Option Bool) : Option Bool :=
  porterref09_Word_p7 N x.1 x.2.1 x.2.2.1 x.2.2.2.1 (fun a2 => (K .normal (mkS [(0, .v .str), (2, .v (.int .i64)), (51, .v .bool)] 0 (x.1, x.2.1, a2, ()))))

noncomputable def porterref09_Word_h7 (N : Nat) : Hd Bool := fun st K => (unS [(0, .v .str), (2, .v (.int .i64)), (0, .v .bool), (0, .v .bool)] 50 (restr [4, 3, 5, 0] 0 st)).bind fun x => porterref09_Word_g7 N x K

noncomputable def porterref09_Word_t7 (N : Nat) : Tab Bool := []

theorem porterref09_Word_ok7 {N : Nat} {c : Ctx} (hb : Base Go.Proofs.Try.prog (porterref09_Word_E N) c) : CodeOk Go.Proofs.Try.prog c (nodeAt porterref09_Word_body [0, 1, 1, 0, 0, 1, 0, 0, 1, 0, 1, 1]) (porterref09_Word_h7 N) :=
  piece_ok (s := [(0, .v .str), (2, .v (.int .i64)), (0, .v .bool), (0, .v .bool)]) (m := 50) (g := porterref09_Word_g7 N) [4, 3, 5, 0] (evN_sound hb N (porterref09_Word_t7 N) porterref09_Word_L porterref09_Word_body TabOk.nil [0, 1, 1, 0, 0, 1, 0, 0, 1, 0, 1, 1] _ rfl) (fun x K => by kernel_rfl)

noncomputable def porterref09_Word_p4 (N : Nat) (s : (List UInt8)) (i : Int) (k0 : Bool → Option Bool) (k1 : Option Bool) : Option Bool :=
  porterref09_Word_p5 N s i
  (fun small => porterref09_Word_p6 N s i small
    (fun other => porterref09_Word_p7 N s i small other
      (fun x55 => cond x55
        (k0 false)
        (k1))))

noncomputable def porterref09_Word_g4 (N : Nat) (x : denS [(0, .v .str), (2, .v (.int .i64))]) (K : Ex → List A → Option Bool) : Option Bool :=
  porterref09_Word_p4 N x.1 x.2.1 (fun a0 => (K .ret (mkS [(2, .v .bool)] 53 (a0, ())))) (K .normal (mkS [(0, .v .str), (2, .v (.int .i64))] 52 (x.1, x.2.1, ())))

noncomputable def porterref09_Word_h4 (N : Nat) : Hd Bool := fun st K => (unS [(0, .v .str), (2, .v (.int .i64))] 52 (restr [0, 3] 0 st)).bind fun x => porterref09_Word_g4 N x K

noncomputable def porterref09_Word_t4 (N : Nat) : Tab Bool := [([0, 0, 0, 1, 0, 0, 1, 0, 1, 1], porterref09_Word_h5 N), ([0, 1, 0, 0, 1, 0, 0, 1, 0, 1, 1], porterref09_Word_h6 N), ([0, 1, 1, 0, 0, 1, 0, 0, 1, 0, 1, 1], porterref09_Word_h7 N)]

theorem porterref09_Word_ok4 {N : Nat} {c : Ctx} (hb : Base Go.Proofs.Try.prog (porterref09_Word_E N) c) : CodeOk Go.Proofs.Try.prog c (nodeAt porterref09_Word_body [0, 1, 0, 0, 1, 0, 1, 1]) (porterref09_Word_h4 N) :=
  piece_ok (s := [(0, .v .str), (2, .v (.int .i64))]) (m := 52) (g := porterref09_Word_g4 N) [0, 3] (evN_sound hb N (porterref09_Word_t4 N) porterref09_Word_L porterref09_Word_body (TabOk.cons (porterref09_Word_ok5 hb) (TabOk.cons (porterref09_Word_ok6 hb) (TabOk.cons (porterref09_Word_ok7 hb) TabOk.nil))) [0, 1, 0, 0, 1, 0, 1, 1] _ rfl) (fun x K => by kernel_rfl)

noncomputable def porterref09_Word_s3 (N : Nat) (s : (List UInt8)) (i : Int) (rec : Int → Option Bool) (k0 : Bool → Option Bool) (k1 : Option Bool) : Option Bool :=
  cond (decide (i < (((List.length s) : Nat) : Int)))
  (porterref09_Word_p4 N s i
    (fun x2 => k0 x2)
    (rec (Go.IntKind.wrap Go.IntKind.i64 (i + (1 : Int)))))
  (k1)

noncomputable def porterref09_Word_p3 (N : Nat) (s : (List UInt8)) (i : Int) (k0 : Bool → Option Bool) (k1 : Option Bool) : Option Bool :=
  iter (fun (v : Int) r => porterref09_Word_s3 N s v (fun i => (r i)) k0 k1) N i

noncomputable def porterref09_Word_g3 (N : Nat) (i : (List UInt8)) (v : Int) (r : Int → Option Bool) (K : Ex → List A → Option Bool) : Option Bool :=
  porterref09_Word_s3 N i v (fun i => (r i)) (fun a0 => (K .ret (mkS [(2, .v .bool)] 53 (a0, ())))) (K (.exit 0) (mkS [] 56 ()))

noncomputable def porterref09_Word_h3 (N : Nat) : Hd Bool := fun st K => (unS [(0, .v .str), (2, .v (.int .i64))] 52 (restr [3, 0] 0 st)).bind fun x => iter (fun v r => porterref09_Word_g3 N ((fun x => x.1) x) v r K) N ((fun x => x.2.1) x)

noncomputable def porterref09_Word_t3 (N : Nat) : Tab Bool := [([0, 1, 0, 0, 1, 0, 1, 1], porterref09_Word_h4 N)]

theorem porterref09_Word_ok3 {N : Nat} {c : Ctx} (hb : Base Go.Proofs.Try.prog (porterref09_Word_E N) c) : CodeOk Go.Proofs.Try.prog c (nodeAt porterref09_Word_body [0, 1, 0, 1, 1]) (porterref09_Word_h3 N) :=
  loop_ok (s := [(0, .v .str), (2, .v (.int .i64))]) (m := 52) (porterref09_Word_g3 N) [3, 0] N (fun x => x.1) (fun x => x.2.1) (fun i v => (i, v, ())) (fun _ => rfl) (evN_sound hb N (porterref09_Word_t3 N) porterref09_Word_L porterref09_Word_body (TabOk.cons (porterref09_Word_ok4 hb) TabOk.nil) [0, 0, 1, 0, 1, 1] _ rfl) (fun i v r K => by kernel_rfl)

noncomputable def porterref09_Word (N : Nat) (s : (List UInt8)) : Option Bool :=
  porterref09_Word_p1 N s
  (fun x2 => some x2)
  (porterref09_Word_p3 N s (0 : Int)
    (fun x21 => some x21)
    (some true))

noncomputable def porterref09_Word_t (N : Nat) : Tab Bool := [([0, 1], porterref09_Word_h1 N), ([0, 1, 0, 1, 1], porterref09_Word_h3 N)]

theorem porterref09_Word_link (N : Nat) (x : denS [(0, .v .str)]) : evFX (porterref09_Word_E N) N (porterref09_Word_t N) porterref09_Word_L Go.Proofs.Try.f43 (mkS [(0, .v .str)] 0 x) (kRes (.v .bool) 1) = porterref09_Word N x.1 := by kernel_rfl

noncomputable def porterref09_Word_res (N : Nat) : List A → Res := resOf [(0, .v .str)] (fun x => porterref09_Word N x.1) (oRes (.v .bool) 1)

theorem porterref09_Word_ct (N : Nat) : Contract Go.Proofs.Try.prog noGlob 43 (porterref09_Word_res N) :=
  Contract.of (E := porterref09_Word_E N) (H := porterref09_Word_t N) (L := porterref09_Word_L) (N := N) (body := porterref09_Word_body) (K := (kRes (.v .bool) 1)) (porterref09_Word_Eok N) Go.Proofs.Try.func43 (by kernel_rfl) (by decide) (fun _ hb => (TabOk.cons (porterref09_Word_ok1 hb) (TabOk.cons (porterref09_Word_ok3 hb) TabOk.nil))) (fun x y h => by rw [porterref09_Word_link]; exact h) (kRes_ok (s := (.v .bool)) (m := 1))

abbrev porterref38_Form_R : Type := Bool

noncomputable def porterref38_Form_body : Code := (Go.Proofs.Try.f20.body).getD .skip

noncomputable def porterref38_Form_L : List (List Nat × List Nat) := [([0], [1]), ([0, 0, 1], [41, 1]), ([1, 0, 1], [1]), ([0, 0, 1, 0, 1], [2]), ([1, 0, 1, 0, 1], [2]), ([0, 0, 1, 1], [44, 1]), ([1, 0, 1, 1], [1]), ([0, 0, 1, 0, 1, 1], [2]), ([1, 0, 1, 0, 1, 1], [2]), ([0, 1, 1, 1], [2]), ([1, 1, 1, 1], [2])]

noncomputable def porterref38_Form_E (N : Nat) : Env := mkEnv tys noGlob [(43, porterref09_Word_res N), (42, porterref38_in_res N)] [] [] [] false [] []

theorem porterref38_Form_Eok (N : Nat) : EnvOk Go.Proofs.Try.prog (porterref38_Form_E N) := mkEnv_ok mixed tys_ok (FnsOk.cons (porterref09_Word_ct N) (FnsOk.cons (porterref38_in_ct N) (FnsOk.nil))) (ItsOk.nil)

noncomputable def porterref38_Form_p2 (N : Nat) (e : (Int × ((List UInt8) × (Int × (Int × ((List UInt8) × Unit)))))) (k0 : Bool → Option Bool) : Option Bool :=
  cond (decide (e.1 < (1 : Int)))
  (k0 true)
  (cond (decide ((4 : Int) < e.1))
    (k0 true)
    (cond (e.1 != (1 : Int))
      (cond (e.2.2.2.1 != (0 : Int))
        (k0 true)
        (cond (e.1 != (2 : Int))
          (cond (!(e.2.2.2.2.1 == ([] : List UInt8)))
            (k0 true)
            (cond (e.1 == (2 : Int))
              (k0 ((((List.length e.2.2.2.2.1) : Nat) : Int) != (32 : Int)))
              (k0 false)))
          (cond (e.1 == (2 : Int))
            (k0 ((((List.length e.2.2.2.2.1) : Nat) : Int) != (32 : Int)))
            (k0 false))))
      (cond (e.1 != (2 : Int))
        (cond (!(e.2.2.2.2.1 == ([] : List UInt8)))
          (k0 true)
          (cond (e.1 == (2 : Int))
            (k0 ((((List.length e.2.2.2.2.1) : Nat) : Int) != (32 : Int)))
            (k0 false)))
        (cond (e.1 == (2 : Int))
          (k0 ((((List.length e.2.2.2.2.1) : Nat) : Int) != (32 : Int)))
          (k0 false)))))

noncomputable def porterref38_Form_g2 (N : Nat) (x : denS [(1, .box (.pair (.int .i64) (.pair .str (.pair (.int .i64) (.pair (.int .i64) (.pair .str .unit))))))]) (K : Ex → List A → Option Bool) : Option Bool :=
  porterref38_Form_p2 N x.1 (fun a1 => (K .normal (mkS [(1, .box (.pair (.int .i64) (.pair .str (.pair (.int .i64) (.pair (.int .i64) (.pair .str .unit)))))), (39, .v .bool)] 24 (x.1, a1, ()))))

noncomputable def porterref38_Form_h2 (N : Nat) : Hd Bool := fun st K => (unS [(1, .box (.pair (.int .i64) (.pair .str (.pair (.int .i64) (.pair (.int .i64) (.pair .str .unit))))))] 64 (restr [1] 0 st)).bind fun x => porterref38_Form_g2 N x K

noncomputable def porterref38_Form_t2 (N : Nat) : Tab Bool := []

theorem porterref38_Form_ok2 {N : Nat} {c : Ctx} (hb : Base Go.Proofs.Try.prog (porterref38_Form_E N) c) : CodeOk Go.Proofs.Try.prog c (nodeAt porterref38_Form_body [0, 0, 1]) (porterref38_Form_h2 N) :=
  piece_ok (s := [(1, .box (.pair (.int .i64) (.pair .str (.pair (.int .i64) (.pair (.int .i64) (.pair .str .unit))))))]) (m := 64) (g := porterref38_Form_g2 N) [1] (evN_sound hb N (porterref38_Form_t2 N) porterref38_Form_L porterref38_Form_body TabOk.nil [0, 0, 1] _ rfl) (fun x K => by kernel_rfl)

noncomputable def porterref38_Form_p1 (N : Nat) (e : (Int × ((List UInt8) × (Int × (Int × ((List UInt8) × Unit)))))) (k0 : Bool → Option Bool) (k1 : Option Bool) : Option Bool :=
  porterref38_Form_p2 N e
  (fun x41 => cond x41
    (k0 false)
    (k1))

noncomputable def porterref38_Form_g1 (N : Nat) (x : denS [(1, .box (.pair (.int .i64) (.pair .str (.pair (.int .i64) (.pair (.int .i64) (.pair .str .unit))))))]) (K : Ex → List A → Option Bool) : Option Bool :=
  porterref38_Form_p1 N x.1 (fun a0 => (K .ret (mkS [(2, .v .bool)] 63 (a0, ())))) (K .normal (mkS [(1, .box (.pair (.int .i64) (.pair .str (.pair (.int .i64) (.pair (.int .i64) (.pair .str .unit))))))] 64 (x.1, ())))

noncomputable def porterref38_Form_h1 (N : Nat) : Hd Bool := fun st K => (unS [(1, .box (.pair (.int .i64) (.pair .str (.pair (.int .i64) (.pair (.int .i64) (.pair .str .unit))))))] 64 (restr [1] 0 st)).bind fun x => porterref38_Form_g1 N x K

noncomputable def porterref38_Form_t1 (N : Nat) : Tab Bool := [([0, 0, 1], porterref38_Form_h2 N)]

theorem porterref38_Form_ok1 {N : Nat} {c : Ctx} (hb : Base Go.Proofs.Try.prog (porterref38_Form_E N) c) : CodeOk Go.Proofs.Try.prog c (nodeAt porterref38_Form_body [0, 1]) (porterref38_Form_h1 N) :=
  piece_ok (s := [(1, .box (.pair (.int .i64) (.pair .str (.pair (.int .i64) (.pair (.int .i64) (.pair .str .unit))))))]) (m := 64) (g := porterref38_Form_g1 N) [1] (evN_sound hb N (porterref38_Form_t1 N) porterref38_Form_L porterref38_Form_body (TabOk.cons (porterref38_Form_ok2 hb) TabOk.nil) [0, 1] _ rfl) (fun x K => by kernel_rfl)

noncomputable def porterref38_Form (N : Nat) (e : (Int × ((List UInt8) × (Int × (Int × ((List UInt8) × Unit)))))) : Option Bool :=
  porterref38_Form_p1 N e
  (fun x2 => some x2)
  (cond (e.1 == (4 : Int))
    (cond (e.2.1 == ([] : List UInt8))
      ((porterref38_in N e.2.2.1 (0 : Int)).bind fun y =>
        some y)
      (some false))
    ((porterref09_Word N e.2.1).bind fun y1 =>
      cond y1
      ((porterref38_in N e.2.2.1 (1 : Int)).bind fun y2 =>
        cond y2
        ((porterref38_in N e.2.2.2.1 (0 : Int)).bind fun y3 =>
          some y3)
        (some false))
      (some false)))

noncomputable def porterref38_Form_t (N : Nat) : Tab Bool := [([0, 1], porterref38_Form_h1 N)]

theorem porterref38_Form_link (N : Nat) (x : denS [(0, .v (.pair (.int .i64) (.pair .str (.pair (.int .i64) (.pair (.int .i64) (.pair .str .unit))))))]) : evFX (porterref38_Form_E N) N (porterref38_Form_t N) porterref38_Form_L Go.Proofs.Try.f20 (mkS [(0, .v (.pair (.int .i64) (.pair .str (.pair (.int .i64) (.pair (.int .i64) (.pair .str .unit))))))] 0 x) (kRes (.v .bool) 1) = porterref38_Form N x.1 := by kernel_rfl

noncomputable def porterref38_Form_res (N : Nat) : List A → Res := resOf [(0, .v (.pair (.int .i64) (.pair .str (.pair (.int .i64) (.pair (.int .i64) (.pair .str .unit))))))] (fun x => porterref38_Form N x.1) (oRes (.v .bool) 1)

theorem porterref38_Form_ct (N : Nat) : Contract Go.Proofs.Try.prog noGlob 20 (porterref38_Form_res N) :=
  Contract.of (E := porterref38_Form_E N) (H := porterref38_Form_t N) (L := porterref38_Form_L) (N := N) (body := porterref38_Form_body) (K := (kRes (.v .bool) 1)) (porterref38_Form_Eok N) Go.Proofs.Try.func20 (by kernel_rfl) (by decide) (fun _ hb => (TabOk.cons (porterref38_Form_ok1 hb) TabOk.nil)) (fun x y h => by rw [porterref38_Form_link]; exact h) (kRes_ok (s := (.v .bool)) (m := 1))

abbrev porterref02_Byte_R : Type := (List UInt8)

noncomputable def porterref02_Byte_body : Code := (Go.Proofs.Try.f21.body).getD .skip

noncomputable def porterref02_Byte_L : List (List Nat × List Nat) := [([0], [0]), ([0, 1], [3]), ([0, 1, 1], [2]), ([1, 1, 1], [2])]

noncomputable def porterref02_Byte_E (N : Nat) : Env := mkEnv tys noGlob [] [] [] [] false [] []

theorem porterref02_Byte_Eok (N : Nat) : EnvOk Go.Proofs.Try.prog (porterref02_Byte_E N) := mkEnv_ok mixed tys_ok (FnsOk.nil) (ItsOk.nil)

noncomputable def porterref02_Byte (N : Nat) (n : Int) : Option (List UInt8) :=
  some (Go.Lift.toStr ([(Go.IntKind.wrap Go.IntKind.u8 n)] : List Int))

noncomputable def porterref02_Byte_t (N : Nat) : Tab (List UInt8) := []

theorem porterref02_Byte_link (N : Nat) (x : denS [(0, .v (.int .i64))]) : evFX (porterref02_Byte_E N) N (porterref02_Byte_t N) porterref02_Byte_L Go.Proofs.Try.f21 (mkS [(0, .v (.int .i64))] 0 x) (kRes (.v .str) 1) = porterref02_Byte N x.1 := by kernel_rfl

noncomputable def porterref02_Byte_res (N : Nat) : List A → Res := resOf [(0, .v (.int .i64))] (fun x => porterref02_Byte N x.1) (oRes (.v .str) 1)

theorem porterref02_Byte_ct (N : Nat) : Contract Go.Proofs.Try.prog noGlob 21 (porterref02_Byte_res N) :=
  Contract.of (E := porterref02_Byte_E N) (H := porterref02_Byte_t N) (L := porterref02_Byte_L) (N := N) (body := porterref02_Byte_body) (K := (kRes (.v .str) 1)) (porterref02_Byte_Eok N) Go.Proofs.Try.func21 (by kernel_rfl) (by decide) (fun _ hb => TabOk.nil) (fun x y h => by rw [porterref02_Byte_link]; exact h) (kRes_ok (s := (.v .str)) (m := 1))

abbrev porterref07_Put_R : Type := (List UInt8)

noncomputable def porterref07_Put_body : Code := (Go.Proofs.Try.f23.body).getD .skip

noncomputable def porterref07_Put_L : List (List Nat × List Nat) := [([0], [0]), ([0, 0, 1], [4, 0]), ([1, 0, 1], [0]), ([0, 0, 1, 0, 1], [2]), ([1, 0, 1, 0, 1], [2]), ([0, 1, 1], [2]), ([1, 1, 1], [2])]

noncomputable def porterref07_Put_E (N : Nat) (self : Int → Option (List UInt8)) : Env := mkEnv tys noGlob [(21, porterref02_Byte_res N), (23, resOf [(0, .v (.int .u64))] (fun x => self x.1) (oRes (.v .str) 1))] [] [] [] false [] []

theorem porterref07_Put_Eok (N : Nat) (self : Int → Option (List UInt8)) (hself : Contract Go.Proofs.Try.prog noGlob 23 (resOf [(0, .v (.int .u64))] (fun x => self x.1) (oRes (.v .str) 1))) : EnvOk Go.Proofs.Try.prog (porterref07_Put_E N self) := mkEnv_ok mixed tys_ok (FnsOk.cons (porterref02_Byte_ct N) (FnsOk.cons (hself) (FnsOk.nil))) (ItsOk.nil)

noncomputable def porterref07_Put_F (N : Nat) (self : Int → Option (List UInt8)) (n : Int) : Option (List UInt8) :=
  cond (decide (n < (128 : Int)))
  (some (Go.Lift.toStr ([(Go.IntKind.wrap Go.IntKind.u8 (Go.IntKind.wrap Go.IntKind.i64 n))] : List Int)))
  ((self (Go.IntKind.wrap Go.IntKind.u64 (Int.tdiv n (128 : Int)))).bind fun y =>
    cond (decide (((List.length (Go.Lift.toStr ([(Go.IntKind.wrap Go.IntKind.u8 (Go.IntKind.wrap Go.IntKind.i64 ((Go.IntKind.wrap Go.IntKind.i64 (Int.tmod n (128 : Int))) + (128 : Int))))] : List Int))) + (List.length y)) ≤ 9223372036854775807))
    (some ((Go.Lift.toStr ([(Go.IntKind.wrap Go.IntKind.u8 (Go.IntKind.wrap Go.IntKind.i64 ((Go.IntKind.wrap Go.IntKind.i64 (Int.tmod n (128 : Int))) + (128 : Int))))] : List Int)) ++ y))
    (none))

noncomputable def porterref07_Put_t (N : Nat) (self : Int → Option (List UInt8)) : Tab (List UInt8) := []

theorem porterref07_Put_link (N : Nat) (self : Int → Option (List UInt8)) (x : denS [(0, .v (.int .u64))]) : evFX (porterref07_Put_E N self) N (porterref07_Put_t N self) porterref07_Put_L Go.Proofs.Try.f23 (mkS [(0, .v (.int .u64))] 0 x) (kRes (.v .str) 1) = porterref07_Put_F N self x.1 := by kernel_rfl

noncomputable def porterref07_Put : Nat → Int → Option (List UInt8)
  | 0 => fun _ => none
  | N + 1 => porterref07_Put_F (N + 1) (porterref07_Put N)

noncomputable def porterref07_Put_res (N : Nat) : List A → Res := resOf [(0, .v (.int .u64))] (fun x => porterref07_Put N x.1) (oRes (.v .str) 1)

theorem porterref07_Put_ct : ∀ N : Nat, Contract Go.Proofs.Try.prog noGlob 23 (porterref07_Put_res N)
  | 0 => Contract.zero Go.Proofs.Try.func23 (body := porterref07_Put_body) (by kernel_rfl) (by decide) (fun _ => rfl)
  | N + 1 => Contract.of (E := porterref07_Put_E (N + 1) (porterref07_Put N)) (H := porterref07_Put_t (N + 1) (porterref07_Put N)) (L := porterref07_Put_L) (N := (N + 1)) (body := porterref07_Put_body) (K := (kRes (.v .str) 1)) (porterref07_Put_Eok (N + 1) (porterref07_Put N) (porterref07_Put_ct N)) Go.Proofs.Try.func23 (by kernel_rfl) (by decide) (fun _ hb => TabOk.nil) (fun x y h => by rw [porterref07_Put_link]; exact h) (kRes_ok (s := (.v .str)) (m := 1))

abbrev porterref08_Text_R : Type := (List UInt8)

noncomputable def porterref08_Text_body : Code := (Go.Proofs.Try.f22.body).getD .skip

noncomputable def porterref08_Text_L : List (List Nat × List Nat) := [([0], [0]), ([0, 1], [2]), ([1, 1], [2])]

noncomputable def porterref08_Text_E (N : Nat) : Env := mkEnv tys noGlob [(23, porterref07_Put_res N)] [] [] [] false [] []

theorem porterref08_Text_Eok (N : Nat) : EnvOk Go.Proofs.Try.prog (porterref08_Text_E N) := mkEnv_ok mixed tys_ok (FnsOk.cons (porterref07_Put_ct N) (FnsOk.nil)) (ItsOk.nil)

noncomputable def porterref08_Text (N : Nat) (s : (List UInt8)) : Option (List UInt8) :=
  (porterref07_Put N (Go.IntKind.wrap Go.IntKind.u64 (((List.length s) : Nat) : Int))).bind fun y =>
  cond (decide (((List.length y) + (List.length s)) ≤ 9223372036854775807))
  (some (y ++ s))
  (none)

noncomputable def porterref08_Text_t (N : Nat) : Tab (List UInt8) := []

theorem porterref08_Text_link (N : Nat) (x : denS [(0, .v .str)]) : evFX (porterref08_Text_E N) N (porterref08_Text_t N) porterref08_Text_L Go.Proofs.Try.f22 (mkS [(0, .v .str)] 0 x) (kRes (.v .str) 1) = porterref08_Text N x.1 := by kernel_rfl

noncomputable def porterref08_Text_res (N : Nat) : List A → Res := resOf [(0, .v .str)] (fun x => porterref08_Text N x.1) (oRes (.v .str) 1)

theorem porterref08_Text_ct (N : Nat) : Contract Go.Proofs.Try.prog noGlob 22 (porterref08_Text_res N) :=
  Contract.of (E := porterref08_Text_E N) (H := porterref08_Text_t N) (L := porterref08_Text_L) (N := N) (body := porterref08_Text_body) (K := (kRes (.v .str) 1)) (porterref08_Text_Eok N) Go.Proofs.Try.func22 (by kernel_rfl) (by decide) (fun _ hb => TabOk.nil) (fun x y h => by rw [porterref08_Text_link]; exact h) (kRes_ok (s := (.v .str)) (m := 1))

abbrev porterref39_Put_R : Type := ((List UInt8) × Int × Unit)

noncomputable def porterref39_Put_body : Code := (Go.Proofs.Try.f8.body).getD .skip

noncomputable def porterref39_Put_L : List (List Nat × List Nat) := [([0], [1]), ([0, 0, 1], [6, 1]), ([1, 0, 1], [1]), ([0, 0, 1, 0, 1], [2, 3]), ([1, 0, 1, 0, 1], [2, 3]), ([0, 1, 1], [2, 3]), ([1, 1, 1], [2, 3])]

noncomputable def porterref39_Put_E (N : Nat) : Env := mkEnv tys noGlob [(22, porterref08_Text_res N), (23, porterref07_Put_res N), (21, porterref02_Byte_res N), (20, porterref38_Form_res N)] [] [] [] false [] []

theorem porterref39_Put_Eok (N : Nat) : EnvOk Go.Proofs.Try.prog (porterref39_Put_E N) := mkEnv_ok mixed tys_ok (FnsOk.cons (porterref08_Text_ct N) (FnsOk.cons (porterref07_Put_ct N) (FnsOk.cons (porterref02_Byte_ct N) (FnsOk.cons (porterref38_Form_ct N) (FnsOk.nil))))) (ItsOk.nil)

noncomputable def porterref39_Put (N : Nat) (e : (Int × ((List UInt8) × (Int × (Int × ((List UInt8) × Unit)))))) : Option ((List UInt8) × Int × Unit) :=
  (porterref38_Form N e).bind fun y =>
  cond (!y)
  (some (([] : List UInt8), ((2 : Int), ())))
  ((porterref08_Text N e.2.1).bind fun y1 =>
    cond (decide (((List.length (Go.Lift.toStr ([(Go.IntKind.wrap Go.IntKind.u8 e.1)] : List Int))) + (List.length y1)) ≤ 9223372036854775807))
    ((porterref07_Put N (Go.IntKind.wrap Go.IntKind.u64 e.2.2.2.1)).bind fun y2 =>
      cond (decide (((List.length ((Go.Lift.toStr ([(Go.IntKind.wrap Go.IntKind.u8 e.1)] : List Int)) ++ y1)) + (List.length y2)) ≤ 9223372036854775807))
      ((porterref07_Put N (Go.IntKind.wrap Go.IntKind.u64 e.2.2.1)).bind fun y3 =>
        cond (decide (((List.length (((Go.Lift.toStr ([(Go.IntKind.wrap Go.IntKind.u8 e.1)] : List Int)) ++ y1) ++ y2)) + (List.length y3)) ≤ 9223372036854775807))
        ((porterref08_Text N e.2.2.2.2.1).bind fun y4 =>
          cond (decide (((List.length ((((Go.Lift.toStr ([(Go.IntKind.wrap Go.IntKind.u8 e.1)] : List Int)) ++ y1) ++ y2) ++ y3)) + (List.length y4)) ≤ 9223372036854775807))
          (some ((((((Go.Lift.toStr ([(Go.IntKind.wrap Go.IntKind.u8 e.1)] : List Int)) ++ y1) ++ y2) ++ y3) ++ y4), ((0 : Int), ())))
          (none))
        (none))
      (none))
    (none))

noncomputable def porterref39_Put_t (N : Nat) : Tab ((List UInt8) × Int × Unit) := []

theorem porterref39_Put_link (N : Nat) (x : denS [(0, .v (.pair (.int .i64) (.pair .str (.pair (.int .i64) (.pair (.int .i64) (.pair .str .unit))))))]) : evFX (porterref39_Put_E N) N (porterref39_Put_t N) porterref39_Put_L Go.Proofs.Try.f8 (mkS [(0, .v (.pair (.int .i64) (.pair .str (.pair (.int .i64) (.pair (.int .i64) (.pair .str .unit))))))] 0 x) (kRes (.tup [.str, (.int .i64)]) 1) = porterref39_Put N x.1 := by kernel_rfl

noncomputable def porterref39_Put_res (N : Nat) : List A → Res := resOf [(0, .v (.pair (.int .i64) (.pair .str (.pair (.int .i64) (.pair (.int .i64) (.pair .str .unit))))))] (fun x => porterref39_Put N x.1) (oRes (.tup [.str, (.int .i64)]) 1)

theorem porterref39_Put_ct (N : Nat) : Contract Go.Proofs.Try.prog noGlob 8 (porterref39_Put_res N) :=
  Contract.of (E := porterref39_Put_E N) (H := porterref39_Put_t N) (L := porterref39_Put_L) (N := N) (body := porterref39_Put_body) (K := (kRes (.tup [.str, (.int .i64)]) 1)) (porterref39_Put_Eok N) Go.Proofs.Try.func8 (by kernel_rfl) (by decide) (fun _ hb => TabOk.nil) (fun x y h => by rw [porterref39_Put_link]; exact h) (kRes_ok (s := (.tup [.str, (.int .i64)])) (m := 1))

abbrev strings_Builder_WriteString_R : Type := ((Int × Go.Value × Unit) × ((Unit × ((List Int) × Unit)) × Unit))

noncomputable def strings_Builder_WriteString_body : Code := (Go.Proofs.Try.f24.body).getD .skip

noncomputable def strings_Builder_WriteString_L : List (List Nat × List Nat) := [([0], [0, 1]), ([0, 1], [0, 1]), ([0, 1, 1], [1, 0]), ([0, 1, 1, 1], [4, 5, 0]), ([1, 1, 1, 1], [4, 5, 0])]

noncomputable def strings_Builder_WriteString_E (N : Nat) : Env := mkEnv tys noGlob [(44, cc_res)] [] [] [0] false [] []

theorem strings_Builder_WriteString_Eok (N : Nat) : EnvOk Go.Proofs.Try.prog (strings_Builder_WriteString_E N) := mkEnv_ok mixed tys_ok (FnsOk.cons (cc_ct noGlob) (FnsOk.nil)) (ItsOk.nil)

noncomputable def strings_Builder_WriteString (N : Nat) (b : (Unit × ((List Int) × Unit))) (s : (List UInt8)) : Option ((Int × Go.Value × Unit) × ((Unit × ((List Int) × Unit)) × Unit)) :=
  cond (decide ((((List.length b.2.1) + (List.length (Go.Lift.ofStr s))) * 1) ≤ 70368744177664))
  (some (((((List.length s) : Nat) : Int), (Go.Value.nilIface, ())), ((b.1, ((b.2.1 ++ (Go.Lift.ofStr s)), b.2.2)), ())))
  (none)

noncomputable def strings_Builder_WriteString_t (N : Nat) : Tab ((Int × Go.Value × Unit) × ((Unit × ((List Int) × Unit)) × Unit)) := []

theorem strings_Builder_WriteString_link (N : Nat) (x : denS [(0, .box (.pair (.self 52) (.pair (.own (.byt 5)) .unit))), (0, .v .str)]) : evFX (strings_Builder_WriteString_E N) N (strings_Builder_WriteString_t N) strings_Builder_WriteString_L Go.Proofs.Try.f24 (mkS [(0, .box (.pair (.self 52) (.pair (.own (.byt 5)) .unit))), (0, .v .str)] 0 x) (kResB (.tup [(.int .i64), .opq]) [(0, .box (.pair (.self 52) (.pair (.own (.byt 5)) .unit)))] 1) = strings_Builder_WriteString N x.1 x.2.1 := by kernel_rfl

noncomputable def strings_Builder_WriteString_res (N : Nat) : List A → Res := resOf [(0, .box (.pair (.self 52) (.pair (.own (.byt 5)) .unit))), (0, .v .str)] (fun x => strings_Builder_WriteString N x.1 x.2.1) (oResB (.tup [(.int .i64), .opq]) [(0, .box (.pair (.self 52) (.pair (.own (.byt 5)) .unit)))] 1)

theorem strings_Builder_WriteString_ct (N : Nat) : Contract Go.Proofs.Try.prog noGlob 24 (strings_Builder_WriteString_res N) :=
  Contract.of (E := strings_Builder_WriteString_E N) (H := strings_Builder_WriteString_t N) (L := strings_Builder_WriteString_L) (N := N) (body := strings_Builder_WriteString_body) (K := (kResB (.tup [(.int .i64), .opq]) [(0, .box (.pair (.self 52) (.pair (.own (.byt 5)) .unit)))] 1)) (strings_Builder_WriteString_Eok N) Go.Proofs.Try.func24 (by kernel_rfl) (by decide) (fun _ hb => TabOk.nil) (fun x y h => by rw [strings_Builder_WriteString_link]; exact h) (kResB_ok (s := (.tup [(.int .i64), .opq])) (os := [(0, .box (.pair (.self 52) (.pair (.own (.byt 5)) .unit)))]) (m := 1))

abbrev record_Batch_R : Type := ((List UInt8) × Int × Unit)

noncomputable def record_Batch_body : Code := (Go.Proofs.Try.f9.body).getD .skip

noncomputable def record_Batch_L : List (List Nat × List Nat) := [([0], [0]), ([0, 0, 1], [11, 0]), ([1, 0, 1], [0]), ([0, 0, 1, 0, 1], [2, 3]), ([1, 0, 1, 0, 1], [2, 3]), ([0, 1, 1], [0, 4]), ([0, 1, 1, 1], [0, 4]), ([0, 0, 1, 1, 1, 1], [19, 18, 17, 4]), ([0, 1, 0, 1, 1, 1, 1], [19, 18, 17, 4]), ([0, 0, 0, 1, 0, 1, 1, 1, 1], [20, 17, 19, 4, 18]), ([0, 1, 0, 0, 1, 0, 1, 1, 1, 1], [17, 19, 4, 18]), ([1, 0, 1, 0, 0, 1, 0, 1, 1, 1, 1], [4]), ([0, 0, 0, 1, 1, 0, 0, 1, 0, 1, 1, 1, 1], [6, 4, 19, 18, 17]), ([0, 1, 0, 0, 1, 1, 0, 0, 1, 0, 1, 1, 1, 1], [8, 7, 4, 19, 18, 17]), ([0, 0, 1, 1, 0, 0, 1, 1, 0, 0, 1, 0, 1, 1, 1, 1], [29, 8, 7, 4, 19, 18, 17]), ([1, 0, 1, 1, 0, 0, 1, 1, 0, 0, 1, 0, 1, 1, 1, 1], [7, 4, 19, 18, 17]), ([0, 0, 1, 0, 1, 1, 0, 0, 1, 1, 0, 0, 1, 0, 1, 1, 1, 1], [2, 3]), ([1, 0, 1, 0, 1, 1, 0, 0, 1, 1, 0, 0, 1, 0, 1, 1, 1, 1], [2, 3]), ([1, 1, 1, 0, 0, 1, 1, 0, 0, 1, 0, 1, 1, 1, 1], [19, 18, 17, 4]), ([0, 1, 1, 0, 0, 1, 0, 1, 1, 1, 1], [19, 18, 17, 4]), ([1, 1, 1, 0, 0, 1, 0, 1, 1, 1, 1], [19, 18, 17, 4]), ([1, 0, 1, 1, 1, 1], [4]), ([0, 1, 1, 1, 1, 1], [2, 3]), ([1, 1, 1, 1, 1, 1], [2, 3])]

noncomputable def record_Batch_E (N : Nat) : Env := mkEnv tys noGlob [(24, strings_Builder_WriteString_res N), (7, record_Put_res N), (18, field_Text_res N), (25, field_Num_res N), (26, str_res)] [] [] [] false [(4, (.pair (.self 52) (.pair (.own (.byt 5)) .unit)))] []

theorem record_Batch_Eok (N : Nat) : EnvOk Go.Proofs.Try.prog (record_Batch_E N) := mkEnv_ok mixed tys_ok (FnsOk.cons (strings_Builder_WriteString_ct N) (FnsOk.cons (record_Put_ct N) (FnsOk.cons (field_Text_ct N) (FnsOk.cons (field_Num_ct N) (FnsOk.cons (str_ct noGlob) (FnsOk.nil)))))) (ItsOk.nil)

noncomputable def record_Batch_s1 (N : Nat) (x17 : (List (Int × ((List UInt8) × (Int × (Int × ((List UInt8) × Unit))))))) (x18 : Int) (out : (Unit × ((List Int) × Unit))) (x19 : Int) (rec : (Unit × ((List Int) × Unit)) → Int → Option ((List UInt8) × Int × Unit)) (k0 : (List UInt8) → Int → Option ((List UInt8) × Int × Unit)) (k1 : (Unit × ((List Int) × Unit)) → Option ((List UInt8) × Int × Unit)) : Option ((List UInt8) × Int × Unit) :=
  cond (decide (x19 < x18))
  (cond (Go.Lift.inR x19 (List.length x17))
    ((record_Put N (List.getD x17 (Int.toNat x19) ((0 : Int), (([] : List UInt8), ((0 : Int), ((0 : Int), (([] : List UInt8), ()))))))).bind fun y =>
      cond (y.2.1 != (0 : Int))
      (k0 ([] : List UInt8) y.2.1)
      ((field_Text N y.1).bind fun y1 =>
        (strings_Builder_WriteString N out y1).bind fun y2 =>
        rec y2.2.1 (Go.IntKind.wrap Go.IntKind.i64 (x19 + (1 : Int)))))
    (none))
  (k1 out)

noncomputable def record_Batch_p1 (N : Nat) (out : (Unit × ((List Int) × Unit))) (x17 : (List (Int × ((List UInt8) × (Int × (Int × ((List UInt8) × Unit))))))) (x18 : Int) (x19 : Int) (k0 : (List UInt8) → Int → Option ((List UInt8) × Int × Unit)) (k1 : (Unit × ((List Int) × Unit)) → Option ((List UInt8) × Int × Unit)) : Option ((List UInt8) × Int × Unit) :=
  iter (fun (v : ((Unit × ((List Int) × Unit)) × Int)) r => record_Batch_s1 N x17 x18 v.1 v.2 (fun out x19 => (r (out, x19))) k0 k1) N (out, x19)

noncomputable def record_Batch_g1 (N : Nat) (i : ((List (Int × ((List UInt8) × (Int × (Int × ((List UInt8) × Unit)))))) × Int)) (v : ((Unit × ((List Int) × Unit)) × Int)) (r : ((Unit × ((List Int) × Unit)) × Int) → Option ((List UInt8) × Int × Unit)) (K : Ex → List A → Option ((List UInt8) × Int × Unit)) : Option ((List UInt8) × Int × Unit) :=
  record_Batch_s1 N i.1 i.2 v.1 v.2 (fun out x19 => (r (out, x19))) (fun a0 a1 => (K .ret (mkS [(2, .v .str), (0, .v (.int .i64))] 32 (a0, a1, ())))) (fun a0 => (K (.exit 0) (mkS [(4, .box (.pair (.self 52) (.pair (.own (.byt 5)) .unit)))] 31 (a0, ()))))

noncomputable def record_Batch_h1 (N : Nat) : Hd ((List UInt8) × Int × Unit) := fun st K => (unS [(4, .box (.pair (.self 52) (.pair (.own (.byt 5)) .unit))), (12, .v (.sl (.pair (.int .i64) (.pair .str (.pair (.int .i64) (.pair (.int .i64) (.pair .str .unit))))))), (0, .v (.int .i64)), (0, .v (.int .i64))] 16 (restr [19, 18, 17, 4] 0 st)).bind fun x => iter (fun v r => record_Batch_g1 N ((fun x => (x.2.1, x.2.2.1)) x) v r K) N ((fun x => (x.1, x.2.2.2.1)) x)

noncomputable def record_Batch_t1 (N : Nat) : Tab ((List UInt8) × Int × Unit) := []

theorem record_Batch_ok1 {N : Nat} {c : Ctx} (hb : Base Go.Proofs.Try.prog (record_Batch_E N) c) : CodeOk Go.Proofs.Try.prog c (nodeAt record_Batch_body [0, 1, 0, 1, 1, 1, 1]) (record_Batch_h1 N) :=
  loop_ok (s := [(4, .box (.pair (.self 52) (.pair (.own (.byt 5)) .unit))), (12, .v (.sl (.pair (.int .i64) (.pair .str (.pair (.int .i64) (.pair (.int .i64) (.pair .str .unit))))))), (0, .v (.int .i64)), (0, .v (.int .i64))]) (m := 16) (record_Batch_g1 N) [19, 18, 17, 4] N (fun x => (x.2.1, x.2.2.1)) (fun x => (x.1, x.2.2.2.1)) (fun i v => (v.1, i.1, i.2, v.2, ())) (fun _ => rfl) (evN_sound hb N (record_Batch_t1 N) record_Batch_L record_Batch_body TabOk.nil [0, 0, 1, 0, 1, 1, 1, 1] _ rfl) (fun i v r K => by kernel_rfl)

noncomputable def record_Batch (N : Nat) (l : (List (Int × ((List UInt8) × (Int × (Int × ((List UInt8) × Unit))))))) : Option ((List UInt8) × Int × Unit) :=
  cond (decide ((256 : Int) < (((List.length l) : Nat) : Int)))
  (some (([] : List UInt8), ((3 : Int), ())))
  ((field_Num N (Go.IntKind.wrap Go.IntKind.u64 (((List.length l) : Nat) : Int))).bind fun y =>
    (strings_Builder_WriteString N ((), (([] : List Int), ())) y).bind fun y1 =>
    record_Batch_p1 N y1.2.1 l (((List.length l) : Nat) : Int) (0 : Int)
    (fun x2 x3 => some (x2, (x3, ())))
    (fun out => (str_F (out, ())).bind fun y2 =>
      some (y2.1, ((0 : Int), ()))))

noncomputable def record_Batch_t (N : Nat) : Tab ((List UInt8) × Int × Unit) := [([0, 1, 0, 1, 1, 1, 1], record_Batch_h1 N)]

theorem record_Batch_link (N : Nat) (x : denS [(0, .v (.sl (.pair (.int .i64) (.pair .str (.pair (.int .i64) (.pair (.int .i64) (.pair .str .unit)))))))]) : evFX (record_Batch_E N) N (record_Batch_t N) record_Batch_L Go.Proofs.Try.f9 (mkS [(0, .v (.sl (.pair (.int .i64) (.pair .str (.pair (.int .i64) (.pair (.int .i64) (.pair .str .unit)))))))] 0 x) (kRes (.tup [.str, (.int .i64)]) 1) = record_Batch N x.1 := by kernel_rfl

noncomputable def record_Batch_res (N : Nat) : List A → Res := resOf [(0, .v (.sl (.pair (.int .i64) (.pair .str (.pair (.int .i64) (.pair (.int .i64) (.pair .str .unit)))))))] (fun x => record_Batch N x.1) (oRes (.tup [.str, (.int .i64)]) 1)

theorem record_Batch_ct (N : Nat) : Contract Go.Proofs.Try.prog noGlob 9 (record_Batch_res N) :=
  Contract.of (E := record_Batch_E N) (H := record_Batch_t N) (L := record_Batch_L) (N := N) (body := record_Batch_body) (K := (kRes (.tup [.str, (.int .i64)]) 1)) (record_Batch_Eok N) Go.Proofs.Try.func9 (by kernel_rfl) (by decide) (fun _ hb => (TabOk.cons (record_Batch_ok1 hb) TabOk.nil)) (fun x y h => by rw [record_Batch_link]; exact h) (kRes_ok (s := (.tup [.str, (.int .i64)])) (m := 1))

abbrev porterref39_Batch_R : Type := ((List UInt8) × Int × Unit)

noncomputable def porterref39_Batch_body : Code := (Go.Proofs.Try.f10.body).getD .skip

noncomputable def porterref39_Batch_L : List (List Nat × List Nat) := [([0], [0]), ([0, 0, 1], [10, 0]), ([1, 0, 1], [0]), ([0, 0, 1, 0, 1], [2, 3]), ([1, 0, 1, 0, 1], [2, 3]), ([0, 1, 1], [0, 4]), ([0, 0, 1, 1, 1], [5, 0, 4]), ([0, 1, 0, 1, 1, 1], [5, 0, 4]), ([0, 0, 0, 0, 1, 0, 1, 1, 1], [18, 0, 5, 4]), ([1, 0, 0, 0, 1, 0, 1, 1, 1], [0, 5, 4]), ([1, 1, 0, 0, 0, 1, 0, 1, 1, 1], [4]), ([0, 0, 0, 1, 0, 0, 1, 0, 1, 1, 1], [7, 4, 6, 5, 0]), ([0, 0, 1, 0, 0, 1, 0, 0, 1, 0, 1, 1, 1], [30, 7, 4, 6, 5, 0]), ([1, 0, 1, 0, 0, 1, 0, 0, 1, 0, 1, 1, 1], [4, 6, 5, 0]), ([0, 0, 1, 0, 1, 0, 0, 1, 0, 0, 1, 0, 1, 1, 1], [2, 3]), ([1, 0, 1, 0, 1, 0, 0, 1, 0, 0, 1, 0, 1, 1, 1], [2, 3]), ([1, 1, 0, 0, 1, 0, 0, 1, 0, 1, 1, 1], [5, 0, 4]), ([0, 1, 0, 0, 1, 0, 1, 1, 1], [5, 0, 4]), ([1, 1, 0, 0, 1, 0, 1, 1, 1], [5, 0, 4]), ([1, 0, 1, 1, 1], [4]), ([0, 1, 1, 1, 1], [2, 3]), ([1, 1, 1, 1, 1], [2, 3])]

noncomputable def porterref39_Batch_E (N : Nat) : Env := mkEnv tys noGlob [(8, porterref39_Put_res N), (22, porterref08_Text_res N), (23, porterref07_Put_res N)] [] [] [] false [] []

theorem porterref39_Batch_Eok (N : Nat) : EnvOk Go.Proofs.Try.prog (porterref39_Batch_E N) := mkEnv_ok mixed tys_ok (FnsOk.cons (porterref39_Put_ct N) (FnsOk.cons (porterref08_Text_ct N) (FnsOk.cons (porterref07_Put_ct N) (FnsOk.nil)))) (ItsOk.nil)

noncomputable def porterref39_Batch_s1 (N : Nat) (l : (List (Int × ((List UInt8) × (Int × (Int × ((List UInt8) × Unit))))))) (out : (List UInt8)) (i : Int) (rec : (List UInt8) → Int → Option ((List UInt8) × Int × Unit)) (k0 : (List UInt8) → Int → Option ((List UInt8) × Int × Unit)) (k1 : (List UInt8) → Option ((List UInt8) × Int × Unit)) : Option ((List UInt8) × Int × Unit) :=
  cond (decide (i < (((List.length l) : Nat) : Int)))
  (cond (Go.Lift.inR i (List.length l))
    ((porterref39_Put N (List.getD l (Int.toNat i) ((0 : Int), (([] : List UInt8), ((0 : Int), ((0 : Int), (([] : List UInt8), ()))))))).bind fun y =>
      cond (y.2.1 != (0 : Int))
      (k0 ([] : List UInt8) y.2.1)
      ((porterref08_Text N y.1).bind fun y1 =>
        cond (decide (((List.length out) + (List.length y1)) ≤ 9223372036854775807))
        (rec (out ++ y1) (Go.IntKind.wrap Go.IntKind.i64 (i + (1 : Int))))
        (none)))
    (none))
  (k1 out)

noncomputable def porterref39_Batch_p1 (N : Nat) (l : (List (Int × ((List UInt8) × (Int × (Int × ((List UInt8) × Unit))))))) (out : (List UInt8)) (i : Int) (k0 : (List UInt8) → Int → Option ((List UInt8) × Int × Unit)) (k1 : (List UInt8) → Option ((List UInt8) × Int × Unit)) : Option ((List UInt8) × Int × Unit) :=
  iter (fun (v : ((List UInt8) × Int)) r => porterref39_Batch_s1 N l v.1 v.2 (fun out i => (r (out, i))) k0 k1) N (out, i)

noncomputable def porterref39_Batch_g1 (N : Nat) (i : (List (Int × ((List UInt8) × (Int × (Int × ((List UInt8) × Unit))))))) (v : ((List UInt8) × Int)) (r : ((List UInt8) × Int) → Option ((List UInt8) × Int × Unit)) (K : Ex → List A → Option ((List UInt8) × Int × Unit)) : Option ((List UInt8) × Int × Unit) :=
  porterref39_Batch_s1 N i v.1 v.2 (fun out i => (r (out, i))) (fun a0 a1 => (K .ret (mkS [(2, .v .str), (0, .v (.int .i64))] 33 (a0, a1, ())))) (fun a0 => (K (.exit 0) (mkS [(4, .v .str)] 32 (a0, ()))))

noncomputable def porterref39_Batch_h1 (N : Nat) : Hd ((List UInt8) × Int × Unit) := fun st K => (unS [(0, .v (.sl (.pair (.int .i64) (.pair .str (.pair (.int .i64) (.pair (.int .i64) (.pair .str .unit))))))), (3, .v .str), (0, .v (.int .i64))] 31 (restr [5, 0, 4] 0 st)).bind fun x => iter (fun v r => porterref39_Batch_g1 N ((fun x => x.1) x) v r K) N ((fun x => (x.2.1, x.2.2.1)) x)

noncomputable def porterref39_Batch_t1 (N : Nat) : Tab ((List UInt8) × Int × Unit) := []

theorem porterref39_Batch_ok1 {N : Nat} {c : Ctx} (hb : Base Go.Proofs.Try.prog (porterref39_Batch_E N) c) : CodeOk Go.Proofs.Try.prog c (nodeAt porterref39_Batch_body [0, 1, 0, 1, 1, 1]) (porterref39_Batch_h1 N) :=
  loop_ok (s := [(0, .v (.sl (.pair (.int .i64) (.pair .str (.pair (.int .i64) (.pair (.int .i64) (.pair .str .unit))))))), (3, .v .str), (0, .v (.int .i64))]) (m := 31) (porterref39_Batch_g1 N) [5, 0, 4] N (fun x => x.1) (fun x => (x.2.1, x.2.2.1)) (fun i v => (i, v.1, v.2, ())) (fun _ => rfl) (evN_sound hb N (porterref39_Batch_t1 N) porterref39_Batch_L porterref39_Batch_body TabOk.nil [0, 0, 1, 0, 1, 1, 1] _ rfl) (fun i v r K => by kernel_rfl)

noncomputable def porterref39_Batch (N : Nat) (l : (List (Int × ((List UInt8) × (Int × (Int × ((List UInt8) × Unit))))))) : Option ((List UInt8) × Int × Unit) :=
  cond (decide ((256 : Int) < (((List.length l) : Nat) : Int)))
  (some (([] : List UInt8), ((3 : Int), ())))
  ((porterref07_Put N (Go.IntKind.wrap Go.IntKind.u64 (((List.length l) : Nat) : Int))).bind fun y =>
    porterref39_Batch_p1 N l y (0 : Int)
    (fun x2 x3 => some (x2, (x3, ())))
    (fun out => some (out, ((0 : Int), ()))))

noncomputable def porterref39_Batch_t (N : Nat) : Tab ((List UInt8) × Int × Unit) := [([0, 1, 0, 1, 1, 1], porterref39_Batch_h1 N)]

theorem porterref39_Batch_link (N : Nat) (x : denS [(0, .v (.sl (.pair (.int .i64) (.pair .str (.pair (.int .i64) (.pair (.int .i64) (.pair .str .unit)))))))]) : evFX (porterref39_Batch_E N) N (porterref39_Batch_t N) porterref39_Batch_L Go.Proofs.Try.f10 (mkS [(0, .v (.sl (.pair (.int .i64) (.pair .str (.pair (.int .i64) (.pair (.int .i64) (.pair .str .unit)))))))] 0 x) (kRes (.tup [.str, (.int .i64)]) 1) = porterref39_Batch N x.1 := by kernel_rfl

noncomputable def porterref39_Batch_res (N : Nat) : List A → Res := resOf [(0, .v (.sl (.pair (.int .i64) (.pair .str (.pair (.int .i64) (.pair (.int .i64) (.pair .str .unit)))))))] (fun x => porterref39_Batch N x.1) (oRes (.tup [.str, (.int .i64)]) 1)

theorem porterref39_Batch_ct (N : Nat) : Contract Go.Proofs.Try.prog noGlob 10 (porterref39_Batch_res N) :=
  Contract.of (E := porterref39_Batch_E N) (H := porterref39_Batch_t N) (L := porterref39_Batch_L) (N := N) (body := porterref39_Batch_body) (K := (kRes (.tup [.str, (.int .i64)]) 1)) (porterref39_Batch_Eok N) Go.Proofs.Try.func10 (by kernel_rfl) (by decide) (fun _ hb => (TabOk.cons (porterref39_Batch_ok1 hb) TabOk.nil)) (fun x y h => by rw [porterref39_Batch_link]; exact h) (kRes_ok (s := (.tup [.str, (.int .i64)])) (m := 1))

abbrev porterlaw39_RecordPuts_R : Type := Bool

noncomputable def porterlaw39_RecordPuts_body : Code := (Go.Proofs.Try.f3.body).getD .skip

noncomputable def porterlaw39_RecordPuts_L : List (List Nat × List Nat) := [([0], [0]), ([0, 0, 1], [14, 0]), ([1, 0, 1], [0]), ([0, 0, 1, 0, 1], [2]), ([1, 0, 1, 0, 1], [2]), ([0, 0, 1, 1], [3, 0]), ([0, 1, 0, 1, 1], [3, 0]), ([0, 0, 0, 0, 1, 0, 1, 1], [23, 0, 3]), ([1, 0, 0, 0, 1, 0, 1, 1], [0, 3]), ([1, 1, 0, 0, 0, 1, 0, 1, 1], [0]), ([0, 0, 0, 1, 0, 0, 1, 0, 1, 1], [0, 3, 4, 5]), ([0, 1, 0, 0, 1, 0, 0, 1, 0, 1, 1], [4, 6, 5, 7, 3, 0]), ([0, 1, 1, 0, 0, 1, 0, 0, 1, 0, 1, 1], [49, 3, 0]), ([1, 1, 1, 0, 0, 1, 0, 0, 1, 0, 1, 1], [3, 0]), ([0, 0, 1, 1, 1, 0, 0, 1, 0, 0, 1, 0, 1, 1], [2]), ([1, 0, 1, 1, 1, 0, 0, 1, 0, 0, 1, 0, 1, 1], [2]), ([0, 1, 0, 0, 1, 0, 1, 1], [3, 0]), ([1, 1, 0, 0, 1, 0, 1, 1], [3, 0]), ([1, 0, 1, 1], [0]), ([0, 1, 1, 1], [0, 8, 9]), ([0, 1, 1, 1, 1], [8, 10, 9, 11]), ([0, 1, 1, 1, 1, 1], [2]), ([1, 1, 1, 1, 1, 1], [2])]

noncomputable def porterlaw39_RecordPuts_E (N : Nat) : Env := mkEnv tys noGlob [(10, porterref39_Batch_res N), (9, record_Batch_res N), (8, porterref39_Put_res N), (6, porterlaw39_works_res N), (7, record_Put_res N)] [] [] [] false [] []

theorem porterlaw39_RecordPuts_Eok (N : Nat) : EnvOk Go.Proofs.Try.prog (porterlaw39_RecordPuts_E N) := mkEnv_ok mixed tys_ok (FnsOk.cons (porterref39_Batch_ct N) (FnsOk.cons (record_Batch_ct N) (FnsOk.cons (porterref39_Put_ct N) (FnsOk.cons (porterlaw39_works_ct N) (FnsOk.cons (record_Put_ct N) (FnsOk.nil)))))) (ItsOk.nil)

noncomputable def porterlaw39_RecordPuts_p3 (N : Nat) (l : (List (Int × ((List UInt8) × (Int × (Int × ((List UInt8) × Unit))))))) (i : Int) (k0 : Option Bool) (k1 : Option Bool) : Option Bool :=
  cond (decide (i < (((List.length l) : Nat) : Int)))
  (cond (decide (i < (20 : Int)))
    (k0)
    (k1))
  (k1)

noncomputable def porterlaw39_RecordPuts_g3 (N : Nat) (x : denS [(0, .v (.sl (.pair (.int .i64) (.pair .str (.pair (.int .i64) (.pair (.int .i64) (.pair .str .unit))))))), (2, .v (.int .i64))]) (K : Ex → List A → Option Bool) : Option Bool :=
  porterlaw39_RecordPuts_p3 N x.1 x.2.1 (K .normal (mkS [(0, .v (.sl (.pair (.int .i64) (.pair .str (.pair (.int .i64) (.pair (.int .i64) (.pair .str .unit))))))), (2, .v (.int .i64))] 67 (x.1, x.2.1, ()))) (K (.exit 0) (mkS [(0, .v (.sl (.pair (.int .i64) (.pair .str (.pair (.int .i64) (.pair (.int .i64) (.pair .str .unit)))))))] 70 (x.1, ())))

noncomputable def porterlaw39_RecordPuts_h3 (N : Nat) : Hd Bool := fun st K => (unS [(0, .v (.sl (.pair (.int .i64) (.pair .str (.pair (.int .i64) (.pair (.int .i64) (.pair .str .unit))))))), (2, .v (.int .i64))] 67 (restr [3, 0] 0 st)).bind fun x => porterlaw39_RecordPuts_g3 N x K

noncomputable def porterlaw39_RecordPuts_t3 (N : Nat) : Tab Bool := []

theorem porterlaw39_RecordPuts_ok3 {N : Nat} {c : Ctx} (hb : Base Go.Proofs.Try.prog (porterlaw39_RecordPuts_E N) c) : CodeOk Go.Proofs.Try.prog c (nodeAt porterlaw39_RecordPuts_body [0, 0, 0, 1, 0, 1, 1]) (porterlaw39_RecordPuts_h3 N) :=
  piece_ok (s := [(0, .v (.sl (.pair (.int .i64) (.pair .str (.pair (.int .i64) (.pair (.int .i64) (.pair .str .unit))))))), (2, .v (.int .i64))]) (m := 67) (g := porterlaw39_RecordPuts_g3 N) [3, 0] (evN_sound hb N (porterlaw39_RecordPuts_t3 N) porterlaw39_RecordPuts_L porterlaw39_RecordPuts_body TabOk.nil [0, 0, 0, 1, 0, 1, 1] _ rfl) (fun x K => by kernel_rfl)

noncomputable def porterlaw39_RecordPuts_p5 (N : Nat) (l : (List (Int × ((List UInt8) × (Int × (Int × ((List UInt8) × Unit))))))) (i : Int) (a : (List UInt8)) (e : Int) (b : (List UInt8)) (f : Int) (k0 : Bool → Option Bool) : Option Bool :=
  cond (!(a == b))
  (k0 true)
  (k0 (e != f))

noncomputable def porterlaw39_RecordPuts_g5 (N : Nat) (x : denS [(0, .v (.sl (.pair (.int .i64) (.pair .str (.pair (.int .i64) (.pair (.int .i64) (.pair .str .unit))))))), (2, .v (.int .i64)), (0, .v .str), (0, .v (.int .i64)), (0, .v .str), (0, .v (.int .i64))]) (K : Ex → List A → Option Bool) : Option Bool :=
  porterlaw39_RecordPuts_p5 N x.1 x.2.1 x.2.2.1 x.2.2.2.1 x.2.2.2.2.1 x.2.2.2.2.2.1 (fun a2 => (K .normal (mkS [(0, .v (.sl (.pair (.int .i64) (.pair .str (.pair (.int .i64) (.pair (.int .i64) (.pair .str .unit))))))), (2, .v (.int .i64)), (45, .v .bool)] 21 (x.1, x.2.1, a2, ()))))

noncomputable def porterlaw39_RecordPuts_h5 (N : Nat) : Hd Bool := fun st K => (unS [(0, .v (.sl (.pair (.int .i64) (.pair .str (.pair (.int .i64) (.pair (.int .i64) (.pair .str .unit))))))), (2, .v (.int .i64)), (0, .v .str), (0, .v (.int .i64)), (0, .v .str), (0, .v (.int .i64))] 63 (restr [4, 6, 5, 7, 3, 0] 0 st)).bind fun x => porterlaw39_RecordPuts_g5 N x K

noncomputable def porterlaw39_RecordPuts_t5 (N : Nat) : Tab Bool := []

theorem porterlaw39_RecordPuts_ok5 {N : Nat} {c : Ctx} (hb : Base Go.Proofs.Try.prog (porterlaw39_RecordPuts_E N) c) : CodeOk Go.Proofs.Try.prog c (nodeAt porterlaw39_RecordPuts_body [0, 1, 1, 0, 0, 1, 0, 0, 1, 0, 1, 1]) (porterlaw39_RecordPuts_h5 N) :=
  piece_ok (s := [(0, .v (.sl (.pair (.int .i64) (.pair .str (.pair (.int .i64) (.pair (.int .i64) (.pair .str .unit))))))), (2, .v (.int .i64)), (0, .v .str), (0, .v (.int .i64)), (0, .v .str), (0, .v (.int .i64))]) (m := 63) (g := porterlaw39_RecordPuts_g5 N) [4, 6, 5, 7, 3, 0] (evN_sound hb N (porterlaw39_RecordPuts_t5 N) porterlaw39_RecordPuts_L porterlaw39_RecordPuts_body TabOk.nil [0, 1, 1, 0, 0, 1, 0, 0, 1, 0, 1, 1] _ rfl) (fun x K => by kernel_rfl)

noncomputable def porterlaw39_RecordPuts_p4 (N : Nat) (l : (List (Int × ((List UInt8) × (Int × (Int × ((List UInt8) × Unit))))))) (i : Int) (k0 : Bool → Option Bool) (k1 : Option Bool) : Option Bool :=
  cond (Go.Lift.inR i (List.length l))
  ((record_Put N (List.getD l (Int.toNat i) ((0 : Int), (([] : List UInt8), ((0 : Int), ((0 : Int), (([] : List UInt8), ()))))))).bind fun y =>
    cond (Go.Lift.inR i (List.length l))
    ((porterref39_Put N (List.getD l (Int.toNat i) ((0 : Int), (([] : List UInt8), ((0 : Int), ((0 : Int), (([] : List UInt8), ()))))))).bind fun y1 =>
      porterlaw39_RecordPuts_p5 N l i y.1 y.2.1 y1.1 y1.2.1
      (fun x49 => cond x49
        (k0 false)
        (k1)))
    (none))
  (none)

noncomputable def porterlaw39_RecordPuts_g4 (N : Nat) (x : denS [(0, .v (.sl (.pair (.int .i64) (.pair .str (.pair (.int .i64) (.pair (.int .i64) (.pair .str .unit))))))), (2, .v (.int .i64))]) (K : Ex → List A → Option Bool) : Option Bool :=
  porterlaw39_RecordPuts_p4 N x.1 x.2.1 (fun a0 => (K .ret (mkS [(2, .v .bool)] 68 (a0, ())))) (K .normal (mkS [(0, .v (.sl (.pair (.int .i64) (.pair .str (.pair (.int .i64) (.pair (.int .i64) (.pair .str .unit))))))), (2, .v (.int .i64))] 67 (x.1, x.2.1, ())))

noncomputable def porterlaw39_RecordPuts_h4 (N : Nat) : Hd Bool := fun st K => (unS [(0, .v (.sl (.pair (.int .i64) (.pair .str (.pair (.int .i64) (.pair (.int .i64) (.pair .str .unit))))))), (2, .v (.int .i64))] 67 (restr [0, 3] 0 st)).bind fun x => porterlaw39_RecordPuts_g4 N x K

noncomputable def porterlaw39_RecordPuts_t4 (N : Nat) : Tab Bool := [([0, 1, 1, 0, 0, 1, 0, 0, 1, 0, 1, 1], porterlaw39_RecordPuts_h5 N)]

theorem porterlaw39_RecordPuts_ok4 {N : Nat} {c : Ctx} (hb : Base Go.Proofs.Try.prog (porterlaw39_RecordPuts_E N) c) : CodeOk Go.Proofs.Try.prog c (nodeAt porterlaw39_RecordPuts_body [0, 1, 0, 0, 1, 0, 1, 1]) (porterlaw39_RecordPuts_h4 N) :=
  piece_ok (s := [(0, .v (.sl (.pair (.int .i64) (.pair .str (.pair (.int .i64) (.pair (.int .i64) (.pair .str .unit))))))), (2, .v (.int .i64))]) (m := 67) (g := porterlaw39_RecordPuts_g4 N) [0, 3] (evN_sound hb N (porterlaw39_RecordPuts_t4 N) porterlaw39_RecordPuts_L porterlaw39_RecordPuts_body (TabOk.cons (porterlaw39_RecordPuts_ok5 hb) TabOk.nil) [0, 1, 0, 0, 1, 0, 1, 1] _ rfl) (fun x K => by kernel_rfl)

noncomputable def porterlaw39_RecordPuts_s2 (N : Nat) (l : (List (Int × ((List UInt8) × (Int × (Int × ((List UInt8) × Unit))))))) (i : Int) (rec : Int → Option Bool) (k0 : Bool → Option Bool) (k1 : Option Bool) : Option Bool :=
  porterlaw39_RecordPuts_p3 N l i
  (porterlaw39_RecordPuts_p4 N l i
    (fun x2 => k0 x2)
    (rec (Go.IntKind.wrap Go.IntKind.i64 (i + (1 : Int)))))
  (k1)

noncomputable def porterlaw39_RecordPuts_p2 (N : Nat) (l : (List (Int × ((List UInt8) × (Int × (Int × ((List UInt8) × Unit))))))) (i : Int) (k0 : Bool → Option Bool) (k1 : Option Bool) : Option Bool :=
  iter (fun (v : Int) r => porterlaw39_RecordPuts_s2 N l v (fun i => (r i)) k0 k1) N i

noncomputable def porterlaw39_RecordPuts_g2 (N : Nat) (i : (List (Int × ((List UInt8) × (Int × (Int × ((List UInt8) × Unit))))))) (v : Int) (r : Int → Option Bool) (K : Ex → List A → Option Bool) : Option Bool :=
  porterlaw39_RecordPuts_s2 N i v (fun i => (r i)) (fun a0 => (K .ret (mkS [(2, .v .bool)] 68 (a0, ())))) (K (.exit 0) (mkS [(0, .v (.sl (.pair (.int .i64) (.pair .str (.pair (.int .i64) (.pair (.int .i64) (.pair .str .unit)))))))] 70 (i, ())))

noncomputable def porterlaw39_RecordPuts_h2 (N : Nat) : Hd Bool := fun st K => (unS [(0, .v (.sl (.pair (.int .i64) (.pair .str (.pair (.int .i64) (.pair (.int .i64) (.pair .str .unit))))))), (2, .v (.int .i64))] 67 (restr [3, 0] 0 st)).bind fun x => iter (fun v r => porterlaw39_RecordPuts_g2 N ((fun x => x.1) x) v r K) N ((fun x => x.2.1) x)

noncomputable def porterlaw39_RecordPuts_t2 (N : Nat) : Tab Bool := [([0, 0, 0, 1, 0, 1, 1], porterlaw39_RecordPuts_h3 N), ([0, 1, 0, 0, 1, 0, 1, 1], porterlaw39_RecordPuts_h4 N)]

theorem porterlaw39_RecordPuts_ok2 {N : Nat} {c : Ctx} (hb : Base Go.Proofs.Try.prog (porterlaw39_RecordPuts_E N) c) : CodeOk Go.Proofs.Try.prog c (nodeAt porterlaw39_RecordPuts_body [0, 1, 0, 1, 1]) (porterlaw39_RecordPuts_h2 N) :=
  loop_ok (s := [(0, .v (.sl (.pair (.int .i64) (.pair .str (.pair (.int .i64) (.pair (.int .i64) (.pair .str .unit))))))), (2, .v (.int .i64))]) (m := 67) (porterlaw39_RecordPuts_g2 N) [3, 0] N (fun x => x.1) (fun x => x.2.1) (fun i v => (i, v, ())) (fun _ => rfl) (evN_sound hb N (porterlaw39_RecordPuts_t2 N) porterlaw39_RecordPuts_L porterlaw39_RecordPuts_body (TabOk.cons (porterlaw39_RecordPuts_ok3 hb) (TabOk.cons (porterlaw39_RecordPuts_ok4 hb) TabOk.nil)) [0, 0, 1, 0, 1, 1] _ rfl) (fun i v r K => by kernel_rfl)

noncomputable def porterlaw39_RecordPuts_p1 (N : Nat) (l : (List (Int × ((List UInt8) × (Int × (Int × ((List UInt8) × Unit))))))) (k0 : Bool → Option Bool) (k1 : Option Bool) : Option Bool :=
  porterlaw39_RecordPuts_p2 N l (0 : Int)
  (fun x2 => k0 x2)
  (k1)

noncomputable def porterlaw39_RecordPuts_g1 (N : Nat) (x : denS [(0, .v (.sl (.pair (.int .i64) (.pair .str (.pair (.int .i64) (.pair (.int .i64) (.pair .str .unit)))))))]) (K : Ex → List A → Option Bool) : Option Bool :=
  porterlaw39_RecordPuts_p1 N x.1 (fun a0 => (K .ret (mkS [(2, .v .bool)] 68 (a0, ())))) (K .normal (mkS [(0, .v (.sl (.pair (.int .i64) (.pair .str (.pair (.int .i64) (.pair (.int .i64) (.pair .str .unit)))))))] 70 (x.1, ())))

noncomputable def porterlaw39_RecordPuts_h1 (N : Nat) : Hd Bool := fun st K => (unS [(0, .v (.sl (.pair (.int .i64) (.pair .str (.pair (.int .i64) (.pair (.int .i64) (.pair .str .unit)))))))] 70 (restr [0] 0 st)).bind fun x => porterlaw39_RecordPuts_g1 N x K

noncomputable def porterlaw39_RecordPuts_t1 (N : Nat) : Tab Bool := [([0, 1, 0, 1, 1], porterlaw39_RecordPuts_h2 N)]

theorem porterlaw39_RecordPuts_ok1 {N : Nat} {c : Ctx} (hb : Base Go.Proofs.Try.prog (porterlaw39_RecordPuts_E N) c) : CodeOk Go.Proofs.Try.prog c (nodeAt porterlaw39_RecordPuts_body [0, 1, 1]) (porterlaw39_RecordPuts_h1 N) :=
  piece_ok (s := [(0, .v (.sl (.pair (.int .i64) (.pair .str (.pair (.int .i64) (.pair (.int .i64) (.pair .str .unit)))))))]) (m := 70) (g := porterlaw39_RecordPuts_g1 N) [0] (evN_sound hb N (porterlaw39_RecordPuts_t1 N) porterlaw39_RecordPuts_L porterlaw39_RecordPuts_body (TabOk.cons (porterlaw39_RecordPuts_ok2 hb) TabOk.nil) [0, 1, 1] _ rfl) (fun x K => by kernel_rfl)

noncomputable def porterlaw39_RecordPuts (N : Nat) (l : (List (Int × ((List UInt8) × (Int × (Int × ((List UInt8) × Unit))))))) : Option Bool :=
  cond (decide ((300 : Int) < (((List.length l) : Nat) : Int)))
  ((porterlaw39_works N).bind fun y =>
    some y)
  (porterlaw39_RecordPuts_p1 N l
    (fun x2 => some x2)
    ((record_Batch N l).bind fun y1 =>
      (porterref39_Batch N l).bind fun y2 =>
      cond (y1.1 == y2.1)
      (cond (y1.2.1 == y2.2.1)
        ((porterlaw39_works N).bind fun y3 =>
          some y3)
        (some false))
      (some false)))

noncomputable def porterlaw39_RecordPuts_t (N : Nat) : Tab Bool := [([0, 1, 1], porterlaw39_RecordPuts_h1 N)]

theorem porterlaw39_RecordPuts_link (N : Nat) (x : denS [(0, .v (.sl (.pair (.int .i64) (.pair .str (.pair (.int .i64) (.pair (.int .i64) (.pair .str .unit)))))))]) : evFX (porterlaw39_RecordPuts_E N) N (porterlaw39_RecordPuts_t N) porterlaw39_RecordPuts_L Go.Proofs.Try.f3 (mkS [(0, .v (.sl (.pair (.int .i64) (.pair .str (.pair (.int .i64) (.pair (.int .i64) (.pair .str .unit)))))))] 0 x) (kRes (.v .bool) 1) = porterlaw39_RecordPuts N x.1 := by kernel_rfl

noncomputable def porterlaw39_RecordPuts_res (N : Nat) : List A → Res := resOf [(0, .v (.sl (.pair (.int .i64) (.pair .str (.pair (.int .i64) (.pair (.int .i64) (.pair .str .unit)))))))] (fun x => porterlaw39_RecordPuts N x.1) (oRes (.v .bool) 1)

theorem porterlaw39_RecordPuts_ct (N : Nat) : Contract Go.Proofs.Try.prog noGlob 3 (porterlaw39_RecordPuts_res N) :=
  Contract.of (E := porterlaw39_RecordPuts_E N) (H := porterlaw39_RecordPuts_t N) (L := porterlaw39_RecordPuts_L) (N := N) (body := porterlaw39_RecordPuts_body) (K := (kRes (.v .bool) 1)) (porterlaw39_RecordPuts_Eok N) Go.Proofs.Try.func3 (by kernel_rfl) (by decide) (fun _ hb => (TabOk.cons (porterlaw39_RecordPuts_ok1 hb) TabOk.nil)) (fun x y h => by rw [porterlaw39_RecordPuts_link]; exact h) (kRes_ok (s := (.v .bool)) (m := 1))

abbrev porterref08_R_Fail_R : Type := ((List UInt8) × (Int × Unit))

noncomputable def porterref08_R_Fail_body : Code := (Go.Proofs.Try.f38.body).getD .skip

noncomputable def porterref08_R_Fail_L : List (List Nat × List Nat) := [([0], [2, 1, 4]), ([0, 0, 1], [11, 2, 4, 1]), ([1, 0, 1], [1, 4]), ([0, 0, 1, 0, 1], [4]), ([1, 0, 1, 0, 1], [4]), ([0, 1, 1], [4]), ([1, 1, 1], [4])]

noncomputable def porterref08_R_Fail_E (N : Nat) : Env := mkEnv tys noGlob [] [] [] [] false [] []

theorem porterref08_R_Fail_Eok (N : Nat) : EnvOk Go.Proofs.Try.prog (porterref08_R_Fail_E N) := mkEnv_ok mixed tys_ok (FnsOk.nil) (ItsOk.nil)

noncomputable def porterref08_R_Fail_p2 (N : Nat) (e : Int) (r_ : ((List UInt8) × (Int × Unit))) (x4 : ((List UInt8) × (Int × Unit))) (k0 : Bool → Option ((List UInt8) × (Int × Unit))) : Option ((List UInt8) × (Int × Unit)) :=
  cond (r_.2.1 != (0 : Int))
  (k0 true)
  (k0 (e == (0 : Int)))

noncomputable def porterref08_R_Fail_g2 (N : Nat) (x : denS [(1, .v (.int .i64)), (0, .box (.pair .str (.pair (.int .i64) .unit))), (1, .box (.pair .str (.pair (.int .i64) .unit)))]) (K : Ex → List A → Option ((List UInt8) × (Int × Unit))) : Option ((List UInt8) × (Int × Unit)) :=
  porterref08_R_Fail_p2 N x.1 x.2.1 x.2.2.1 (fun a3 => (K .normal (mkS [(1, .v (.int .i64)), (0, .box (.pair .str (.pair (.int .i64) .unit))), (1, .box (.pair .str (.pair (.int .i64) .unit))), (6, .v .bool)] 3 (x.1, x.2.1, x.2.2.1, a3, ()))))

noncomputable def porterref08_R_Fail_h2 (N : Nat) : Hd ((List UInt8) × (Int × Unit)) := fun st K => (unS [(1, .v (.int .i64)), (0, .box (.pair .str (.pair (.int .i64) .unit))), (1, .box (.pair .str (.pair (.int .i64) .unit)))] 10 (restr [2, 1, 4] 0 st)).bind fun x => porterref08_R_Fail_g2 N x K

noncomputable def porterref08_R_Fail_t2 (N : Nat) : Tab ((List UInt8) × (Int × Unit)) := []

theorem porterref08_R_Fail_ok2 {N : Nat} {c : Ctx} (hb : Base Go.Proofs.Try.prog (porterref08_R_Fail_E N) c) : CodeOk Go.Proofs.Try.prog c (nodeAt porterref08_R_Fail_body [0, 0, 1]) (porterref08_R_Fail_h2 N) :=
  piece_ok (s := [(1, .v (.int .i64)), (0, .box (.pair .str (.pair (.int .i64) .unit))), (1, .box (.pair .str (.pair (.int .i64) .unit)))]) (m := 10) (g := porterref08_R_Fail_g2 N) [2, 1, 4] (evN_sound hb N (porterref08_R_Fail_t2 N) porterref08_R_Fail_L porterref08_R_Fail_body TabOk.nil [0, 0, 1] _ rfl) (fun x K => by kernel_rfl)

noncomputable def porterref08_R_Fail_p1 (N : Nat) (e : Int) (r_ : ((List UInt8) × (Int × Unit))) (x4 : ((List UInt8) × (Int × Unit))) (k0 : Option ((List UInt8) × (Int × Unit))) (k1 : Option ((List UInt8) × (Int × Unit))) : Option ((List UInt8) × (Int × Unit)) :=
  porterref08_R_Fail_p2 N e r_ x4
  (fun x11 => cond x11
    (k0)
    (k1))

noncomputable def porterref08_R_Fail_g1 (N : Nat) (x : denS [(1, .v (.int .i64)), (0, .box (.pair .str (.pair (.int .i64) .unit))), (1, .box (.pair .str (.pair (.int .i64) .unit)))]) (K : Ex → List A → Option ((List UInt8) × (Int × Unit))) : Option ((List UInt8) × (Int × Unit)) :=
  porterref08_R_Fail_p1 N x.1 x.2.1 x.2.2.1 (K .ret (mkS [(4, .box (.pair .str (.pair (.int .i64) .unit)))] 10 (x.2.1, ()))) (K .normal (mkS [(1, .v (.int .i64)), (2, .box (.pair .str (.pair (.int .i64) .unit)))] 10 (x.1, x.2.2.1, ())))

noncomputable def porterref08_R_Fail_h1 (N : Nat) : Hd ((List UInt8) × (Int × Unit)) := fun st K => (unS [(1, .v (.int .i64)), (0, .box (.pair .str (.pair (.int .i64) .unit))), (1, .box (.pair .str (.pair (.int .i64) .unit)))] 10 (restr [2, 1, 4] 0 st)).bind fun x => porterref08_R_Fail_g1 N x K

noncomputable def porterref08_R_Fail_t1 (N : Nat) : Tab ((List UInt8) × (Int × Unit)) := [([0, 0, 1], porterref08_R_Fail_h2 N)]

theorem porterref08_R_Fail_ok1 {N : Nat} {c : Ctx} (hb : Base Go.Proofs.Try.prog (porterref08_R_Fail_E N) c) : CodeOk Go.Proofs.Try.prog c (nodeAt porterref08_R_Fail_body [0, 1]) (porterref08_R_Fail_h1 N) :=
  piece_ok (s := [(1, .v (.int .i64)), (0, .box (.pair .str (.pair (.int .i64) .unit))), (1, .box (.pair .str (.pair (.int .i64) .unit)))]) (m := 10) (g := porterref08_R_Fail_g1 N) [2, 1, 4] (evN_sound hb N (porterref08_R_Fail_t1 N) porterref08_R_Fail_L porterref08_R_Fail_body (TabOk.cons (porterref08_R_Fail_ok2 hb) TabOk.nil) [0, 1] _ rfl) (fun x K => by kernel_rfl)

noncomputable def porterref08_R_Fail (N : Nat) (r_ : ((List UInt8) × (Int × Unit))) (e : Int) : Option ((List UInt8) × (Int × Unit)) :=
  porterref08_R_Fail_p1 N e r_ (([] : List UInt8), ((0 : Int), ()))
  (some r_)
  (some (([] : List UInt8), (e, ())))

noncomputable def porterref08_R_Fail_t (N : Nat) : Tab ((List UInt8) × (Int × Unit)) := [([0, 1], porterref08_R_Fail_h1 N)]

theorem porterref08_R_Fail_link (N : Nat) (x : denS [(0, .v (.pair .str (.pair (.int .i64) .unit))), (0, .v (.int .i64))]) : evFX (porterref08_R_Fail_E N) N (porterref08_R_Fail_t N) porterref08_R_Fail_L Go.Proofs.Try.f38 (mkS [(0, .v (.pair .str (.pair (.int .i64) .unit))), (0, .v (.int .i64))] 0 x) (kRes (.v (.pair .str (.pair (.int .i64) .unit))) 2) = porterref08_R_Fail N x.1 x.2.1 := by kernel_rfl

noncomputable def porterref08_R_Fail_res (N : Nat) : List A → Res := resOf [(0, .v (.pair .str (.pair (.int .i64) .unit))), (0, .v (.int .i64))] (fun x => porterref08_R_Fail N x.1 x.2.1) (oRes (.v (.pair .str (.pair (.int .i64) .unit))) 2)

theorem porterref08_R_Fail_ct (N : Nat) : Contract Go.Proofs.Try.prog noGlob 38 (porterref08_R_Fail_res N) :=
  Contract.of (E := porterref08_R_Fail_E N) (H := porterref08_R_Fail_t N) (L := porterref08_R_Fail_L) (N := N) (body := porterref08_R_Fail_body) (K := (kRes (.v (.pair .str (.pair (.int .i64) .unit))) 2)) (porterref08_R_Fail_Eok N) Go.Proofs.Try.func38 (by kernel_rfl) (by decide) (fun _ hb => (TabOk.cons (porterref08_R_Fail_ok1 hb) TabOk.nil)) (fun x y h => by rw [porterref08_R_Fail_link]; exact h) (kRes_ok (s := (.v (.pair .str (.pair (.int .i64) .unit)))) (m := 2))

abbrev porterref08_R_Byte_R : Type := (Int × ((List UInt8) × (Int × Unit)) × Unit)

noncomputable def porterref08_R_Byte_body : Code := (Go.Proofs.Try.f32.body).getD .skip

noncomputable def porterref08_R_Byte_L : List (List Nat × List Nat) := [([0], [1, 3]), ([0, 0, 1], [6, 1, 3]), ([1, 0, 1], [1, 3]), ([0, 0, 1, 0, 1], [2, 3]), ([1, 0, 1, 0, 1], [2, 3]), ([0, 0, 1, 1], [10, 1, 3]), ([1, 0, 1, 1], [1, 3]), ([0, 0, 1, 0, 1, 1], [2, 3]), ([1, 0, 1, 0, 1, 1], [2, 3]), ([0, 1, 1, 1], [2, 3]), ([1, 1, 1, 1], [2, 3])]

noncomputable def porterref08_R_Byte_E (N : Nat) : Env := mkEnv tys noGlob [(38, porterref08_R_Fail_res N)] [] [] [] false [] []

theorem porterref08_R_Byte_Eok (N : Nat) : EnvOk Go.Proofs.Try.prog (porterref08_R_Byte_E N) := mkEnv_ok mixed tys_ok (FnsOk.cons (porterref08_R_Fail_ct N) (FnsOk.nil)) (ItsOk.nil)

noncomputable def porterref08_R_Byte (N : Nat) (r_ : ((List UInt8) × (Int × Unit))) : Option (Int × ((List UInt8) × (Int × Unit)) × Unit) :=
  cond (r_.2.1 != (0 : Int))
  (some ((0 : Int), (r_, ())))
  (cond (r_.1 == ([] : List UInt8))
    ((porterref08_R_Fail N r_ (1 : Int)).bind fun y =>
      some ((0 : Int), (y, ())))
    (cond (Go.Lift.inR (0 : Int) (List.length r_.1))
      (cond (decide (((0 : Int) ≤ (1 : Int)) ∧ ((1 : Int) ≤ (((List.length r_.1) : Nat) : Int))))
        (some ((((UInt8.toNat (List.getD r_.1 0 (0 : UInt8))) : Nat) : Int), (((Go.Lift.cut r_.1 1 (List.length r_.1)), ((0 : Int), ())), ())))
        (none))
      (none)))

noncomputable def porterref08_R_Byte_t (N : Nat) : Tab (Int × ((List UInt8) × (Int × Unit)) × Unit) := []

theorem porterref08_R_Byte_link (N : Nat) (x : denS [(0, .v (.pair .str (.pair (.int .i64) .unit)))]) : evFX (porterref08_R_Byte_E N) N (porterref08_R_Byte_t N) porterref08_R_Byte_L Go.Proofs.Try.f32 (mkS [(0, .v (.pair .str (.pair (.int .i64) .unit)))] 0 x) (kRes (.tup [(.int .u8), (.pair .str (.pair (.int .i64) .unit))]) 1) = porterref08_R_Byte N x.1 := by kernel_rfl

noncomputable def porterref08_R_Byte_res (N : Nat) : List A → Res := resOf [(0, .v (.pair .str (.pair (.int .i64) .unit)))] (fun x => porterref08_R_Byte N x.1) (oRes (.tup [(.int .u8), (.pair .str (.pair (.int .i64) .unit))]) 1)

theorem porterref08_R_Byte_ct (N : Nat) : Contract Go.Proofs.Try.prog noGlob 32 (porterref08_R_Byte_res N) :=
  Contract.of (E := porterref08_R_Byte_E N) (H := porterref08_R_Byte_t N) (L := porterref08_R_Byte_L) (N := N) (body := porterref08_R_Byte_body) (K := (kRes (.tup [(.int .u8), (.pair .str (.pair (.int .i64) .unit))]) 1)) (porterref08_R_Byte_Eok N) Go.Proofs.Try.func32 (by kernel_rfl) (by decide) (fun _ hb => TabOk.nil) (fun x y h => by rw [porterref08_R_Byte_link]; exact h) (kRes_ok (s := (.tup [(.int .u8), (.pair .str (.pair (.int .i64) .unit))])) (m := 1))

abbrev porterref07_Take_R : Type := (Int × Int × Int × Unit)

noncomputable def porterref07_Take_body : Code := (Go.Proofs.Try.f53.body).getD .skip

noncomputable def porterref07_Take_L : List (List Nat × List Nat) := [([0], [0]), ([0, 1], [5, 0]), ([0, 0, 1, 1], [5, 0]), ([0, 0, 0, 0, 0, 1, 1], [21, 5, 0]), ([1, 0, 0, 0, 0, 1, 1], [5, 0]), ([1, 1, 0, 0, 0, 0, 1, 1], [5, 0]), ([0, 1, 0, 0, 0, 1, 1], [5, 0]), ([1, 0, 0, 0, 1, 1], [5, 0]), ([0, 1, 1], [5, 0]), ([0, 0, 1, 1, 1], [25, 5, 0]), ([1, 0, 1, 1, 1], [5, 0]), ([0, 0, 1, 0, 1, 1, 1], [2, 3, 4]), ([1, 0, 1, 0, 1, 1, 1], [2, 3, 4]), ([0, 0, 1, 1, 1, 1], [29, 5, 0]), ([1, 0, 1, 1, 1, 1], [5, 0]), ([0, 0, 1, 0, 1, 1, 1, 1], [2, 3, 4]), ([1, 0, 1, 0, 1, 1, 1, 1], [2, 3, 4]), ([0, 1, 1, 1, 1, 1], [5, 6, 0]), ([0, 0, 1, 1, 1, 1, 1, 1], [7, 6, 0, 5]), ([0, 1, 0, 1, 1, 1, 1, 1, 1], [7, 6, 0, 5]), ([0, 0, 0, 0, 1, 0, 1, 1, 1, 1, 1, 1], [32, 6, 0, 7, 5]), ([1, 0, 0, 0, 1, 0, 1, 1, 1, 1, 1, 1], [6, 0, 7, 5]), ([1, 1, 0, 0, 0, 1, 0, 1, 1, 1, 1, 1, 1], [6, 0, 5]), ([0, 0, 0, 0, 1, 0, 0, 1, 0, 1, 1, 1, 1, 1, 1], [36, 6, 0, 7, 5]), ([1, 0, 0, 0, 1, 0, 0, 1, 0, 1, 1, 1, 1, 1, 1], [6, 0, 7, 5]), ([0, 0, 1, 0, 0, 0, 1, 0, 0, 1, 0, 1, 1, 1, 1, 1, 1], [2, 3, 4]), ([1, 0, 1, 0, 0, 0, 1, 0, 0, 1, 0, 1, 1, 1, 1, 1, 1], [2, 3, 4]), ([1, 0, 0, 1, 0, 0, 1, 0, 1, 1, 1, 1, 1, 1], [7, 6, 0, 5]), ([0, 1, 0, 0, 1, 0, 1, 1, 1, 1, 1, 1], [7, 6, 0, 5]), ([1, 1, 0, 0, 1, 0, 1, 1, 1, 1, 1, 1], [7, 6, 0, 5]), ([1, 0, 1, 1, 1, 1, 1, 1], [6, 0, 5]), ([0, 0, 1, 1, 1, 1, 1, 1, 1], [51, 6, 5]), ([1, 0, 1, 1, 1, 1, 1, 1, 1], [6, 5]), ([0, 0, 1, 0, 1, 1, 1, 1, 1, 1, 1], [2, 3, 4]), ([1, 0, 1, 0, 1, 1, 1, 1, 1, 1, 1], [2, 3, 4]), ([0, 1, 1, 1, 1, 1, 1, 1, 1], [2, 3, 4]), ([1, 1, 1, 1, 1, 1, 1, 1, 1], [2, 3, 4])]

noncomputable def porterref07_Take_E (N : Nat) : Env := mkEnv tys noGlob [(23, porterref07_Put_res N)] [] [] [] false [] []

theorem porterref07_Take_Eok (N : Nat) : EnvOk Go.Proofs.Try.prog (porterref07_Take_E N) := mkEnv_ok mixed tys_ok (FnsOk.cons (porterref07_Put_ct N) (FnsOk.nil)) (ItsOk.nil)

noncomputable def porterref07_Take_p3 (N : Nat) (s : (List UInt8)) (k : Int) (k0 : Option (Int × Int × Int × Unit)) (k1 : Option (Int × Int × Int × Unit)) : Option (Int × Int × Int × Unit) :=
  cond (decide (k < (((List.length s) : Nat) : Int)))
  (cond (decide (k < (10 : Int)))
    (cond (Go.Lift.inR k (List.length s))
      (cond (decide ((128 : Int) ≤ (((UInt8.toNat (List.getD s (Int.toNat k) (0 : UInt8))) : Nat) : Int)))
        (k0)
        (k1))
      (none))
    (k1))
  (k1)

noncomputable def porterref07_Take_g3 (N : Nat) (x : denS [(0, .v .str), (4, .v (.int .i64))]) (K : Ex → List A → Option (Int × Int × Int × Unit)) : Option (Int × Int × Int × Unit) :=
  porterref07_Take_p3 N x.1 x.2.1 (K .normal (mkS [(0, .v .str), (4, .v (.int .i64))] 49 (x.1, x.2.1, ()))) (K (.exit 0) (mkS [(0, .v .str), (4, .v (.int .i64))] 49 (x.1, x.2.1, ())))

noncomputable def porterref07_Take_h3 (N : Nat) : Hd (Int × Int × Int × Unit) := fun st K => (unS [(0, .v .str), (4, .v (.int .i64))] 49 (restr [5, 0] 0 st)).bind fun x => porterref07_Take_g3 N x K

noncomputable def porterref07_Take_t3 (N : Nat) : Tab (Int × Int × Int × Unit) := []

theorem porterref07_Take_ok3 {N : Nat} {c : Ctx} (hb : Base Go.Proofs.Try.prog (porterref07_Take_E N) c) : CodeOk Go.Proofs.Try.prog c (nodeAt porterref07_Take_body [0, 0, 0, 0, 1, 1]) (porterref07_Take_h3 N) :=
  piece_ok (s := [(0, .v .str), (4, .v (.int .i64))]) (m := 49) (g := porterref07_Take_g3 N) [5, 0] (evN_sound hb N (porterref07_Take_t3 N) porterref07_Take_L porterref07_Take_body TabOk.nil [0, 0, 0, 0, 1, 1] _ rfl) (fun x K => by kernel_rfl)

noncomputable def porterref07_Take_s2 (N : Nat) (s : (List UInt8)) (k : Int) (rec : Int → Option (Int × Int × Int × Unit)) (k0 : Int → Option (Int × Int × Int × Unit)) : Option (Int × Int × Int × Unit) :=
  porterref07_Take_p3 N s k
  (rec (Go.IntKind.wrap Go.IntKind.i64 (k + (1 : Int))))
  (k0 k)

noncomputable def porterref07_Take_p2 (N : Nat) (s : (List UInt8)) (k : Int) (k0 : Int → Option (Int × Int × Int × Unit)) : Option (Int × Int × Int × Unit) :=
  iter (fun (v : Int) r => porterref07_Take_s2 N s v (fun k => (r k)) k0) N k

noncomputable def porterref07_Take_g2 (N : Nat) (i : (List UInt8)) (v : Int) (r : Int → Option (Int × Int × Int × Unit)) (K : Ex → List A → Option (Int × Int × Int × Unit)) : Option (Int × Int × Int × Unit) :=
  porterref07_Take_s2 N i v (fun k => (r k)) (fun a1 => (K (.exit 0) (mkS [(0, .v .str), (4, .v (.int .i64))] 49 (i, a1, ()))))

noncomputable def porterref07_Take_h2 (N : Nat) : Hd (Int × Int × Int × Unit) := fun st K => (unS [(0, .v .str), (4, .v (.int .i64))] 49 (restr [5, 0] 0 st)).bind fun x => iter (fun v r => porterref07_Take_g2 N ((fun x => x.1) x) v r K) N ((fun x => x.2.1) x)

noncomputable def porterref07_Take_t2 (N : Nat) : Tab (Int × Int × Int × Unit) := [([0, 0, 0, 0, 1, 1], porterref07_Take_h3 N)]

theorem porterref07_Take_ok2 {N : Nat} {c : Ctx} (hb : Base Go.Proofs.Try.prog (porterref07_Take_E N) c) : CodeOk Go.Proofs.Try.prog c (nodeAt porterref07_Take_body [0, 0, 1, 1]) (porterref07_Take_h2 N) :=
  loop_ok (s := [(0, .v .str), (4, .v (.int .i64))]) (m := 49) (porterref07_Take_g2 N) [5, 0] N (fun x => x.1) (fun x => x.2.1) (fun i v => (i, v, ())) (fun _ => rfl) (evN_sound hb N (porterref07_Take_t2 N) porterref07_Take_L porterref07_Take_body (TabOk.cons (porterref07_Take_ok3 hb) TabOk.nil) [0, 0, 0, 1, 1] _ rfl) (fun i v r K => by kernel_rfl)

noncomputable def porterref07_Take_p1 (N : Nat) (s : (List UInt8)) (k : Int) (k0 : Int → Option (Int × Int × Int × Unit)) : Option (Int × Int × Int × Unit) :=
  porterref07_Take_p2 N s k
  (fun k1 => k0 k1)

noncomputable def porterref07_Take_g1 (N : Nat) (x : denS [(0, .v .str), (4, .v (.int .i64))]) (K : Ex → List A → Option (Int × Int × Int × Unit)) : Option (Int × Int × Int × Unit) :=
  porterref07_Take_p1 N x.1 x.2.1 (fun a1 => (K .normal (mkS [(0, .v .str), (4, .v (.int .i64))] 49 (x.1, a1, ()))))

noncomputable def porterref07_Take_h1 (N : Nat) : Hd (Int × Int × Int × Unit) := fun st K => (unS [(0, .v .str), (4, .v (.int .i64))] 49 (restr [5, 0] 0 st)).bind fun x => porterref07_Take_g1 N x K

noncomputable def porterref07_Take_t1 (N : Nat) : Tab (Int × Int × Int × Unit) := [([0, 0, 1, 1], porterref07_Take_h2 N)]

theorem porterref07_Take_ok1 {N : Nat} {c : Ctx} (hb : Base Go.Proofs.Try.prog (porterref07_Take_E N) c) : CodeOk Go.Proofs.Try.prog c (nodeAt porterref07_Take_body [0, 1, 1]) (porterref07_Take_h1 N) :=
  piece_ok (s := [(0, .v .str), (4, .v (.int .i64))]) (m := 49) (g := porterref07_Take_g1 N) [5, 0] (evN_sound hb N (porterref07_Take_t1 N) porterref07_Take_L porterref07_Take_body (TabOk.cons (porterref07_Take_ok2 hb) TabOk.nil) [0, 1, 1] _ rfl) (fun x K => by kernel_rfl)

noncomputable def porterref07_Take_s4 (N : Nat) (s : (List UInt8)) (k : Int) (n : Int) (i : Int) (rec : Int → Int → Option (Int × Int × Int × Unit)) (k0 : Int → Int → Int → Option (Int × Int × Int × Unit)) (k1 : Int → Option (Int × Int × Int × Unit)) : Option (Int × Int × Int × Unit) :=
  cond (decide ((0 : Int) ≤ i))
  (cond (decide ((144115188075855871 : Int) < n))
    (k0 (0 : Int) (0 : Int) (2 : Int))
    (cond (Go.Lift.inR i (List.length s))
      (rec (Go.IntKind.wrap Go.IntKind.u64 ((Go.IntKind.wrap Go.IntKind.u64 ((128 : Int) * n)) + (Go.IntKind.wrap Go.IntKind.u64 (Int.tmod (((UInt8.toNat (List.getD s (Int.toNat i) (0 : UInt8))) : Nat) : Int) (128 : Int))))) (Go.IntKind.wrap Go.IntKind.i64 (i - (1 : Int))))
      (none)))
  (k1 n)

noncomputable def porterref07_Take_p4 (N : Nat) (s : (List UInt8)) (k : Int) (n : Int) (i : Int) (k0 : Int → Int → Int → Option (Int × Int × Int × Unit)) (k1 : Int → Option (Int × Int × Int × Unit)) : Option (Int × Int × Int × Unit) :=
  iter (fun (v : (Int × Int)) r => porterref07_Take_s4 N s k v.1 v.2 (fun n i => (r (n, i))) k0 k1) N (n, i)

noncomputable def porterref07_Take_g4 (N : Nat) (i : ((List UInt8) × Int)) (v : (Int × Int)) (r : (Int × Int) → Option (Int × Int × Int × Unit)) (K : Ex → List A → Option (Int × Int × Int × Unit)) : Option (Int × Int × Int × Unit) :=
  porterref07_Take_s4 N i.1 i.2 v.1 v.2 (fun n i => (r (n, i))) (fun a0 a1 a2 => (K .ret (mkS [(2, .v (.int .u64)), (0, .v (.int .i64)), (0, .v (.int .i64))] 50 (a0, a1, a2, ())))) (fun a2 => (K (.exit 2) (mkS [(0, .v .str), (4, .v (.int .i64)), (0, .v (.int .u64))] 48 (i.1, i.2, a2, ()))))

noncomputable def porterref07_Take_h4 (N : Nat) : Hd (Int × Int × Int × Unit) := fun st K => (unS [(0, .v .str), (4, .v (.int .i64)), (0, .v (.int .u64)), (0, .v (.int .i64))] 47 (restr [7, 6, 0, 5] 0 st)).bind fun x => iter (fun v r => porterref07_Take_g4 N ((fun x => (x.1, x.2.1)) x) v r K) N ((fun x => (x.2.2.1, x.2.2.2.1)) x)

noncomputable def porterref07_Take_t4 (N : Nat) : Tab (Int × Int × Int × Unit) := []

theorem porterref07_Take_ok4 {N : Nat} {c : Ctx} (hb : Base Go.Proofs.Try.prog (porterref07_Take_E N) c) : CodeOk Go.Proofs.Try.prog c (nodeAt porterref07_Take_body [0, 1, 0, 1, 1, 1, 1, 1, 1]) (porterref07_Take_h4 N) :=
  loop_ok (s := [(0, .v .str), (4, .v (.int .i64)), (0, .v (.int .u64)), (0, .v (.int .i64))]) (m := 47) (porterref07_Take_g4 N) [7, 6, 0, 5] N (fun x => (x.1, x.2.1)) (fun x => (x.2.2.1, x.2.2.2.1)) (fun i v => (i.1, i.2, v.1, v.2, ())) (fun _ => rfl) (evN_sound hb N (porterref07_Take_t4 N) porterref07_Take_L porterref07_Take_body TabOk.nil [0, 0, 1, 0, 1, 1, 1, 1, 1, 1] _ rfl) (fun i v r K => by kernel_rfl)

noncomputable def porterref07_Take (N : Nat) (s : (List UInt8)) : Option (Int × Int × Int × Unit) :=
  porterref07_Take_p1 N s (0 : Int)
  (fun k => cond (k == (10 : Int))
    (some ((0 : Int), ((0 : Int), ((2 : Int), ()))))
    (cond (k == (((List.length s) : Nat) : Int))
      (some ((0 : Int), ((0 : Int), ((1 : Int), ()))))
      (porterref07_Take_p4 N s k (0 : Int) k
        (fun x2 x3 x4 => some (x2, (x3, (x4, ()))))
        (fun n => (porterref07_Put N n).bind fun y =>
          cond (decide (((0 : Int) ≤ (Go.IntKind.wrap Go.IntKind.i64 (k + (1 : Int)))) ∧ ((Go.IntKind.wrap Go.IntKind.i64 (k + (1 : Int))) ≤ (((List.length s) : Nat) : Int))))
          (cond (!(y == (Go.Lift.cut s 0 (Int.toNat (Go.IntKind.wrap Go.IntKind.i64 (k + (1 : Int)))))))
            (some ((0 : Int), ((0 : Int), ((2 : Int), ()))))
            (some (n, ((Go.IntKind.wrap Go.IntKind.i64 (k + (1 : Int))), ((0 : Int), ())))))
          (none)))))

noncomputable def porterref07_Take_t (N : Nat) : Tab (Int × Int × Int × Unit) := [([0, 1, 1], porterref07_Take_h1 N), ([0, 1, 0, 1, 1, 1, 1, 1, 1], porterref07_Take_h4 N)]

theorem porterref07_Take_link (N : Nat) (x : denS [(0, .v .str)]) : evFX (porterref07_Take_E N) N (porterref07_Take_t N) porterref07_Take_L Go.Proofs.Try.f53 (mkS [(0, .v .str)] 0 x) (kRes (.tup [(.int .u64), (.int .i64), (.int .i64)]) 1) = porterref07_Take N x.1 := by kernel_rfl

noncomputable def porterref07_Take_res (N : Nat) : List A → Res := resOf [(0, .v .str)] (fun x => porterref07_Take N x.1) (oRes (.tup [(.int .u64), (.int .i64), (.int .i64)]) 1)

theorem porterref07_Take_ct (N : Nat) : Contract Go.Proofs.Try.prog noGlob 53 (porterref07_Take_res N) :=
  Contract.of (E := porterref07_Take_E N) (H := porterref07_Take_t N) (L := porterref07_Take_L) (N := N) (body := porterref07_Take_body) (K := (kRes (.tup [(.int .u64), (.int .i64), (.int .i64)]) 1)) (porterref07_Take_Eok N) Go.Proofs.Try.func53 (by kernel_rfl) (by decide) (fun _ hb => (TabOk.cons (porterref07_Take_ok1 hb) (TabOk.cons (porterref07_Take_ok4 hb) TabOk.nil))) (fun x y h => by rw [porterref07_Take_link]; exact h) (kRes_ok (s := (.tup [(.int .u64), (.int .i64), (.int .i64)])) (m := 1))

abbrev porterref08_R_Num_R : Type := (Int × ((List UInt8) × (Int × Unit)) × Unit)

noncomputable def porterref08_R_Num_body : Code := (Go.Proofs.Try.f34.body).getD .skip

noncomputable def porterref08_R_Num_L : List (List Nat × List Nat) := [([0], [2, 5, 1]), ([0, 0, 1], [11, 2, 5, 1]), ([1, 0, 1], [2, 1, 5]), ([0, 0, 1, 0, 1], [4, 5]), ([1, 0, 1, 0, 1], [4, 5]), ([0, 1, 1], [8, 6, 1, 2, 5, 7]), ([0, 0, 1, 1, 1], [26, 2, 5, 6, 7, 8]), ([1, 0, 1, 1, 1], [8, 2, 5, 6, 7]), ([0, 1, 0, 1, 1, 1], [8, 2, 5, 6, 7]), ([0, 0, 1, 1, 1, 1], [28, 2, 8, 5, 6, 7]), ([1, 0, 1, 1, 1, 1], [6, 2, 7, 5]), ([0, 0, 1, 0, 1, 1, 1, 1], [4, 5]), ([1, 0, 1, 0, 1, 1, 1, 1], [4, 5]), ([0, 1, 1, 1, 1, 1], [4, 5]), ([1, 1, 1, 1, 1, 1], [4, 5])]

noncomputable def porterref08_R_Num_E (N : Nat) : Env := mkEnv tys noGlob [(53, porterref07_Take_res N), (38, porterref08_R_Fail_res N)] [] [] [] false [] []

theorem porterref08_R_Num_Eok (N : Nat) : EnvOk Go.Proofs.Try.prog (porterref08_R_Num_E N) := mkEnv_ok mixed tys_ok (FnsOk.cons (porterref07_Take_ct N) (FnsOk.cons (porterref08_R_Fail_ct N) (FnsOk.nil))) (ItsOk.nil)

noncomputable def porterref08_R_Num_p2 (N : Nat) (most : Int) (r_ : ((List UInt8) × (Int × Unit))) (x5 : ((List UInt8) × (Int × Unit))) (n : Int) (k : Int) (e : Int) (k0 : Bool → Option (Int × ((List UInt8) × (Int × Unit)) × Unit)) : Option (Int × ((List UInt8) × (Int × Unit)) × Unit) :=
  cond (e == (0 : Int))
  (k0 (decide (most < n)))
  (k0 false)

noncomputable def porterref08_R_Num_g2 (N : Nat) (x : denS [(1, .v (.int .u64)), (0, .box (.pair .str (.pair (.int .i64) .unit))), (2, .box (.pair .str (.pair (.int .i64) .unit))), (0, .v (.int .u64)), (0, .v (.int .i64)), (0, .v (.int .i64))]) (K : Ex → List A → Option (Int × ((List UInt8) × (Int × Unit)) × Unit)) : Option (Int × ((List UInt8) × (Int × Unit)) × Unit) :=
  porterref08_R_Num_p2 N x.1 x.2.1 x.2.2.1 x.2.2.2.1 x.2.2.2.2.1 x.2.2.2.2.2.1 (fun a5 => (K .normal (mkS [(2, .box (.pair .str (.pair (.int .i64) .unit))), (2, .box (.pair .str (.pair (.int .i64) .unit))), (0, .v (.int .u64)), (0, .v (.int .i64)), (0, .v (.int .i64)), (17, .v .bool)] 11 (x.2.1, x.2.2.1, x.2.2.2.1, x.2.2.2.2.1, x.2.2.2.2.2.1, a5, ()))))

noncomputable def porterref08_R_Num_h2 (N : Nat) : Hd (Int × ((List UInt8) × (Int × Unit)) × Unit) := fun st K => (unS [(1, .v (.int .u64)), (0, .box (.pair .str (.pair (.int .i64) .unit))), (2, .box (.pair .str (.pair (.int .i64) .unit))), (0, .v (.int .u64)), (0, .v (.int .i64)), (0, .v (.int .i64))] 29 (restr [8, 6, 1, 2, 5, 7] 0 st)).bind fun x => porterref08_R_Num_g2 N x K

noncomputable def porterref08_R_Num_t2 (N : Nat) : Tab (Int × ((List UInt8) × (Int × Unit)) × Unit) := []

theorem porterref08_R_Num_ok2 {N : Nat} {c : Ctx} (hb : Base Go.Proofs.Try.prog (porterref08_R_Num_E N) c) : CodeOk Go.Proofs.Try.prog c (nodeAt porterref08_R_Num_body [0, 0, 1, 1, 1]) (porterref08_R_Num_h2 N) :=
  piece_ok (s := [(1, .v (.int .u64)), (0, .box (.pair .str (.pair (.int .i64) .unit))), (2, .box (.pair .str (.pair (.int .i64) .unit))), (0, .v (.int .u64)), (0, .v (.int .i64)), (0, .v (.int .i64))]) (m := 29) (g := porterref08_R_Num_g2 N) [8, 6, 1, 2, 5, 7] (evN_sound hb N (porterref08_R_Num_t2 N) porterref08_R_Num_L porterref08_R_Num_body TabOk.nil [0, 0, 1, 1, 1] _ rfl) (fun x K => by kernel_rfl)

noncomputable def porterref08_R_Num_p1 (N : Nat) (most : Int) (r_ : ((List UInt8) × (Int × Unit))) (x5 : ((List UInt8) × (Int × Unit))) (n : Int) (k : Int) (e : Int) (k0 : Int → Option (Int × ((List UInt8) × (Int × Unit)) × Unit)) : Option (Int × ((List UInt8) × (Int × Unit)) × Unit) :=
  porterref08_R_Num_p2 N most r_ x5 n k e
  (fun x26 => cond x26
    (k0 (3 : Int))
    (k0 e))

noncomputable def porterref08_R_Num_g1 (N : Nat) (x : denS [(1, .v (.int .u64)), (0, .box (.pair .str (.pair (.int .i64) .unit))), (2, .box (.pair .str (.pair (.int .i64) .unit))), (0, .v (.int .u64)), (0, .v (.int .i64)), (0, .v (.int .i64))]) (K : Ex → List A → Option (Int × ((List UInt8) × (Int × Unit)) × Unit)) : Option (Int × ((List UInt8) × (Int × Unit)) × Unit) :=
  porterref08_R_Num_p1 N x.1 x.2.1 x.2.2.1 x.2.2.2.1 x.2.2.2.2.1 x.2.2.2.2.2.1 (fun a4 => (K .normal (mkS [(2, .box (.pair .str (.pair (.int .i64) .unit))), (2, .box (.pair .str (.pair (.int .i64) .unit))), (0, .v (.int .u64)), (0, .v (.int .i64)), (0, .v (.int .i64))] 29 (x.2.1, x.2.2.1, x.2.2.2.1, x.2.2.2.2.1, a4, ()))))

noncomputable def porterref08_R_Num_h1 (N : Nat) : Hd (Int × ((List UInt8) × (Int × Unit)) × Unit) := fun st K => (unS [(1, .v (.int .u64)), (0, .box (.pair .str (.pair (.int .i64) .unit))), (2, .box (.pair .str (.pair (.int .i64) .unit))), (0, .v (.int .u64)), (0, .v (.int .i64)), (0, .v (.int .i64))] 29 (restr [8, 6, 1, 2, 5, 7] 0 st)).bind fun x => porterref08_R_Num_g1 N x K

noncomputable def porterref08_R_Num_t1 (N : Nat) : Tab (Int × ((List UInt8) × (Int × Unit)) × Unit) := [([0, 0, 1, 1, 1], porterref08_R_Num_h2 N)]

theorem porterref08_R_Num_ok1 {N : Nat} {c : Ctx} (hb : Base Go.Proofs.Try.prog (porterref08_R_Num_E N) c) : CodeOk Go.Proofs.Try.prog c (nodeAt porterref08_R_Num_body [0, 1, 1, 1]) (porterref08_R_Num_h1 N) :=
  piece_ok (s := [(1, .v (.int .u64)), (0, .box (.pair .str (.pair (.int .i64) .unit))), (2, .box (.pair .str (.pair (.int .i64) .unit))), (0, .v (.int .u64)), (0, .v (.int .i64)), (0, .v (.int .i64))]) (m := 29) (g := porterref08_R_Num_g1 N) [8, 6, 1, 2, 5, 7] (evN_sound hb N (porterref08_R_Num_t1 N) porterref08_R_Num_L porterref08_R_Num_body (TabOk.cons (porterref08_R_Num_ok2 hb) TabOk.nil) [0, 1, 1, 1] _ rfl) (fun x K => by kernel_rfl)

noncomputable def porterref08_R_Num (N : Nat) (r_ : ((List UInt8) × (Int × Unit))) (most : Int) : Option (Int × ((List UInt8) × (Int × Unit)) × Unit) :=
  cond (r_.2.1 != (0 : Int))
  (some ((0 : Int), (r_, ())))
  ((porterref07_Take N r_.1).bind fun y =>
    porterref08_R_Num_p1 N most r_ (([] : List UInt8), ((0 : Int), ())) y.1 y.2.1 y.2.2.1
    (fun e => cond (e != (0 : Int))
      ((porterref08_R_Fail N r_ e).bind fun y1 =>
        some ((0 : Int), (y1, ())))
      (cond (decide (((0 : Int) ≤ y.2.1) ∧ (y.2.1 ≤ (((List.length r_.1) : Nat) : Int))))
        (some (y.1, (((Go.Lift.cut r_.1 (Int.toNat y.2.1) (List.length r_.1)), ((0 : Int), ())), ())))
        (none))))

noncomputable def porterref08_R_Num_t (N : Nat) : Tab (Int × ((List UInt8) × (Int × Unit)) × Unit) := [([0, 1, 1, 1], porterref08_R_Num_h1 N)]

theorem porterref08_R_Num_link (N : Nat) (x : denS [(0, .v (.pair .str (.pair (.int .i64) .unit))), (0, .v (.int .u64))]) : evFX (porterref08_R_Num_E N) N (porterref08_R_Num_t N) porterref08_R_Num_L Go.Proofs.Try.f34 (mkS [(0, .v (.pair .str (.pair (.int .i64) .unit))), (0, .v (.int .u64))] 0 x) (kRes (.tup [(.int .u64), (.pair .str (.pair (.int .i64) .unit))]) 2) = porterref08_R_Num N x.1 x.2.1 := by kernel_rfl

noncomputable def porterref08_R_Num_res (N : Nat) : List A → Res := resOf [(0, .v (.pair .str (.pair (.int .i64) .unit))), (0, .v (.int .u64))] (fun x => porterref08_R_Num N x.1 x.2.1) (oRes (.tup [(.int .u64), (.pair .str (.pair (.int .i64) .unit))]) 2)

theorem porterref08_R_Num_ct (N : Nat) : Contract Go.Proofs.Try.prog noGlob 34 (porterref08_R_Num_res N) :=
  Contract.of (E := porterref08_R_Num_E N) (H := porterref08_R_Num_t N) (L := porterref08_R_Num_L) (N := N) (body := porterref08_R_Num_body) (K := (kRes (.tup [(.int .u64), (.pair .str (.pair (.int .i64) .unit))]) 2)) (porterref08_R_Num_Eok N) Go.Proofs.Try.func34 (by kernel_rfl) (by decide) (fun _ hb => (TabOk.cons (porterref08_R_Num_ok1 hb) TabOk.nil)) (fun x y h => by rw [porterref08_R_Num_link]; exact h) (kRes_ok (s := (.tup [(.int .u64), (.pair .str (.pair (.int .i64) .unit))])) (m := 2))

abbrev porterref08_R_Text_R : Type := ((List UInt8) × ((List UInt8) × (Int × Unit)) × Unit)

noncomputable def porterref08_R_Text_body : Code := (Go.Proofs.Try.f33.body).getD .skip

noncomputable def porterref08_R_Text_L : List (List Nat × List Nat) := [([0], [1, 2, 5]), ([0, 0, 1], [9, 2, 5, 1]), ([1, 0, 1], [2, 1, 5]), ([0, 1, 0, 1], [2, 1, 5]), ([0, 1, 1], [7, 5, 6]), ([0, 0, 1, 1, 1], [19, 7, 5, 6]), ([1, 0, 1, 1, 1], [6, 7, 5]), ([0, 0, 1, 0, 1, 1, 1], [4, 5]), ([1, 0, 1, 0, 1, 1, 1], [4, 5]), ([0, 0, 1, 1, 1, 1], [26, 7, 5, 6]), ([1, 0, 1, 1, 1, 1], [7, 6, 5]), ([0, 0, 1, 0, 1, 1, 1, 1], [4, 5]), ([1, 0, 1, 0, 1, 1, 1, 1], [4, 5]), ([0, 1, 1, 1, 1, 1], [4, 5]), ([1, 1, 1, 1, 1, 1], [4, 5])]

noncomputable def porterref08_R_Text_E (N : Nat) : Env := mkEnv tys noGlob [(34, porterref08_R_Num_res N), (38, porterref08_R_Fail_res N)] [] [] [] false [] []

theorem porterref08_R_Text_Eok (N : Nat) : EnvOk Go.Proofs.Try.prog (porterref08_R_Text_E N) := mkEnv_ok mixed tys_ok (FnsOk.cons (porterref08_R_Num_ct N) (FnsOk.cons (porterref08_R_Fail_ct N) (FnsOk.nil))) (ItsOk.nil)

noncomputable def porterref08_R_Text_p1 (N : Nat) (most : Int) (r_ : ((List UInt8) × (Int × Unit))) (x5 : ((List UInt8) × (Int × Unit))) (k0 : Int → Option ((List UInt8) × ((List UInt8) × (Int × Unit)) × Unit)) : Option ((List UInt8) × ((List UInt8) × (Int × Unit)) × Unit) :=
  cond (decide (most < (0 : Int)))
  (k0 (0 : Int))
  (k0 most)

noncomputable def porterref08_R_Text_g1 (N : Nat) (x : denS [(1, .v (.int .i64)), (0, .box (.pair .str (.pair (.int .i64) .unit))), (2, .box (.pair .str (.pair (.int .i64) .unit)))]) (K : Ex → List A → Option ((List UInt8) × ((List UInt8) × (Int × Unit)) × Unit)) : Option ((List UInt8) × ((List UInt8) × (Int × Unit)) × Unit) :=
  porterref08_R_Text_p1 N x.1 x.2.1 x.2.2.1 (fun a0 => (K .normal (mkS [(1, .v (.int .i64)), (0, .box (.pair .str (.pair (.int .i64) .unit))), (2, .box (.pair .str (.pair (.int .i64) .unit)))] 32 (a0, x.2.1, x.2.2.1, ()))))

noncomputable def porterref08_R_Text_h1 (N : Nat) : Hd ((List UInt8) × ((List UInt8) × (Int × Unit)) × Unit) := fun st K => (unS [(1, .v (.int .i64)), (0, .box (.pair .str (.pair (.int .i64) .unit))), (2, .box (.pair .str (.pair (.int .i64) .unit)))] 32 (restr [1, 2, 5] 0 st)).bind fun x => porterref08_R_Text_g1 N x K

noncomputable def porterref08_R_Text_t1 (N : Nat) : Tab ((List UInt8) × ((List UInt8) × (Int × Unit)) × Unit) := []

theorem porterref08_R_Text_ok1 {N : Nat} {c : Ctx} (hb : Base Go.Proofs.Try.prog (porterref08_R_Text_E N) c) : CodeOk Go.Proofs.Try.prog c (nodeAt porterref08_R_Text_body [0, 1]) (porterref08_R_Text_h1 N) :=
  piece_ok (s := [(1, .v (.int .i64)), (0, .box (.pair .str (.pair (.int .i64) .unit))), (2, .box (.pair .str (.pair (.int .i64) .unit)))]) (m := 32) (g := porterref08_R_Text_g1 N) [1, 2, 5] (evN_sound hb N (porterref08_R_Text_t1 N) porterref08_R_Text_L porterref08_R_Text_body TabOk.nil [0, 1] _ rfl) (fun x K => by kernel_rfl)

noncomputable def porterref08_R_Text (N : Nat) (r_ : ((List UInt8) × (Int × Unit))) (most : Int) : Option ((List UInt8) × ((List UInt8) × (Int × Unit)) × Unit) :=
  porterref08_R_Text_p1 N most r_ (([] : List UInt8), ((0 : Int), ()))
  (fun most1 => (porterref08_R_Num N r_ (Go.IntKind.wrap Go.IntKind.u64 most1)).bind fun y =>
    cond (y.2.1.2.1 != (0 : Int))
    (some (([] : List UInt8), (y.2.1, ())))
    (cond (decide ((Go.IntKind.wrap Go.IntKind.u64 (((List.length y.2.1.1) : Nat) : Int)) < y.1))
      ((porterref08_R_Fail N y.2.1 (1 : Int)).bind fun y1 =>
        some (([] : List UInt8), (y1, ())))
      (cond (decide (((0 : Int) ≤ y.1) ∧ (y.1 ≤ (((List.length y.2.1.1) : Nat) : Int))))
        (cond (decide (((0 : Int) ≤ y.1) ∧ (y.1 ≤ (((List.length y.2.1.1) : Nat) : Int))))
          (some ((Go.Lift.cut y.2.1.1 0 (Int.toNat y.1)), (((Go.Lift.cut y.2.1.1 (Int.toNat y.1) (List.length y.2.1.1)), ((0 : Int), ())), ())))
          (none))
        (none))))

noncomputable def porterref08_R_Text_t (N : Nat) : Tab ((List UInt8) × ((List UInt8) × (Int × Unit)) × Unit) := [([0, 1], porterref08_R_Text_h1 N)]

theorem porterref08_R_Text_link (N : Nat) (x : denS [(0, .v (.pair .str (.pair (.int .i64) .unit))), (0, .v (.int .i64))]) : evFX (porterref08_R_Text_E N) N (porterref08_R_Text_t N) porterref08_R_Text_L Go.Proofs.Try.f33 (mkS [(0, .v (.pair .str (.pair (.int .i64) .unit))), (0, .v (.int .i64))] 0 x) (kRes (.tup [.str, (.pair .str (.pair (.int .i64) .unit))]) 2) = porterref08_R_Text N x.1 x.2.1 := by kernel_rfl

noncomputable def porterref08_R_Text_res (N : Nat) : List A → Res := resOf [(0, .v (.pair .str (.pair (.int .i64) .unit))), (0, .v (.int .i64))] (fun x => porterref08_R_Text N x.1 x.2.1) (oRes (.tup [.str, (.pair .str (.pair (.int .i64) .unit))]) 2)

theorem porterref08_R_Text_ct (N : Nat) : Contract Go.Proofs.Try.prog noGlob 33 (porterref08_R_Text_res N) :=
  Contract.of (E := porterref08_R_Text_E N) (H := porterref08_R_Text_t N) (L := porterref08_R_Text_L) (N := N) (body := porterref08_R_Text_body) (K := (kRes (.tup [.str, (.pair .str (.pair (.int .i64) .unit))]) 2)) (porterref08_R_Text_Eok N) Go.Proofs.Try.func33 (by kernel_rfl) (by decide) (fun _ hb => (TabOk.cons (porterref08_R_Text_ok1 hb) TabOk.nil)) (fun x y h => by rw [porterref08_R_Text_link]; exact h) (kRes_ok (s := (.tup [.str, (.pair .str (.pair (.int .i64) .unit))])) (m := 2))

abbrev porterref08_R_End_R : Type := ((List UInt8) × (Int × Unit))

noncomputable def porterref08_R_End_body : Code := (Go.Proofs.Try.f35.body).getD .skip

noncomputable def porterref08_R_End_L : List (List Nat × List Nat) := [([0], [1, 2]), ([0, 0, 1], [5, 1, 2]), ([1, 0, 1], [1, 2]), ([0, 0, 1, 0, 1], [2]), ([1, 0, 1, 0, 1], [2]), ([0, 1, 1], [2]), ([1, 1, 1], [2])]

noncomputable def porterref08_R_End_E (N : Nat) : Env := mkEnv tys noGlob [(38, porterref08_R_Fail_res N)] [] [] [] false [] []

theorem porterref08_R_End_Eok (N : Nat) : EnvOk Go.Proofs.Try.prog (porterref08_R_End_E N) := mkEnv_ok mixed tys_ok (FnsOk.cons (porterref08_R_Fail_ct N) (FnsOk.nil)) (ItsOk.nil)

noncomputable def porterref08_R_End (N : Nat) (r_ : ((List UInt8) × (Int × Unit))) : Option ((List UInt8) × (Int × Unit)) :=
  cond (!(r_.1 == ([] : List UInt8)))
  ((porterref08_R_Fail N r_ (2 : Int)).bind fun y =>
    some y)
  (some r_)

noncomputable def porterref08_R_End_t (N : Nat) : Tab ((List UInt8) × (Int × Unit)) := []

theorem porterref08_R_End_link (N : Nat) (x : denS [(0, .v (.pair .str (.pair (.int .i64) .unit)))]) : evFX (porterref08_R_End_E N) N (porterref08_R_End_t N) porterref08_R_End_L Go.Proofs.Try.f35 (mkS [(0, .v (.pair .str (.pair (.int .i64) .unit)))] 0 x) (kRes (.v (.pair .str (.pair (.int .i64) .unit))) 1) = porterref08_R_End N x.1 := by kernel_rfl

noncomputable def porterref08_R_End_res (N : Nat) : List A → Res := resOf [(0, .v (.pair .str (.pair (.int .i64) .unit)))] (fun x => porterref08_R_End N x.1) (oRes (.v (.pair .str (.pair (.int .i64) .unit))) 1)

theorem porterref08_R_End_ct (N : Nat) : Contract Go.Proofs.Try.prog noGlob 35 (porterref08_R_End_res N) :=
  Contract.of (E := porterref08_R_End_E N) (H := porterref08_R_End_t N) (L := porterref08_R_End_L) (N := N) (body := porterref08_R_End_body) (K := (kRes (.v (.pair .str (.pair (.int .i64) .unit))) 1)) (porterref08_R_End_Eok N) Go.Proofs.Try.func35 (by kernel_rfl) (by decide) (fun _ hb => TabOk.nil) (fun x y h => by rw [porterref08_R_End_link]; exact h) (kRes_ok (s := (.v (.pair .str (.pair (.int .i64) .unit)))) (m := 1))

abbrev porterref39_Get_R : Type := ((Int × ((List UInt8) × (Int × (Int × ((List UInt8) × Unit))))) × Int × Unit)

noncomputable def porterref39_Get_body : Code := (Go.Proofs.Try.f12.body).getD .skip

noncomputable def porterref39_Get_L : List (List Nat × List Nat) := [([0], [0, 2]), ([0, 1], [0, 4, 2]), ([0, 1, 1], [6, 4, 2, 5]), ([0, 1, 1, 1], [8, 4, 2, 5, 7]), ([0, 1, 1, 1, 1], [10, 4, 2, 5, 7, 9]), ([0, 1, 1, 1, 1, 1], [12, 4, 2, 5, 7, 9, 11]), ([0, 1, 1, 1, 1, 1, 1], [14, 4, 2, 5, 7, 9, 11, 13]), ([0, 1, 1, 1, 1, 1, 1, 1], [14, 4, 2, 5, 7, 9, 11, 13]), ([0, 0, 1, 1, 1, 1, 1, 1, 1, 1], [46, 4, 14, 2, 5, 7, 9, 11, 13]), ([1, 0, 1, 1, 1, 1, 1, 1, 1, 1], [5, 7, 9, 11, 13, 4, 2]), ([0, 0, 1, 0, 1, 1, 1, 1, 1, 1, 1, 1], [2, 3]), ([1, 0, 1, 0, 1, 1, 1, 1, 1, 1, 1, 1], [2, 3]), ([0, 1, 1, 1, 1, 1, 1, 1, 1, 1], [15, 4, 2]), ([0, 0, 1, 1, 1, 1, 1, 1, 1, 1, 1, 1], [61, 4, 2, 15]), ([1, 0, 1, 1, 1, 1, 1, 1, 1, 1, 1, 1], [15, 2]), ([0, 0, 1, 0, 1, 1, 1, 1, 1, 1, 1, 1, 1, 1], [2, 3]), ([1, 0, 1, 0, 1, 1, 1, 1, 1, 1, 1, 1, 1, 1], [2, 3]), ([0, 1, 1, 1, 1, 1, 1, 1, 1, 1, 1, 1], [2, 3]), ([1, 1, 1, 1, 1, 1, 1, 1, 1, 1, 1, 1], [2, 3])]

noncomputable def porterref39_Get_E (N : Nat) : Env := mkEnv tys noGlob [(35, porterref08_R_End_res N), (33, porterref08_R_Text_res N), (34, porterref08_R_Num_res N), (32, porterref08_R_Byte_res N), (20, porterref38_Form_res N)] [] [] [] false [] []

theorem porterref39_Get_Eok (N : Nat) : EnvOk Go.Proofs.Try.prog (porterref39_Get_E N) := mkEnv_ok mixed tys_ok (FnsOk.cons (porterref08_R_End_ct N) (FnsOk.cons (porterref08_R_Text_ct N) (FnsOk.cons (porterref08_R_Num_ct N) (FnsOk.cons (porterref08_R_Byte_ct N) (FnsOk.cons (porterref38_Form_ct N) (FnsOk.nil)))))) (ItsOk.nil)

noncomputable def porterref39_Get (N : Nat) (s : (List UInt8)) : Option ((Int × ((List UInt8) × (Int × (Int × ((List UInt8) × Unit))))) × Int × Unit) :=
  (porterref08_R_Byte N (s, ((0 : Int), ()))).bind fun y =>
  (porterref08_R_Text N y.2.1 (32 : Int)).bind fun y1 =>
  (porterref08_R_Num N y1.2.1 (1099511627776 : Int)).bind fun y2 =>
  (porterref08_R_Num N y2.2.1 (1099511627776 : Int)).bind fun y3 =>
  (porterref08_R_Text N y3.2.1 (32 : Int)).bind fun y4 =>
  (porterref08_R_End N y4.2.1).bind fun y5 =>
  cond (y5.2.1 != (0 : Int))
  (some (((0 : Int), (([] : List UInt8), ((0 : Int), ((0 : Int), (([] : List UInt8), ()))))), (y5.2.1, ())))
  ((porterref38_Form N ((Go.IntKind.wrap Go.IntKind.i64 y.1), (y1.1, ((Go.IntKind.wrap Go.IntKind.i64 y3.1), ((Go.IntKind.wrap Go.IntKind.i64 y2.1), (y4.1, ())))))).bind fun y6 =>
    cond (!y6)
    (some (((0 : Int), (([] : List UInt8), ((0 : Int), ((0 : Int), (([] : List UInt8), ()))))), ((2 : Int), ())))
    (some (((Go.IntKind.wrap Go.IntKind.i64 y.1), (y1.1, ((Go.IntKind.wrap Go.IntKind.i64 y3.1), ((Go.IntKind.wrap Go.IntKind.i64 y2.1), (y4.1, ()))))), ((0 : Int), ()))))

noncomputable def porterref39_Get_t (N : Nat) : Tab ((Int × ((List UInt8) × (Int × (Int × ((List UInt8) × Unit))))) × Int × Unit) := []

theorem porterref39_Get_link (N : Nat) (x : denS [(0, .v .str)]) : evFX (porterref39_Get_E N) N (porterref39_Get_t N) porterref39_Get_L Go.Proofs.Try.f12 (mkS [(0, .v .str)] 0 x) (kRes (.tup [(.pair (.int .i64) (.pair .str (.pair (.int .i64) (.pair (.int .i64) (.pair .str .unit))))), (.int .i64)]) 1) = porterref39_Get N x.1 := by kernel_rfl

noncomputable def porterref39_Get_res (N : Nat) : List A → Res := resOf [(0, .v .str)] (fun x => porterref39_Get N x.1) (oRes (.tup [(.pair (.int .i64) (.pair .str (.pair (.int .i64) (.pair (.int .i64) (.pair .str .unit))))), (.int .i64)]) 1)

theorem porterref39_Get_ct (N : Nat) : Contract Go.Proofs.Try.prog noGlob 12 (porterref39_Get_res N) :=
  Contract.of (E := porterref39_Get_E N) (H := porterref39_Get_t N) (L := porterref39_Get_L) (N := N) (body := porterref39_Get_body) (K := (kRes (.tup [(.pair (.int .i64) (.pair .str (.pair (.int .i64) (.pair (.int .i64) (.pair .str .unit))))), (.int .i64)]) 1)) (porterref39_Get_Eok N) Go.Proofs.Try.func12 (by kernel_rfl) (by decide) (fun _ hb => TabOk.nil) (fun x y h => by rw [porterref39_Get_link]; exact h) (kRes_ok (s := (.tup [(.pair (.int .i64) (.pair .str (.pair (.int .i64) (.pair (.int .i64) (.pair .str .unit))))), (.int .i64)])) (m := 1))

abbrev record_Read_R : Type := ((List (Int × ((List UInt8) × (Int × (Int × ((List UInt8) × Unit)))))) × Int × Unit)

noncomputable def record_Read_body : Code := (Go.Proofs.Try.f13.body).getD .skip

noncomputable def record_Read_L : List (List Nat × List Nat) := [([0], [0]), ([0, 1], [4]), ([0, 1, 1], [4, 5]), ([0, 0, 1, 1, 1], [13, 12, 4, 5]), ([0, 1, 0, 1, 1, 1], [13, 12, 4, 5]), ([0, 0, 0, 1, 0, 1, 1, 1], [14, 4, 5, 13, 12]), ([0, 1, 0, 0, 1, 0, 1, 1, 1], [4, 5, 13, 12]), ([1, 0, 1, 0, 0, 1, 0, 1, 1, 1], [4, 5]), ([0, 0, 0, 1, 1, 0, 0, 1, 0, 1, 1, 1], [4, 7, 5, 6, 13, 12]), ([0, 1, 0, 0, 1, 1, 0, 0, 1, 0, 1, 1, 1], [5, 6, 13, 12, 4]), ([1, 1, 0, 0, 1, 1, 0, 0, 1, 0, 1, 1, 1], [13, 12, 4, 5]), ([0, 1, 1, 0, 0, 1, 0, 1, 1, 1], [13, 12, 4, 5]), ([1, 1, 1, 0, 0, 1, 0, 1, 1, 1], [13, 12, 4, 5]), ([1, 0, 1, 1, 1], [4, 5]), ([0, 0, 1, 1, 1, 1], [8, 5]), ([0, 1, 0, 1, 1, 1, 1], [32, 8, 5]), ([1, 1, 0, 1, 1, 1, 1], [5]), ([0, 0, 1, 1, 0, 1, 1, 1, 1], [2, 3]), ([1, 0, 1, 1, 0, 1, 1, 1, 1], [2, 3]), ([0, 1, 1, 1, 1, 1], [2, 3]), ([1, 1, 1, 1, 1, 1], [2, 3])]

noncomputable def record_Read_E (N : Nat) : Env := mkEnv tys noGlob [(11, record_Get_res N), (27, field_New_res N), (29, field_Reader_Text_res N), (36, field_Reader_Num_res N), (31, field_Reader_End_nil_all N), (37, field_Reader_Fail_nil_all N)] [(5, (.pair (.int .i64) (.pair .str (.pair (.int .i64) (.pair (.int .i64) (.pair .str .unit)))))), (2, (.pair (.int .i64) (.pair .str (.pair (.int .i64) (.pair (.int .i64) (.pair .str .unit))))))] [] [] false [] []

theorem record_Read_Eok (N : Nat) : EnvOk Go.Proofs.Try.prog (record_Read_E N) := mkEnv_ok mixed tys_ok (FnsOk.cons (record_Get_ct N) (FnsOk.cons (field_New_ct N) (FnsOk.cons (field_Reader_Text_ct N) (FnsOk.cons (field_Reader_Num_ct N) (FnsOk.cons (field_Reader_End_nil_allct N) (FnsOk.cons (field_Reader_Fail_nil_allct N) (FnsOk.nil))))))) (ItsOk.nil)

noncomputable def record_Read_s1 (N : Nat) (x12 : Int) (f : (Bool × ((List UInt8) × (Int × Unit)))) (l : (List (Int × ((List UInt8) × (Int × (Int × ((List UInt8) × Unit))))))) (x13 : Int) (rec : (Bool × ((List UInt8) × (Int × Unit))) → (List (Int × ((List UInt8) × (Int × (Int × ((List UInt8) × Unit)))))) → Int → Option ((List (Int × ((List UInt8) × (Int × (Int × ((List UInt8) × Unit)))))) × Int × Unit)) (k0 : (Bool × ((List UInt8) × (Int × Unit))) → (List (Int × ((List UInt8) × (Int × (Int × ((List UInt8) × Unit)))))) → Option ((List (Int × ((List UInt8) × (Int × (Int × ((List UInt8) × Unit)))))) × Int × Unit)) : Option ((List (Int × ((List UInt8) × (Int × (Int × ((List UInt8) × Unit)))))) × Int × Unit) :=
  cond (decide (x13 < x12))
  ((field_Reader_Text N f (128 : Int)).bind fun y =>
    (record_Get N y.1).bind fun y1 =>
    (field_Reader_Fail N y.2.1 y1.2.1).bind fun y2 =>
    cond (decide ((((List.length l) + 1) * 56) ≤ 70368744177664))
    (rec y2.2.1 (l ++ ([y1.1] : List (Int × ((List UInt8) × (Int × (Int × ((List UInt8) × Unit))))))) (Go.IntKind.wrap Go.IntKind.u64 (x13 + (1 : Int))))
    (none))
  (k0 f l)

noncomputable def record_Read_p1 (N : Nat) (f : (Bool × ((List UInt8) × (Int × Unit)))) (l : (List (Int × ((List UInt8) × (Int × (Int × ((List UInt8) × Unit))))))) (x12 : Int) (x13 : Int) (k0 : (Bool × ((List UInt8) × (Int × Unit))) → (List (Int × ((List UInt8) × (Int × (Int × ((List UInt8) × Unit)))))) → Option ((List (Int × ((List UInt8) × (Int × (Int × ((List UInt8) × Unit)))))) × Int × Unit)) : Option ((List (Int × ((List UInt8) × (Int × (Int × ((List UInt8) × Unit)))))) × Int × Unit) :=
  iter (fun (v : ((Bool × ((List UInt8) × (Int × Unit))) × (List (Int × ((List UInt8) × (Int × (Int × ((List UInt8) × Unit)))))) × Int)) r => record_Read_s1 N x12 v.1 v.2.1 v.2.2 (fun f l x13 => (r (f, l, x13))) k0) N (f, l, x13)

noncomputable def record_Read_g1 (N : Nat) (i : Int) (v : ((Bool × ((List UInt8) × (Int × Unit))) × (List (Int × ((List UInt8) × (Int × (Int × ((List UInt8) × Unit)))))) × Int)) (r : ((Bool × ((List UInt8) × (Int × Unit))) × (List (Int × ((List UInt8) × (Int × (Int × ((List UInt8) × Unit)))))) × Int) → Option ((List (Int × ((List UInt8) × (Int × (Int × ((List UInt8) × Unit)))))) × Int × Unit)) (K : Ex → List A → Option ((List (Int × ((List UInt8) × (Int × (Int × ((List UInt8) × Unit)))))) × Int × Unit)) : Option ((List (Int × ((List UInt8) × (Int × (Int × ((List UInt8) × Unit)))))) × Int × Unit) :=
  record_Read_s1 N i v.1 v.2.1 v.2.2 (fun f l x13 => (r (f, l, x13))) (fun a0 a1 => (K (.exit 0) (mkS [(4, .box (.pair .bool (.pair .str (.pair (.int .i64) .unit)))), (0, .row (.pair (.int .i64) (.pair .str (.pair (.int .i64) (.pair (.int .i64) (.pair .str .unit))))))] 29 (a0, a1, ()))))

noncomputable def record_Read_h1 (N : Nat) : Hd ((List (Int × ((List UInt8) × (Int × (Int × ((List UInt8) × Unit)))))) × Int × Unit) := fun st K => (unS [(4, .box (.pair .bool (.pair .str (.pair (.int .i64) .unit)))), (0, .row (.pair (.int .i64) (.pair .str (.pair (.int .i64) (.pair (.int .i64) (.pair .str .unit)))))), (6, .v (.int .u64)), (0, .v (.int .u64))] 21 (restr [13, 12, 4, 5] 0 st)).bind fun x => iter (fun v r => record_Read_g1 N ((fun x => x.2.2.1) x) v r K) N ((fun x => (x.1, x.2.1, x.2.2.2.1)) x)

noncomputable def record_Read_t1 (N : Nat) : Tab ((List (Int × ((List UInt8) × (Int × (Int × ((List UInt8) × Unit)))))) × Int × Unit) := []

theorem record_Read_ok1 {N : Nat} {c : Ctx} (hb : Base Go.Proofs.Try.prog (record_Read_E N) c) : CodeOk Go.Proofs.Try.prog c (nodeAt record_Read_body [0, 1, 0, 1, 1, 1]) (record_Read_h1 N) :=
  loop_ok (s := [(4, .box (.pair .bool (.pair .str (.pair (.int .i64) .unit)))), (0, .row (.pair (.int .i64) (.pair .str (.pair (.int .i64) (.pair (.int .i64) (.pair .str .unit)))))), (6, .v (.int .u64)), (0, .v (.int .u64))]) (m := 21) (record_Read_g1 N) [13, 12, 4, 5] N (fun x => x.2.2.1) (fun x => (x.1, x.2.1, x.2.2.2.1)) (fun i v => (v.1, v.2.1, i, v.2.2, ())) (fun _ => rfl) (evN_sound hb N (record_Read_t1 N) record_Read_L record_Read_body TabOk.nil [0, 0, 1, 0, 1, 1, 1] _ rfl) (fun i v r K => by kernel_rfl)

noncomputable def record_Read (N : Nat) (s : (List UInt8)) : Option ((List (Int × ((List UInt8) × (Int × (Int × ((List UInt8) × Unit)))))) × Int × Unit) :=
  (field_Reader_Num N (true, (s, ((0 : Int), ()))) (256 : Int)).bind fun y =>
  record_Read_p1 N y.2.1 ([] : List (Int × ((List UInt8) × (Int × (Int × ((List UInt8) × Unit)))))) y.1 (0 : Int)
  (fun f l => (field_Reader_End N f).bind fun y1 =>
    cond (y1.1 != (0 : Int))
    (some (([] : List (Int × ((List UInt8) × (Int × (Int × ((List UInt8) × Unit)))))), (y1.1, ())))
    (some (l, ((0 : Int), ()))))

noncomputable def record_Read_t (N : Nat) : Tab ((List (Int × ((List UInt8) × (Int × (Int × ((List UInt8) × Unit)))))) × Int × Unit) := [([0, 1, 0, 1, 1, 1], record_Read_h1 N)]

theorem record_Read_link (N : Nat) (x : denS [(0, .v .str)]) : evFX (record_Read_E N) N (record_Read_t N) record_Read_L Go.Proofs.Try.f13 (mkS [(0, .v .str)] 0 x) (kRes (.tup [(.sl (.pair (.int .i64) (.pair .str (.pair (.int .i64) (.pair (.int .i64) (.pair .str .unit)))))), (.int .i64)]) 1) = record_Read N x.1 := by kernel_rfl

noncomputable def record_Read_res (N : Nat) : List A → Res := resOf [(0, .v .str)] (fun x => record_Read N x.1) (oRes (.tup [(.sl (.pair (.int .i64) (.pair .str (.pair (.int .i64) (.pair (.int .i64) (.pair .str .unit)))))), (.int .i64)]) 1)

theorem record_Read_ct (N : Nat) : Contract Go.Proofs.Try.prog noGlob 13 (record_Read_res N) :=
  Contract.of (E := record_Read_E N) (H := record_Read_t N) (L := record_Read_L) (N := N) (body := record_Read_body) (K := (kRes (.tup [(.sl (.pair (.int .i64) (.pair .str (.pair (.int .i64) (.pair (.int .i64) (.pair .str .unit)))))), (.int .i64)]) 1)) (record_Read_Eok N) Go.Proofs.Try.func13 (by kernel_rfl) (by decide) (fun _ hb => (TabOk.cons (record_Read_ok1 hb) TabOk.nil)) (fun x y h => by rw [record_Read_link]; exact h) (kRes_ok (s := (.tup [(.sl (.pair (.int .i64) (.pair .str (.pair (.int .i64) (.pair (.int .i64) (.pair .str .unit)))))), (.int .i64)])) (m := 1))

abbrev porterref39_Read_R : Type := ((List (Int × ((List UInt8) × (Int × (Int × ((List UInt8) × Unit)))))) × Int × Unit)

noncomputable def porterref39_Read_body : Code := (Go.Proofs.Try.f14.body).getD .skip

noncomputable def porterref39_Read_L : List (List Nat × List Nat) := [([0], [0]), ([0, 1], [4, 5]), ([0, 1, 1], [4, 5, 6]), ([0, 0, 1, 1, 1], [7, 4, 5, 6]), ([0, 1, 0, 1, 1, 1], [7, 4, 5, 6]), ([0, 0, 0, 0, 1, 0, 1, 1, 1], [21, 5, 6, 7, 4]), ([1, 0, 0, 0, 1, 0, 1, 1, 1], [5, 6, 7, 4]), ([1, 1, 0, 0, 0, 1, 0, 1, 1, 1], [5, 6]), ([0, 0, 0, 1, 0, 0, 1, 0, 1, 1, 1], [9, 8, 6, 5, 7, 4]), ([0, 0, 1, 0, 0, 1, 0, 0, 1, 0, 1, 1, 1], [31, 8, 6, 9, 5, 7, 4]), ([1, 0, 1, 0, 0, 1, 0, 0, 1, 0, 1, 1, 1], [9, 5, 7, 4, 6]), ([0, 0, 1, 0, 1, 0, 0, 1, 0, 0, 1, 0, 1, 1, 1], [6, 10, 9, 11, 5, 7, 4]), ([0, 1, 0, 1, 0, 1, 0, 0, 1, 0, 0, 1, 0, 1, 1, 1], [9, 11, 5, 7, 4, 6]), ([1, 1, 0, 1, 0, 1, 0, 0, 1, 0, 0, 1, 0, 1, 1, 1], [9, 5, 7, 4, 6]), ([1, 1, 0, 0, 1, 0, 0, 1, 0, 1, 1, 1], [7, 4, 5, 6]), ([0, 1, 0, 0, 1, 0, 1, 1, 1], [7, 4, 5, 6]), ([1, 1, 0, 0, 1, 0, 1, 1, 1], [7, 4, 5, 6]), ([1, 0, 1, 1, 1], [5, 6]), ([0, 1, 1, 1, 1], [5, 6]), ([0, 0, 1, 1, 1, 1, 1], [49, 5, 6]), ([1, 0, 1, 1, 1, 1, 1], [6]), ([0, 0, 1, 0, 1, 1, 1, 1, 1], [2, 3]), ([1, 0, 1, 0, 1, 1, 1, 1, 1], [2, 3]), ([0, 1, 1, 1, 1, 1, 1], [2, 3]), ([1, 1, 1, 1, 1, 1, 1], [2, 3])]

noncomputable def porterref39_Read_E (N : Nat) : Env := mkEnv tys noGlob [(12, porterref39_Get_res N), (35, porterref08_R_End_res N), (33, porterref08_R_Text_res N), (34, porterref08_R_Num_res N), (38, porterref08_R_Fail_res N)] [(6, (.pair (.int .i64) (.pair .str (.pair (.int .i64) (.pair (.int .i64) (.pair .str .unit)))))), (2, (.pair (.int .i64) (.pair .str (.pair (.int .i64) (.pair (.int .i64) (.pair .str .unit))))))] [] [] false [] []

theorem porterref39_Read_Eok (N : Nat) : EnvOk Go.Proofs.Try.prog (porterref39_Read_E N) := mkEnv_ok mixed tys_ok (FnsOk.cons (porterref39_Get_ct N) (FnsOk.cons (porterref08_R_End_ct N) (FnsOk.cons (porterref08_R_Text_ct N) (FnsOk.cons (porterref08_R_Num_ct N) (FnsOk.cons (porterref08_R_Fail_ct N) (FnsOk.nil)))))) (ItsOk.nil)

noncomputable def porterref39_Read_p2 (N : Nat) (n : Int) (r_ : ((List UInt8) × (Int × Unit))) (out : (List (Int × ((List UInt8) × (Int × (Int × ((List UInt8) × Unit))))))) (i : Int) (k0 : ((List UInt8) × (Int × Unit)) → (List (Int × ((List UInt8) × (Int × (Int × ((List UInt8) × Unit)))))) → Option ((List (Int × ((List UInt8) × (Int × (Int × ((List UInt8) × Unit)))))) × Int × Unit)) : Option ((List (Int × ((List UInt8) × (Int × (Int × ((List UInt8) × Unit)))))) × Int × Unit) :=
  (porterref08_R_Text N r_ (128 : Int)).bind fun y =>
  cond (y.2.1.2.1 == (0 : Int))
  ((porterref39_Get N y.1).bind fun y1 =>
    cond (decide ((((List.length out) + 1) * 56) ≤ 70368744177664))
    ((porterref08_R_Fail N y.2.1 y1.2.1).bind fun y2 =>
      k0 y2 (out ++ ([y1.1] : List (Int × ((List UInt8) × (Int × (Int × ((List UInt8) × Unit))))))))
    (none))
  (k0 y.2.1 out)

noncomputable def porterref39_Read_g2 (N : Nat) (x : denS [(4, .v (.int .u64)), (0, .box (.pair .str (.pair (.int .i64) .unit))), (0, .row (.pair (.int .i64) (.pair .str (.pair (.int .i64) (.pair (.int .i64) (.pair .str .unit)))))), (0, .v (.int .i64))]) (K : Ex → List A → Option ((List (Int × ((List UInt8) × (Int × (Int × ((List UInt8) × Unit)))))) × Int × Unit)) : Option ((List (Int × ((List UInt8) × (Int × (Int × ((List UInt8) × Unit)))))) × Int × Unit) :=
  porterref39_Read_p2 N x.1 x.2.1 x.2.2.1 x.2.2.2.1 (fun a1 a2 => (K .normal (mkS [(4, .v (.int .u64)), (0, .box (.pair .str (.pair (.int .i64) .unit))), (0, .row (.pair (.int .i64) (.pair .str (.pair (.int .i64) (.pair (.int .i64) (.pair .str .unit)))))), (0, .v (.int .i64))] 45 (x.1, a1, a2, x.2.2.2.1, ()))))

noncomputable def porterref39_Read_h2 (N : Nat) : Hd ((List (Int × ((List UInt8) × (Int × (Int × ((List UInt8) × Unit)))))) × Int × Unit) := fun st K => (unS [(4, .v (.int .u64)), (0, .box (.pair .str (.pair (.int .i64) .unit))), (0, .row (.pair (.int .i64) (.pair .str (.pair (.int .i64) (.pair (.int .i64) (.pair .str .unit)))))), (0, .v (.int .i64))] 45 (restr [5, 6, 7, 4] 0 st)).bind fun x => porterref39_Read_g2 N x K

noncomputable def porterref39_Read_t2 (N : Nat) : Tab ((List (Int × ((List UInt8) × (Int × (Int × ((List UInt8) × Unit)))))) × Int × Unit) := []

theorem porterref39_Read_ok2 {N : Nat} {c : Ctx} (hb : Base Go.Proofs.Try.prog (porterref39_Read_E N) c) : CodeOk Go.Proofs.Try.prog c (nodeAt porterref39_Read_body [0, 1, 0, 0, 1, 0, 1, 1, 1]) (porterref39_Read_h2 N) :=
  piece_ok (s := [(4, .v (.int .u64)), (0, .box (.pair .str (.pair (.int .i64) .unit))), (0, .row (.pair (.int .i64) (.pair .str (.pair (.int .i64) (.pair (.int .i64) (.pair .str .unit)))))), (0, .v (.int .i64))]) (m := 45) (g := porterref39_Read_g2 N) [5, 6, 7, 4] (evN_sound hb N (porterref39_Read_t2 N) porterref39_Read_L porterref39_Read_body TabOk.nil [0, 1, 0, 0, 1, 0, 1, 1, 1] _ rfl) (fun x K => by kernel_rfl)

noncomputable def porterref39_Read_s1 (N : Nat) (n : Int) (r_ : ((List UInt8) × (Int × Unit))) (out : (List (Int × ((List UInt8) × (Int × (Int × ((List UInt8) × Unit))))))) (i : Int) (rec : ((List UInt8) × (Int × Unit)) → (List (Int × ((List UInt8) × (Int × (Int × ((List UInt8) × Unit)))))) → Int → Option ((List (Int × ((List UInt8) × (Int × (Int × ((List UInt8) × Unit)))))) × Int × Unit)) (k0 : ((List UInt8) × (Int × Unit)) → (List (Int × ((List UInt8) × (Int × (Int × ((List UInt8) × Unit)))))) → Option ((List (Int × ((List UInt8) × (Int × (Int × ((List UInt8) × Unit)))))) × Int × Unit)) : Option ((List (Int × ((List UInt8) × (Int × (Int × ((List UInt8) × Unit)))))) × Int × Unit) :=
  cond (decide (i < (Go.IntKind.wrap Go.IntKind.i64 n)))
  (porterref39_Read_p2 N n r_ out i
    (fun r_1 out1 => rec r_1 out1 (Go.IntKind.wrap Go.IntKind.i64 (i + (1 : Int)))))
  (k0 r_ out)

noncomputable def porterref39_Read_p1 (N : Nat) (n : Int) (r_ : ((List UInt8) × (Int × Unit))) (out : (List (Int × ((List UInt8) × (Int × (Int × ((List UInt8) × Unit))))))) (i : Int) (k0 : ((List UInt8) × (Int × Unit)) → (List (Int × ((List UInt8) × (Int × (Int × ((List UInt8) × Unit)))))) → Option ((List (Int × ((List UInt8) × (Int × (Int × ((List UInt8) × Unit)))))) × Int × Unit)) : Option ((List (Int × ((List UInt8) × (Int × (Int × ((List UInt8) × Unit)))))) × Int × Unit) :=
  iter (fun (v : (((List UInt8) × (Int × Unit)) × (List (Int × ((List UInt8) × (Int × (Int × ((List UInt8) × Unit)))))) × Int)) r => porterref39_Read_s1 N n v.1 v.2.1 v.2.2 (fun r_ out i => (r (r_, out, i))) k0) N (r_, out, i)

noncomputable def porterref39_Read_g1 (N : Nat) (i : Int) (v : (((List UInt8) × (Int × Unit)) × (List (Int × ((List UInt8) × (Int × (Int × ((List UInt8) × Unit)))))) × Int)) (r : (((List UInt8) × (Int × Unit)) × (List (Int × ((List UInt8) × (Int × (Int × ((List UInt8) × Unit)))))) × Int) → Option ((List (Int × ((List UInt8) × (Int × (Int × ((List UInt8) × Unit)))))) × Int × Unit)) (K : Ex → List A → Option ((List (Int × ((List UInt8) × (Int × (Int × ((List UInt8) × Unit)))))) × Int × Unit)) : Option ((List (Int × ((List UInt8) × (Int × (Int × ((List UInt8) × Unit)))))) × Int × Unit) :=
  porterref39_Read_s1 N i v.1 v.2.1 v.2.2 (fun r_ out i => (r (r_, out, i))) (fun a0 a1 => (K (.exit 0) (mkS [(5, .box (.pair .str (.pair (.int .i64) .unit))), (0, .row (.pair (.int .i64) (.pair .str (.pair (.int .i64) (.pair (.int .i64) (.pair .str .unit))))))] 46 (a0, a1, ()))))

noncomputable def porterref39_Read_h1 (N : Nat) : Hd ((List (Int × ((List UInt8) × (Int × (Int × ((List UInt8) × Unit)))))) × Int × Unit) := fun st K => (unS [(4, .v (.int .u64)), (0, .box (.pair .str (.pair (.int .i64) .unit))), (0, .row (.pair (.int .i64) (.pair .str (.pair (.int .i64) (.pair (.int .i64) (.pair .str .unit)))))), (0, .v (.int .i64))] 45 (restr [7, 4, 5, 6] 0 st)).bind fun x => iter (fun v r => porterref39_Read_g1 N ((fun x => x.1) x) v r K) N ((fun x => (x.2.1, x.2.2.1, x.2.2.2.1)) x)

noncomputable def porterref39_Read_t1 (N : Nat) : Tab ((List (Int × ((List UInt8) × (Int × (Int × ((List UInt8) × Unit)))))) × Int × Unit) := [([0, 1, 0, 0, 1, 0, 1, 1, 1], porterref39_Read_h2 N)]

theorem porterref39_Read_ok1 {N : Nat} {c : Ctx} (hb : Base Go.Proofs.Try.prog (porterref39_Read_E N) c) : CodeOk Go.Proofs.Try.prog c (nodeAt porterref39_Read_body [0, 1, 0, 1, 1, 1]) (porterref39_Read_h1 N) :=
  loop_ok (s := [(4, .v (.int .u64)), (0, .box (.pair .str (.pair (.int .i64) .unit))), (0, .row (.pair (.int .i64) (.pair .str (.pair (.int .i64) (.pair (.int .i64) (.pair .str .unit)))))), (0, .v (.int .i64))]) (m := 45) (porterref39_Read_g1 N) [7, 4, 5, 6] N (fun x => x.1) (fun x => (x.2.1, x.2.2.1, x.2.2.2.1)) (fun i v => (i, v.1, v.2.1, v.2.2, ())) (fun _ => rfl) (evN_sound hb N (porterref39_Read_t1 N) porterref39_Read_L porterref39_Read_body (TabOk.cons (porterref39_Read_ok2 hb) TabOk.nil) [0, 0, 1, 0, 1, 1, 1] _ rfl) (fun i v r K => by kernel_rfl)

noncomputable def porterref39_Read (N : Nat) (s : (List UInt8)) : Option ((List (Int × ((List UInt8) × (Int × (Int × ((List UInt8) × Unit)))))) × Int × Unit) :=
  (porterref08_R_Num N (s, ((0 : Int), ())) (256 : Int)).bind fun y =>
  porterref39_Read_p1 N y.1 y.2.1 ([] : List (Int × ((List UInt8) × (Int × (Int × ((List UInt8) × Unit)))))) (0 : Int)
  (fun r_ out => (porterref08_R_End N r_).bind fun y1 =>
    cond (y1.2.1 != (0 : Int))
    (some (([] : List (Int × ((List UInt8) × (Int × (Int × ((List UInt8) × Unit)))))), (y1.2.1, ())))
    (some (out, ((0 : Int), ()))))

noncomputable def porterref39_Read_t (N : Nat) : Tab ((List (Int × ((List UInt8) × (Int × (Int × ((List UInt8) × Unit)))))) × Int × Unit) := [([0, 1, 0, 1, 1, 1], porterref39_Read_h1 N)]

theorem porterref39_Read_link (N : Nat) (x : denS [(0, .v .str)]) : evFX (porterref39_Read_E N) N (porterref39_Read_t N) porterref39_Read_L Go.Proofs.Try.f14 (mkS [(0, .v .str)] 0 x) (kRes (.tup [(.sl (.pair (.int .i64) (.pair .str (.pair (.int .i64) (.pair (.int .i64) (.pair .str .unit)))))), (.int .i64)]) 1) = porterref39_Read N x.1 := by kernel_rfl

noncomputable def porterref39_Read_res (N : Nat) : List A → Res := resOf [(0, .v .str)] (fun x => porterref39_Read N x.1) (oRes (.tup [(.sl (.pair (.int .i64) (.pair .str (.pair (.int .i64) (.pair (.int .i64) (.pair .str .unit)))))), (.int .i64)]) 1)

theorem porterref39_Read_ct (N : Nat) : Contract Go.Proofs.Try.prog noGlob 14 (porterref39_Read_res N) :=
  Contract.of (E := porterref39_Read_E N) (H := porterref39_Read_t N) (L := porterref39_Read_L) (N := N) (body := porterref39_Read_body) (K := (kRes (.tup [(.sl (.pair (.int .i64) (.pair .str (.pair (.int .i64) (.pair (.int .i64) (.pair .str .unit)))))), (.int .i64)]) 1)) (porterref39_Read_Eok N) Go.Proofs.Try.func14 (by kernel_rfl) (by decide) (fun _ hb => (TabOk.cons (porterref39_Read_ok1 hb) TabOk.nil)) (fun x y h => by rw [porterref39_Read_link]; exact h) (kRes_ok (s := (.tup [(.sl (.pair (.int .i64) (.pair .str (.pair (.int .i64) (.pair (.int .i64) (.pair .str .unit)))))), (.int .i64)])) (m := 1))

abbrev porterbase_SameEvents_R : Type := Bool

noncomputable def porterbase_SameEvents_body : Code := (Go.Proofs.Try.f15.body).getD .skip

noncomputable def porterbase_SameEvents_L : List (List Nat × List Nat) := [([0], [0, 1]), ([0, 0, 1], [10, 0, 1]), ([1, 0, 1], [0, 1]), ([0, 0, 1, 0, 1], [4]), ([1, 0, 1, 0, 1], [4]), ([0, 0, 1, 1], [5, 0, 1]), ([0, 1, 0, 1, 1], [5, 0, 1]), ([0, 0, 0, 0, 1, 0, 1, 1], [14, 0, 5, 1]), ([1, 0, 0, 0, 1, 0, 1, 1], [0, 5, 1]), ([1, 1, 0, 0, 0, 1, 0, 1, 1], []), ([0, 0, 0, 1, 0, 0, 1, 0, 1, 1], [25, 5, 0, 1]), ([1, 0, 0, 1, 0, 0, 1, 0, 1, 1], [5, 0, 1]), ([0, 0, 1, 0, 0, 1, 0, 0, 1, 0, 1, 1], [4]), ([1, 0, 1, 0, 0, 1, 0, 0, 1, 0, 1, 1], [4]), ([0, 1, 0, 0, 1, 0, 1, 1], [5, 0, 1]), ([1, 1, 0, 0, 1, 0, 1, 1], [5, 0, 1]), ([1, 0, 1, 1], []), ([0, 1, 1, 1], [4]), ([1, 1, 1, 1], [4])]

noncomputable def porterbase_SameEvents_E (N : Nat) : Env := mkEnv tys noGlob [] [] [] [] false [] []

theorem porterbase_SameEvents_Eok (N : Nat) : EnvOk Go.Proofs.Try.prog (porterbase_SameEvents_E N) := mkEnv_ok mixed tys_ok (FnsOk.nil) (ItsOk.nil)

noncomputable def porterbase_SameEvents_s1 (N : Nat) (a : (List (Int × ((List UInt8) × (Int × (Int × ((List UInt8) × Unit))))))) (b : (List (Int × ((List UInt8) × (Int × (Int × ((List UInt8) × Unit))))))) (i : Int) (rec : Int → Option Bool) (k0 : Bool → Option Bool) (k1 : Option Bool) : Option Bool :=
  cond (decide (i < (((List.length a) : Nat) : Int)))
  (cond (Go.Lift.inR i (List.length a))
    (cond (Go.Lift.inR i (List.length b))
      (cond (!(Go.Lift.eqD (Go.Lift.T.pair (Go.Lift.T.int Go.IntKind.i64) (Go.Lift.T.pair Go.Lift.T.str (Go.Lift.T.pair (Go.Lift.T.int Go.IntKind.i64) (Go.Lift.T.pair (Go.Lift.T.int Go.IntKind.i64) (Go.Lift.T.pair Go.Lift.T.str Go.Lift.T.unit))))) (List.getD a (Int.toNat i) ((0 : Int), (([] : List UInt8), ((0 : Int), ((0 : Int), (([] : List UInt8), ())))))) (List.getD b (Int.toNat i) ((0 : Int), (([] : List UInt8), ((0 : Int), ((0 : Int), (([] : List UInt8), ()))))))))
        (k0 false)
        (rec (Go.IntKind.wrap Go.IntKind.i64 (i + (1 : Int)))))
      (none))
    (none))
  (k1)

noncomputable def porterbase_SameEvents_p1 (N : Nat) (a : (List (Int × ((List UInt8) × (Int × (Int × ((List UInt8) × Unit))))))) (b : (List (Int × ((List UInt8) × (Int × (Int × ((List UInt8) × Unit))))))) (i : Int) (k0 : Bool → Option Bool) (k1 : Option Bool) : Option Bool :=
  iter (fun (v : Int) r => porterbase_SameEvents_s1 N a b v (fun i => (r i)) k0 k1) N i

noncomputable def porterbase_SameEvents_g1 (N : Nat) (i : ((List (Int × ((List UInt8) × (Int × (Int × ((List UInt8) × Unit)))))) × (List (Int × ((List UInt8) × (Int × (Int × ((List UInt8) × Unit)))))))) (v : Int) (r : Int → Option Bool) (K : Ex → List A → Option Bool) : Option Bool :=
  porterbase_SameEvents_s1 N i.1 i.2 v (fun i => (r i)) (fun a0 => (K .ret (mkS [(4, .v .bool)] 21 (a0, ())))) (K (.exit 0) (mkS [] 26 ()))

noncomputable def porterbase_SameEvents_h1 (N : Nat) : Hd Bool := fun st K => (unS [(0, .v (.sl (.pair (.int .i64) (.pair .str (.pair (.int .i64) (.pair (.int .i64) (.pair .str .unit))))))), (0, .v (.sl (.pair (.int .i64) (.pair .str (.pair (.int .i64) (.pair (.int .i64) (.pair .str .unit))))))), (3, .v (.int .i64))] 20 (restr [5, 0, 1] 0 st)).bind fun x => iter (fun v r => porterbase_SameEvents_g1 N ((fun x => (x.1, x.2.1)) x) v r K) N ((fun x => x.2.2.1) x)

noncomputable def porterbase_SameEvents_t1 (N : Nat) : Tab Bool := []

theorem porterbase_SameEvents_ok1 {N : Nat} {c : Ctx} (hb : Base Go.Proofs.Try.prog (porterbase_SameEvents_E N) c) : CodeOk Go.Proofs.Try.prog c (nodeAt porterbase_SameEvents_body [0, 1, 0, 1, 1]) (porterbase_SameEvents_h1 N) :=
  loop_ok (s := [(0, .v (.sl (.pair (.int .i64) (.pair .str (.pair (.int .i64) (.pair (.int .i64) (.pair .str .unit))))))), (0, .v (.sl (.pair (.int .i64) (.pair .str (.pair (.int .i64) (.pair (.int .i64) (.pair .str .unit))))))), (3, .v (.int .i64))]) (m := 20) (porterbase_SameEvents_g1 N) [5, 0, 1] N (fun x => (x.1, x.2.1)) (fun x => x.2.2.1) (fun i v => (i.1, i.2, v, ())) (fun _ => rfl) (evN_sound hb N (porterbase_SameEvents_t1 N) porterbase_SameEvents_L porterbase_SameEvents_body TabOk.nil [0, 0, 1, 0, 1, 1] _ rfl) (fun i v r K => by kernel_rfl)

noncomputable def porterbase_SameEvents (N : Nat) (a : (List (Int × ((List UInt8) × (Int × (Int × ((List UInt8) × Unit))))))) (b : (List (Int × ((List UInt8) × (Int × (Int × ((List UInt8) × Unit))))))) : Option Bool :=
  cond ((((List.length a) : Nat) : Int) != (((List.length b) : Nat) : Int))
  (some false)
  (porterbase_SameEvents_p1 N a b (0 : Int)
    (fun x4 => some x4)
    (some true))

noncomputable def porterbase_SameEvents_t (N : Nat) : Tab Bool := [([0, 1, 0, 1, 1], porterbase_SameEvents_h1 N)]

theorem porterbase_SameEvents_link (N : Nat) (x : denS [(0, .v (.sl (.pair (.int .i64) (.pair .str (.pair (.int .i64) (.pair (.int .i64) (.pair .str .unit))))))), (0, .v (.sl (.pair (.int .i64) (.pair .str (.pair (.int .i64) (.pair (.int .i64) (.pair .str .unit)))))))]) : evFX (porterbase_SameEvents_E N) N (porterbase_SameEvents_t N) porterbase_SameEvents_L Go.Proofs.Try.f15 (mkS [(0, .v (.sl (.pair (.int .i64) (.pair .str (.pair (.int .i64) (.pair (.int .i64) (.pair .str .unit))))))), (0, .v (.sl (.pair (.int .i64) (.pair .str (.pair (.int .i64) (.pair (.int .i64) (.pair .str .unit)))))))] 0 x) (kRes (.v .bool) 2) = porterbase_SameEvents N x.1 x.2.1 := by kernel_rfl

noncomputable def porterbase_SameEvents_res (N : Nat) : List A → Res := resOf [(0, .v (.sl (.pair (.int .i64) (.pair .str (.pair (.int .i64) (.pair (.int .i64) (.pair .str .unit))))))), (0, .v (.sl (.pair (.int .i64) (.pair .str (.pair (.int .i64) (.pair (.int .i64) (.pair .str .unit)))))))] (fun x => porterbase_SameEvents N x.1 x.2.1) (oRes (.v .bool) 2)

theorem porterbase_SameEvents_ct (N : Nat) : Contract Go.Proofs.Try.prog noGlob 15 (porterbase_SameEvents_res N) :=
  Contract.of (E := porterbase_SameEvents_E N) (H := porterbase_SameEvents_t N) (L := porterbase_SameEvents_L) (N := N) (body := porterbase_SameEvents_body) (K := (kRes (.v .bool) 2)) (porterbase_SameEvents_Eok N) Go.Proofs.Try.func15 (by kernel_rfl) (by decide) (fun _ hb => (TabOk.cons (porterbase_SameEvents_ok1 hb) TabOk.nil)) (fun x y h => by rw [porterbase_SameEvents_link]; exact h) (kRes_ok (s := (.v .bool)) (m := 2))

abbrev porterlaw39_RecordGets_R : Type := Bool

noncomputable def porterlaw39_RecordGets_body : Code := (Go.Proofs.Try.f4.body).getD .skip

noncomputable def porterlaw39_RecordGets_L : List (List Nat × List Nat) := [([0], [0]), ([0, 0, 1], [13, 0]), ([1, 0, 1], [0]), ([0, 0, 1, 0, 1], [2]), ([1, 0, 1, 0, 1], [2]), ([0, 1, 1], [0, 3, 4]), ([0, 1, 1, 1], [0, 3, 5, 4, 6]), ([0, 1, 1, 1, 1], [0, 3, 5, 4, 6, 7, 8]), ([0, 1, 1, 1, 1, 1], [3, 5, 4, 6, 7, 9, 8, 10]), ([0, 1, 1, 1, 1, 1, 1], [2]), ([1, 1, 1, 1, 1, 1, 1], [2])]

noncomputable def porterlaw39_RecordGets_E (N : Nat) : Env := mkEnv tys noGlob [(15, porterbase_SameEvents_res N), (14, porterref39_Read_res N), (13, record_Read_res N), (12, porterref39_Get_res N), (6, porterlaw39_works_res N), (11, record_Get_res N)] [(7, (.pair (.int .i64) (.pair .str (.pair (.int .i64) (.pair (.int .i64) (.pair .str .unit)))))), (9, (.pair (.int .i64) (.pair .str (.pair (.int .i64) (.pair (.int .i64) (.pair .str .unit))))))] [] [] false [] []

theorem porterlaw39_RecordGets_Eok (N : Nat) : EnvOk Go.Proofs.Try.prog (porterlaw39_RecordGets_E N) := mkEnv_ok mixed tys_ok (FnsOk.cons (porterbase_SameEvents_ct N) (FnsOk.cons (porterref39_Read_ct N) (FnsOk.cons (record_Read_ct N) (FnsOk.cons (porterref39_Get_ct N) (FnsOk.cons (porterlaw39_works_ct N) (FnsOk.cons (record_Get_ct N) (FnsOk.nil))))))) (ItsOk.nil)

noncomputable def porterlaw39_RecordGets (N : Nat) (s : (List UInt8)) : Option Bool :=
  cond (decide ((2000 : Int) < (((List.length s) : Nat) : Int)))
  ((porterlaw39_works N).bind fun y =>
    some y)
  ((record_Get N s).bind fun y1 =>
    (porterref39_Get N s).bind fun y2 =>
    (record_Read N s).bind fun y3 =>
    (porterref39_Read N s).bind fun y4 =>
    cond (Go.Lift.eqD (Go.Lift.T.pair (Go.Lift.T.int Go.IntKind.i64) (Go.Lift.T.pair Go.Lift.T.str (Go.Lift.T.pair (Go.Lift.T.int Go.IntKind.i64) (Go.Lift.T.pair (Go.Lift.T.int Go.IntKind.i64) (Go.Lift.T.pair Go.Lift.T.str Go.Lift.T.unit))))) y1.1 y2.1)
    (cond (y1.2.1 == y2.2.1)
      ((porterbase_SameEvents N y3.1 y4.1).bind fun y5 =>
        cond y5
        (cond (y3.2.1 == y4.2.1)
          ((porterlaw39_works N).bind fun y6 =>
            some y6)
          (some false))
        (some false))
      (some false))
    (some false))

noncomputable def porterlaw39_RecordGets_t (N : Nat) : Tab Bool := []

theorem porterlaw39_RecordGets_link (N : Nat) (x : denS [(0, .v .str)]) : evFX (porterlaw39_RecordGets_E N) N (porterlaw39_RecordGets_t N) porterlaw39_RecordGets_L Go.Proofs.Try.f4 (mkS [(0, .v .str)] 0 x) (kRes (.v .bool) 1) = porterlaw39_RecordGets N x.1 := by kernel_rfl

noncomputable def porterlaw39_RecordGets_res (N : Nat) : List A → Res := resOf [(0, .v .str)] (fun x => porterlaw39_RecordGets N x.1) (oRes (.v .bool) 1)

theorem porterlaw39_RecordGets_ct (N : Nat) : Contract Go.Proofs.Try.prog noGlob 4 (porterlaw39_RecordGets_res N) :=
  Contract.of (E := porterlaw39_RecordGets_E N) (H := porterlaw39_RecordGets_t N) (L := porterlaw39_RecordGets_L) (N := N) (body := porterlaw39_RecordGets_body) (K := (kRes (.v .bool) 1)) (porterlaw39_RecordGets_Eok N) Go.Proofs.Try.func4 (by kernel_rfl) (by decide) (fun _ hb => TabOk.nil) (fun x y h => by rw [porterlaw39_RecordGets_link]; exact h) (kRes_ok (s := (.v .bool)) (m := 1))

abbrev porterlaw39_RecordBack_R : Type := Bool

noncomputable def porterlaw39_RecordBack_body : Code := (Go.Proofs.Try.f5.body).getD .skip

noncomputable def porterlaw39_RecordBack_L : List (List Nat × List Nat) := [([0], [0, 1]), ([0, 0, 1], [29, 0, 1]), ([1, 0, 1], [0, 1]), ([0, 0, 1, 0, 1], [4]), ([1, 0, 1, 0, 1], [4]), ([0, 1, 1], [6, 5, 0, 1]), ([0, 0, 1, 1, 1], [37, 5, 0, 1]), ([1, 0, 1, 1, 1], [1]), ([0, 0, 1, 0, 1, 1, 1], [8, 7, 0, 1]), ([0, 0, 1, 0, 1, 0, 1, 1, 1], [50, 0, 1]), ([1, 0, 1, 0, 1, 0, 1, 1, 1], [0, 1]), ([0, 0, 1, 0, 1, 0, 1, 0, 1, 1, 1], [4]), ([1, 0, 1, 0, 1, 0, 1, 0, 1, 1, 1], [4]), ([0, 1, 1, 0, 1, 0, 1, 1, 1], [9, 0, 1]), ([0, 1, 1, 1, 0, 1, 0, 1, 1, 1], [9, 0, 1]), ([0, 0, 0, 0, 1, 1, 1, 0, 1, 0, 1, 1, 1], [54, 0, 9, 1]), ([1, 0, 0, 0, 1, 1, 1, 0, 1, 0, 1, 1, 1], [0, 9, 1]), ([1, 1, 0, 0, 0, 1, 1, 1, 0, 1, 0, 1, 1, 1], [1]), ([0, 0, 0, 1, 0, 0, 1, 1, 1, 0, 1, 0, 1, 1, 1], [10, 11, 0, 9, 1]), ([0, 1, 0, 0, 1, 0, 0, 1, 1, 1, 0, 1, 0, 1, 1, 1], [11, 13, 12, 0, 9, 1]), ([0, 1, 1, 0, 0, 1, 0, 0, 1, 1, 1, 0, 1, 0, 1, 1, 1], [83, 9, 0, 1]), ([1, 1, 1, 0, 0, 1, 0, 0, 1, 1, 1, 0, 1, 0, 1, 1, 1], [9, 0, 1]), ([0, 0, 1, 1, 1, 0, 0, 1, 0, 0, 1, 1, 1, 0, 1, 0, 1, 1, 1], [4]), ([1, 0, 1, 1, 1, 0, 0, 1, 0, 0, 1, 1, 1, 0, 1, 0, 1, 1, 1], [4]), ([0, 1, 0, 0, 1, 1, 1, 0, 1, 0, 1, 1, 1], [9, 0, 1]), ([1, 1, 0, 0, 1, 1, 1, 0, 1, 0, 1, 1, 1], [9, 0, 1]), ([1, 1, 1, 0, 1, 0, 1, 1, 1], [1]), ([0, 1, 1, 1, 1], [14, 1, 15]), ([0, 1, 1, 1, 1, 1], [1, 15, 17, 16]), ([0, 1, 1, 1, 1, 1, 1], [18, 15, 17, 16, 1, 19]), ([0, 1, 1, 1, 1, 1, 1, 1], [15, 17, 16, 1, 19, 21, 20]), ([0, 1, 1, 1, 1, 1, 1, 1, 1], [4]), ([1, 1, 1, 1, 1, 1, 1, 1, 1], [4])]

noncomputable def porterlaw39_RecordBack_E (N : Nat) : Env := mkEnv tys noGlob [(15, porterbase_SameEvents_res N), (13, record_Read_res N), (9, record_Batch_res N), (6, porterlaw39_works_res N), (11, record_Get_res N), (7, record_Put_res N)] [(7, (.pair (.int .i64) (.pair .str (.pair (.int .i64) (.pair (.int .i64) (.pair .str .unit)))))), (18, (.pair (.int .i64) (.pair .str (.pair (.int .i64) (.pair (.int .i64) (.pair .str .unit))))))] [] [] false [] []

theorem porterlaw39_RecordBack_Eok (N : Nat) : EnvOk Go.Proofs.Try.prog (porterlaw39_RecordBack_E N) := mkEnv_ok mixed tys_ok (FnsOk.cons (porterbase_SameEvents_ct N) (FnsOk.cons (record_Read_ct N) (FnsOk.cons (record_Batch_ct N) (FnsOk.cons (porterlaw39_works_ct N) (FnsOk.cons (record_Get_ct N) (FnsOk.cons (record_Put_ct N) (FnsOk.nil))))))) (ItsOk.nil)

noncomputable def porterlaw39_RecordBack_p2 (N : Nat) (l : (List (Int × ((List UInt8) × (Int × (Int × ((List UInt8) × Unit))))))) (s : (List UInt8)) (k0 : Bool → Option Bool) : Option Bool :=
  cond (decide ((40 : Int) < (((List.length l) : Nat) : Int)))
  (k0 true)
  (k0 (decide ((2000 : Int) < (((List.length s) : Nat) : Int))))

noncomputable def porterlaw39_RecordBack_g2 (N : Nat) (x : denS [(0, .v (.sl (.pair (.int .i64) (.pair .str (.pair (.int .i64) (.pair (.int .i64) (.pair .str .unit))))))), (0, .v .str)]) (K : Ex → List A → Option Bool) : Option Bool :=
  porterlaw39_RecordBack_p2 N x.1 x.2.1 (fun a2 => (K .normal (mkS [(0, .v (.sl (.pair (.int .i64) (.pair .str (.pair (.int .i64) (.pair (.int .i64) (.pair .str .unit))))))), (0, .v .str), (27, .v .bool)] 101 (x.1, x.2.1, a2, ()))))

noncomputable def porterlaw39_RecordBack_h2 (N : Nat) : Hd Bool := fun st K => (unS [(0, .v (.sl (.pair (.int .i64) (.pair .str (.pair (.int .i64) (.pair (.int .i64) (.pair .str .unit))))))), (0, .v .str)] 129 (restr [0, 1] 0 st)).bind fun x => porterlaw39_RecordBack_g2 N x K

noncomputable def porterlaw39_RecordBack_t2 (N : Nat) : Tab Bool := []

theorem porterlaw39_RecordBack_ok2 {N : Nat} {c : Ctx} (hb : Base Go.Proofs.Try.prog (porterlaw39_RecordBack_E N) c) : CodeOk Go.Proofs.Try.prog c (nodeAt porterlaw39_RecordBack_body [0, 0, 1]) (porterlaw39_RecordBack_h2 N) :=
  piece_ok (s := [(0, .v (.sl (.pair (.int .i64) (.pair .str (.pair (.int .i64) (.pair (.int .i64) (.pair .str .unit))))))), (0, .v .str)]) (m := 129) (g := porterlaw39_RecordBack_g2 N) [0, 1] (evN_sound hb N (porterlaw39_RecordBack_t2 N) porterlaw39_RecordBack_L porterlaw39_RecordBack_body TabOk.nil [0, 0, 1] _ rfl) (fun x K => by kernel_rfl)

noncomputable def porterlaw39_RecordBack_p1 (N : Nat) (l : (List (Int × ((List UInt8) × (Int × (Int × ((List UInt8) × Unit))))))) (s : (List UInt8)) (k0 : Bool → Option Bool) (k1 : Option Bool) : Option Bool :=
  porterlaw39_RecordBack_p2 N l s
  (fun x29 => cond x29
    ((porterlaw39_works N).bind fun y =>
      k0 y)
    (k1))

noncomputable def porterlaw39_RecordBack_g1 (N : Nat) (x : denS [(0, .v (.sl (.pair (.int .i64) (.pair .str (.pair (.int .i64) (.pair (.int .i64) (.pair .str .unit))))))), (0, .v .str)]) (K : Ex → List A → Option Bool) : Option Bool :=
  porterlaw39_RecordBack_p1 N x.1 x.2.1 (fun a0 => (K .ret (mkS [(4, .v .bool)] 126 (a0, ())))) (K .normal (mkS [(0, .v (.sl (.pair (.int .i64) (.pair .str (.pair (.int .i64) (.pair (.int .i64) (.pair .str .unit))))))), (0, .v .str)] 129 (x.1, x.2.1, ())))

noncomputable def porterlaw39_RecordBack_h1 (N : Nat) : Hd Bool := fun st K => (unS [(0, .v (.sl (.pair (.int .i64) (.pair .str (.pair (.int .i64) (.pair (.int .i64) (.pair .str .unit))))))), (0, .v .str)] 129 (restr [0, 1] 0 st)).bind fun x => porterlaw39_RecordBack_g1 N x K

noncomputable def porterlaw39_RecordBack_t1 (N : Nat) : Tab Bool := [([0, 0, 1], porterlaw39_RecordBack_h2 N)]

theorem porterlaw39_RecordBack_ok1 {N : Nat} {c : Ctx} (hb : Base Go.Proofs.Try.prog (porterlaw39_RecordBack_E N) c) : CodeOk Go.Proofs.Try.prog c (nodeAt porterlaw39_RecordBack_body [0, 1]) (porterlaw39_RecordBack_h1 N) :=
  piece_ok (s := [(0, .v (.sl (.pair (.int .i64) (.pair .str (.pair (.int .i64) (.pair (.int .i64) (.pair .str .unit))))))), (0, .v .str)]) (m := 129) (g := porterlaw39_RecordBack_g1 N) [0, 1] (evN_sound hb N (porterlaw39_RecordBack_t1 N) porterlaw39_RecordBack_L porterlaw39_RecordBack_body (TabOk.cons (porterlaw39_RecordBack_ok2 hb) TabOk.nil) [0, 1] _ rfl) (fun x K => by kernel_rfl)

noncomputable def porterlaw39_RecordBack_p5 (N : Nat) (l : (List (Int × ((List UInt8) × (Int × (Int × ((List UInt8) × Unit))))))) (s : (List UInt8)) (m : (List (Int × ((List UInt8) × (Int × (Int × ((List UInt8) × Unit))))))) (f : Int) (k0 : Bool → Option Bool) : Option Bool :=
  cond (f != (0 : Int))
  (k0 true)
  ((porterbase_SameEvents N m l).bind fun y =>
    k0 (!y))

noncomputable def porterlaw39_RecordBack_g5 (N : Nat) (x : denS [(0, .v (.sl (.pair (.int .i64) (.pair .str (.pair (.int .i64) (.pair (.int .i64) (.pair .str .unit))))))), (0, .v .str), (5, .v (.sl (.pair (.int .i64) (.pair .str (.pair (.int .i64) (.pair (.int .i64) (.pair .str .unit))))))), (0, .v (.int .i64))]) (K : Ex → List A → Option Bool) : Option Bool :=
  porterlaw39_RecordBack_p5 N x.1 x.2.1 x.2.2.1 x.2.2.2.1 (fun a2 => (K .normal (mkS [(0, .v (.sl (.pair (.int .i64) (.pair .str (.pair (.int .i64) (.pair (.int .i64) (.pair .str .unit))))))), (0, .v .str), (48, .v .bool)] 80 (x.1, x.2.1, a2, ()))))

noncomputable def porterlaw39_RecordBack_h5 (N : Nat) : Hd Bool := fun st K => (unS [(0, .v (.sl (.pair (.int .i64) (.pair .str (.pair (.int .i64) (.pair (.int .i64) (.pair .str .unit))))))), (0, .v .str), (5, .v (.sl (.pair (.int .i64) (.pair .str (.pair (.int .i64) (.pair (.int .i64) (.pair .str .unit))))))), (0, .v (.int .i64))] 122 (restr [8, 7, 0, 1] 0 st)).bind fun x => porterlaw39_RecordBack_g5 N x K

noncomputable def porterlaw39_RecordBack_t5 (N : Nat) : Tab Bool := []

theorem porterlaw39_RecordBack_ok5 {N : Nat} {c : Ctx} (hb : Base Go.Proofs.Try.prog (porterlaw39_RecordBack_E N) c) : CodeOk Go.Proofs.Try.prog c (nodeAt porterlaw39_RecordBack_body [0, 0, 1, 0, 1, 0, 1, 1, 1]) (porterlaw39_RecordBack_h5 N) :=
  piece_ok (s := [(0, .v (.sl (.pair (.int .i64) (.pair .str (.pair (.int .i64) (.pair (.int .i64) (.pair .str .unit))))))), (0, .v .str), (5, .v (.sl (.pair (.int .i64) (.pair .str (.pair (.int .i64) (.pair (.int .i64) (.pair .str .unit))))))), (0, .v (.int .i64))]) (m := 122) (g := porterlaw39_RecordBack_g5 N) [8, 7, 0, 1] (evN_sound hb N (porterlaw39_RecordBack_t5 N) porterlaw39_RecordBack_L porterlaw39_RecordBack_body TabOk.nil [0, 0, 1, 0, 1, 0, 1, 1, 1] _ rfl) (fun x K => by kernel_rfl)

noncomputable def porterlaw39_RecordBack_p4 (N : Nat) (l : (List (Int × ((List UInt8) × (Int × (Int × ((List UInt8) × Unit))))))) (s : (List UInt8)) (m : (List (Int × ((List UInt8) × (Int × (Int × ((List UInt8) × Unit))))))) (f : Int) (k0 : Bool → Option Bool) (k1 : Option Bool) : Option Bool :=
  porterlaw39_RecordBack_p5 N l s m f
  (fun x50 => cond x50
    (k0 false)
    (k1))

noncomputable def porterlaw39_RecordBack_g4 (N : Nat) (x : denS [(0, .v (.sl (.pair (.int .i64) (.pair .str (.pair (.int .i64) (.pair (.int .i64) (.pair .str .unit))))))), (0, .v .str), (5, .v (.sl (.pair (.int .i64) (.pair .str (.pair (.int .i64) (.pair (.int .i64) (.pair .str .unit))))))), (0, .v (.int .i64))]) (K : Ex → List A → Option Bool) : Option Bool :=
  porterlaw39_RecordBack_p4 N x.1 x.2.1 x.2.2.1 x.2.2.2.1 (fun a0 => (K .ret (mkS [(4, .v .bool)] 126 (a0, ())))) (K .normal (mkS [(0, .v (.sl (.pair (.int .i64) (.pair .str (.pair (.int .i64) (.pair (.int .i64) (.pair .str .unit))))))), (0, .v .str)] 129 (x.1, x.2.1, ())))

noncomputable def porterlaw39_RecordBack_h4 (N : Nat) : Hd Bool := fun st K => (unS [(0, .v (.sl (.pair (.int .i64) (.pair .str (.pair (.int .i64) (.pair (.int .i64) (.pair .str .unit))))))), (0, .v .str), (5, .v (.sl (.pair (.int .i64) (.pair .str (.pair (.int .i64) (.pair (.int .i64) (.pair .str .unit))))))), (0, .v (.int .i64))] 122 (restr [8, 7, 0, 1] 0 st)).bind fun x => porterlaw39_RecordBack_g4 N x K

noncomputable def porterlaw39_RecordBack_t4 (N : Nat) : Tab Bool := [([0, 0, 1, 0, 1, 0, 1, 1, 1], porterlaw39_RecordBack_h5 N)]

theorem porterlaw39_RecordBack_ok4 {N : Nat} {c : Ctx} (hb : Base Go.Proofs.Try.prog (porterlaw39_RecordBack_E N) c) : CodeOk Go.Proofs.Try.prog c (nodeAt porterlaw39_RecordBack_body [0, 1, 0, 1, 0, 1, 1, 1]) (porterlaw39_RecordBack_h4 N) :=
  piece_ok (s := [(0, .v (.sl (.pair (.int .i64) (.pair .str (.pair (.int .i64) (.pair (.int .i64) (.pair .str .unit))))))), (0, .v .str), (5, .v (.sl (.pair (.int .i64) (.pair .str (.pair (.int .i64) (.pair (.int .i64) (.pair .str .unit))))))), (0, .v (.int .i64))]) (m := 122) (g := porterlaw39_RecordBack_g4 N) [8, 7, 0, 1] (evN_sound hb N (porterlaw39_RecordBack_t4 N) porterlaw39_RecordBack_L porterlaw39_RecordBack_body (TabOk.cons (porterlaw39_RecordBack_ok5 hb) TabOk.nil) [0, 1, 0, 1, 0, 1, 1, 1] _ rfl) (fun x K => by kernel_rfl)

noncomputable def porterlaw39_RecordBack_p8 (N : Nat) (l : (List (Int × ((List UInt8) × (Int × (Int × ((List UInt8) × Unit))))))) (s : (List UInt8)) (i : Int) (g : Int) (x12 : (Int × ((List UInt8) × (Int × (Int × ((List UInt8) × Unit)))))) (h : Int) (k0 : Bool → Option Bool) : Option Bool :=
  cond (g != (0 : Int))
  (k0 true)
  (cond (h != (0 : Int))
    (k0 true)
    (cond (Go.Lift.inR i (List.length l))
      (k0 (!(Go.Lift.eqD (Go.Lift.T.pair (Go.Lift.T.int Go.IntKind.i64) (Go.Lift.T.pair Go.Lift.T.str (Go.Lift.T.pair (Go.Lift.T.int Go.IntKind.i64) (Go.Lift.T.pair (Go.Lift.T.int Go.IntKind.i64) (Go.Lift.T.pair Go.Lift.T.str Go.Lift.T.unit))))) x12 (List.getD l (Int.toNat i) ((0 : Int), (([] : List UInt8), ((0 : Int), ((0 : Int), (([] : List UInt8), ())))))))))
      (none)))

noncomputable def porterlaw39_RecordBack_g8 (N : Nat) (x : denS [(0, .v (.sl (.pair (.int .i64) (.pair .str (.pair (.int .i64) (.pair (.int .i64) (.pair .str .unit))))))), (0, .v .str), (7, .v (.int .i64)), (1, .v (.int .i64)), (0, .box (.pair (.int .i64) (.pair .str (.pair (.int .i64) (.pair (.int .i64) (.pair .str .unit)))))), (0, .v (.int .i64))]) (K : Ex → List A → Option Bool) : Option Bool :=
  porterlaw39_RecordBack_p8 N x.1 x.2.1 x.2.2.1 x.2.2.2.1 x.2.2.2.2.1 x.2.2.2.2.2.1 (fun a3 => (K .normal (mkS [(0, .v (.sl (.pair (.int .i64) (.pair .str (.pair (.int .i64) (.pair (.int .i64) (.pair .str .unit))))))), (0, .v .str), (7, .v (.int .i64)), (73, .v .bool)] 47 (x.1, x.2.1, x.2.2.1, a3, ()))))

noncomputable def porterlaw39_RecordBack_h8 (N : Nat) : Hd Bool := fun st K => (unS [(0, .v (.sl (.pair (.int .i64) (.pair .str (.pair (.int .i64) (.pair (.int .i64) (.pair .str .unit))))))), (0, .v .str), (7, .v (.int .i64)), (1, .v (.int .i64)), (0, .box (.pair (.int .i64) (.pair .str (.pair (.int .i64) (.pair (.int .i64) (.pair .str .unit)))))), (0, .v (.int .i64))] 117 (restr [11, 13, 12, 0, 9, 1] 0 st)).bind fun x => porterlaw39_RecordBack_g8 N x K

noncomputable def porterlaw39_RecordBack_t8 (N : Nat) : Tab Bool := []

theorem porterlaw39_RecordBack_ok8 {N : Nat} {c : Ctx} (hb : Base Go.Proofs.Try.prog (porterlaw39_RecordBack_E N) c) : CodeOk Go.Proofs.Try.prog c (nodeAt porterlaw39_RecordBack_body [0, 1, 1, 0, 0, 1, 0, 0, 1, 1, 1, 0, 1, 0, 1, 1, 1]) (porterlaw39_RecordBack_h8 N) :=
  piece_ok (s := [(0, .v (.sl (.pair (.int .i64) (.pair .str (.pair (.int .i64) (.pair (.int .i64) (.pair .str .unit))))))), (0, .v .str), (7, .v (.int .i64)), (1, .v (.int .i64)), (0, .box (.pair (.int .i64) (.pair .str (.pair (.int .i64) (.pair (.int .i64) (.pair .str .unit)))))), (0, .v (.int .i64))]) (m := 117) (g := porterlaw39_RecordBack_g8 N) [11, 13, 12, 0, 9, 1] (evN_sound hb N (porterlaw39_RecordBack_t8 N) porterlaw39_RecordBack_L porterlaw39_RecordBack_body TabOk.nil [0, 1, 1, 0, 0, 1, 0, 0, 1, 1, 1, 0, 1, 0, 1, 1, 1] _ rfl) (fun x K => by kernel_rfl)

noncomputable def porterlaw39_RecordBack_p7 (N : Nat) (l : (List (Int × ((List UInt8) × (Int × (Int × ((List UInt8) × Unit))))))) (s : (List UInt8)) (i : Int) (k0 : Bool → Option Bool) (k1 : Option Bool) : Option Bool :=
  cond (Go.Lift.inR i (List.length l))
  ((record_Put N (List.getD l (Int.toNat i) ((0 : Int), (([] : List UInt8), ((0 : Int), ((0 : Int), (([] : List UInt8), ()))))))).bind fun y =>
    (record_Get N y.1).bind fun y1 =>
    porterlaw39_RecordBack_p8 N l s i y.2.1 y1.1 y1.2.1
    (fun x83 => cond x83
      (k0 false)
      (k1)))
  (none)

noncomputable def porterlaw39_RecordBack_g7 (N : Nat) (x : denS [(0, .v (.sl (.pair (.int .i64) (.pair .str (.pair (.int .i64) (.pair (.int .i64) (.pair .str .unit))))))), (0, .v .str), (7, .v (.int .i64))]) (K : Ex → List A → Option Bool) : Option Bool :=
  porterlaw39_RecordBack_p7 N x.1 x.2.1 x.2.2.1 (fun a0 => (K .ret (mkS [(4, .v .bool)] 126 (a0, ())))) (K .normal (mkS [(0, .v (.sl (.pair (.int .i64) (.pair .str (.pair (.int .i64) (.pair (.int .i64) (.pair .str .unit))))))), (0, .v .str), (7, .v (.int .i64))] 121 (x.1, x.2.1, x.2.2.1, ())))

noncomputable def porterlaw39_RecordBack_h7 (N : Nat) : Hd Bool := fun st K => (unS [(0, .v (.sl (.pair (.int .i64) (.pair .str (.pair (.int .i64) (.pair (.int .i64) (.pair .str .unit))))))), (0, .v .str), (7, .v (.int .i64))] 121 (restr [0, 9, 1] 0 st)).bind fun x => porterlaw39_RecordBack_g7 N x K

noncomputable def porterlaw39_RecordBack_t7 (N : Nat) : Tab Bool := [([0, 1, 1, 0, 0, 1, 0, 0, 1, 1, 1, 0, 1, 0, 1, 1, 1], porterlaw39_RecordBack_h8 N)]

theorem porterlaw39_RecordBack_ok7 {N : Nat} {c : Ctx} (hb : Base Go.Proofs.Try.prog (porterlaw39_RecordBack_E N) c) : CodeOk Go.Proofs.Try.prog c (nodeAt porterlaw39_RecordBack_body [0, 1, 0, 0, 1, 1, 1, 0, 1, 0, 1, 1, 1]) (porterlaw39_RecordBack_h7 N) :=
  piece_ok (s := [(0, .v (.sl (.pair (.int .i64) (.pair .str (.pair (.int .i64) (.pair (.int .i64) (.pair .str .unit))))))), (0, .v .str), (7, .v (.int .i64))]) (m := 121) (g := porterlaw39_RecordBack_g7 N) [0, 9, 1] (evN_sound hb N (porterlaw39_RecordBack_t7 N) porterlaw39_RecordBack_L porterlaw39_RecordBack_body (TabOk.cons (porterlaw39_RecordBack_ok8 hb) TabOk.nil) [0, 1, 0, 0, 1, 1, 1, 0, 1, 0, 1, 1, 1] _ rfl) (fun x K => by kernel_rfl)

noncomputable def porterlaw39_RecordBack_s6 (N : Nat) (l : (List (Int × ((List UInt8) × (Int × (Int × ((List UInt8) × Unit))))))) (s : (List UInt8)) (i : Int) (rec : Int → Option Bool) (k0 : Bool → Option Bool) (k1 : Option Bool) : Option Bool :=
  cond (decide (i < (((List.length l) : Nat) : Int)))
  (porterlaw39_RecordBack_p7 N l s i
    (fun x4 => k0 x4)
    (rec (Go.IntKind.wrap Go.IntKind.i64 (i + (1 : Int)))))
  (k1)

noncomputable def porterlaw39_RecordBack_p6 (N : Nat) (l : (List (Int × ((List UInt8) × (Int × (Int × ((List UInt8) × Unit))))))) (s : (List UInt8)) (i : Int) (k0 : Bool → Option Bool) (k1 : Option Bool) : Option Bool :=
  iter (fun (v : Int) r => porterlaw39_RecordBack_s6 N l s v (fun i => (r i)) k0 k1) N i

noncomputable def porterlaw39_RecordBack_g6 (N : Nat) (i : ((List (Int × ((List UInt8) × (Int × (Int × ((List UInt8) × Unit)))))) × (List UInt8))) (v : Int) (r : Int → Option Bool) (K : Ex → List A → Option Bool) : Option Bool :=
  porterlaw39_RecordBack_s6 N i.1 i.2 v (fun i => (r i)) (fun a0 => (K .ret (mkS [(4, .v .bool)] 126 (a0, ())))) (K (.exit 0) (mkS [(1, .v .str)] 129 (i.2, ())))

noncomputable def porterlaw39_RecordBack_h6 (N : Nat) : Hd Bool := fun st K => (unS [(0, .v (.sl (.pair (.int .i64) (.pair .str (.pair (.int .i64) (.pair (.int .i64) (.pair .str .unit))))))), (0, .v .str), (7, .v (.int .i64))] 121 (restr [9, 0, 1] 0 st)).bind fun x => iter (fun v r => porterlaw39_RecordBack_g6 N ((fun x => (x.1, x.2.1)) x) v r K) N ((fun x => x.2.2.1) x)

noncomputable def porterlaw39_RecordBack_t6 (N : Nat) : Tab Bool := [([0, 1, 0, 0, 1, 1, 1, 0, 1, 0, 1, 1, 1], porterlaw39_RecordBack_h7 N)]

theorem porterlaw39_RecordBack_ok6 {N : Nat} {c : Ctx} (hb : Base Go.Proofs.Try.prog (porterlaw39_RecordBack_E N) c) : CodeOk Go.Proofs.Try.prog c (nodeAt porterlaw39_RecordBack_body [0, 1, 1, 1, 0, 1, 0, 1, 1, 1]) (porterlaw39_RecordBack_h6 N) :=
  loop_ok (s := [(0, .v (.sl (.pair (.int .i64) (.pair .str (.pair (.int .i64) (.pair (.int .i64) (.pair .str .unit))))))), (0, .v .str), (7, .v (.int .i64))]) (m := 121) (porterlaw39_RecordBack_g6 N) [9, 0, 1] N (fun x => (x.1, x.2.1)) (fun x => x.2.2.1) (fun i v => (i.1, i.2, v, ())) (fun _ => rfl) (evN_sound hb N (porterlaw39_RecordBack_t6 N) porterlaw39_RecordBack_L porterlaw39_RecordBack_body (TabOk.cons (porterlaw39_RecordBack_ok7 hb) TabOk.nil) [0, 0, 1, 1, 1, 0, 1, 0, 1, 1, 1] _ rfl) (fun i v r K => by kernel_rfl)

noncomputable def porterlaw39_RecordBack_p3 (N : Nat) (l : (List (Int × ((List UInt8) × (Int × (Int × ((List UInt8) × Unit))))))) (s : (List UInt8)) (a : (List UInt8)) (e : Int) (k0 : Bool → Option Bool) (k1 : Option Bool) : Option Bool :=
  cond (e == (0 : Int))
  ((record_Read N a).bind fun y =>
    porterlaw39_RecordBack_p4 N l s y.1 y.2.1
    (fun x4 => k0 x4)
    (porterlaw39_RecordBack_p6 N l s (0 : Int)
      (fun x41 => k0 x41)
      (k1)))
  (k1)

noncomputable def porterlaw39_RecordBack_g3 (N : Nat) (x : denS [(0, .v (.sl (.pair (.int .i64) (.pair .str (.pair (.int .i64) (.pair (.int .i64) (.pair .str .unit))))))), (0, .v .str), (3, .v .str), (0, .v (.int .i64))]) (K : Ex → List A → Option Bool) : Option Bool :=
  porterlaw39_RecordBack_p3 N x.1 x.2.1 x.2.2.1 x.2.2.2.1 (fun a0 => (K .ret (mkS [(4, .v .bool)] 126 (a0, ())))) (K .normal (mkS [(1, .v .str)] 129 (x.2.1, ())))

noncomputable def porterlaw39_RecordBack_h3 (N : Nat) : Hd Bool := fun st K => (unS [(0, .v (.sl (.pair (.int .i64) (.pair .str (.pair (.int .i64) (.pair (.int .i64) (.pair .str .unit))))))), (0, .v .str), (3, .v .str), (0, .v (.int .i64))] 124 (restr [6, 5, 0, 1] 0 st)).bind fun x => porterlaw39_RecordBack_g3 N x K

noncomputable def porterlaw39_RecordBack_t3 (N : Nat) : Tab Bool := [([0, 1, 0, 1, 0, 1, 1, 1], porterlaw39_RecordBack_h4 N), ([0, 1, 1, 1, 0, 1, 0, 1, 1, 1], porterlaw39_RecordBack_h6 N)]

theorem porterlaw39_RecordBack_ok3 {N : Nat} {c : Ctx} (hb : Base Go.Proofs.Try.prog (porterlaw39_RecordBack_E N) c) : CodeOk Go.Proofs.Try.prog c (nodeAt porterlaw39_RecordBack_body [0, 1, 1, 1]) (porterlaw39_RecordBack_h3 N) :=
  piece_ok (s := [(0, .v (.sl (.pair (.int .i64) (.pair .str (.pair (.int .i64) (.pair (.int .i64) (.pair .str .unit))))))), (0, .v .str), (3, .v .str), (0, .v (.int .i64))]) (m := 124) (g := porterlaw39_RecordBack_g3 N) [6, 5, 0, 1] (evN_sound hb N (porterlaw39_RecordBack_t3 N) porterlaw39_RecordBack_L porterlaw39_RecordBack_body (TabOk.cons (porterlaw39_RecordBack_ok4 hb) (TabOk.cons (porterlaw39_RecordBack_ok6 hb) TabOk.nil)) [0, 1, 1, 1] _ rfl) (fun x K => by kernel_rfl)

noncomputable def porterlaw39_RecordBack (N : Nat) (l : (List (Int × ((List UInt8) × (Int × (Int × ((List UInt8) × Unit))))))) (s : (List UInt8)) : Option Bool :=
  porterlaw39_RecordBack_p1 N l s
  (fun x4 => some x4)
  ((record_Batch N l).bind fun y =>
    porterlaw39_RecordBack_p3 N l s y.1 y.2.1
    (fun x41 => some x41)
    ((record_Get N s).bind fun y1 =>
      (record_Put N y1.1).bind fun y2 =>
      (record_Read N s).bind fun y3 =>
      (record_Batch N y3.1).bind fun y4 =>
      cond (y1.2.1 != (0 : Int))
      (cond (y3.2.1 != (0 : Int))
        ((porterlaw39_works N).bind fun y5 =>
          some y5)
        (cond (y4.2.1 == (0 : Int))
          (cond (y4.1 == s)
            ((porterlaw39_works N).bind fun y6 =>
              some y6)
            (some false))
          (some false)))
      (cond (y2.2.1 == (0 : Int))
        (cond (y2.1 == s)
          (cond (y3.2.1 != (0 : Int))
            ((porterlaw39_works N).bind fun y7 =>
              some y7)
            (cond (y4.2.1 == (0 : Int))
              (cond (y4.1 == s)
                ((porterlaw39_works N).bind fun y8 =>
                  some y8)
                (some false))
              (some false)))
          (some false))
        (some false))))

noncomputable def porterlaw39_RecordBack_t (N : Nat) : Tab Bool := [([0, 1], porterlaw39_RecordBack_h1 N), ([0, 1, 1, 1], porterlaw39_RecordBack_h3 N)]

theorem porterlaw39_RecordBack_link (N : Nat) (x : denS [(0, .v (.sl (.pair (.int .i64) (.pair .str (.pair (.int .i64) (.pair (.int .i64) (.pair .str .unit))))))), (0, .v .str)]) : evFX (porterlaw39_RecordBack_E N) N (porterlaw39_RecordBack_t N) porterlaw39_RecordBack_L Go.Proofs.Try.f5 (mkS [(0, .v (.sl (.pair (.int .i64) (.pair .str (.pair (.int .i64) (.pair (.int .i64) (.pair .str .unit))))))), (0, .v .str)] 0 x) (kRes (.v .bool) 2) = porterlaw39_RecordBack N x.1 x.2.1 := by kernel_rfl

noncomputable def porterlaw39_RecordBack_res (N : Nat) : List A → Res := resOf [(0, .v (.sl (.pair (.int .i64) (.pair .str (.pair (.int .i64) (.pair (.int .i64) (.pair .str .unit))))))), (0, .v .str)] (fun x => porterlaw39_RecordBack N x.1 x.2.1) (oRes (.v .bool) 2)

theorem porterlaw39_RecordBack_ct (N : Nat) : Contract Go.Proofs.Try.prog noGlob 5 (porterlaw39_RecordBack_res N) :=
  Contract.of (E := porterlaw39_RecordBack_E N) (H := porterlaw39_RecordBack_t N) (L := porterlaw39_RecordBack_L) (N := N) (body := porterlaw39_RecordBack_body) (K := (kRes (.v .bool) 2)) (porterlaw39_RecordBack_Eok N) Go.Proofs.Try.func5 (by kernel_rfl) (by decide) (fun _ hb => (TabOk.cons (porterlaw39_RecordBack_ok1 hb) (TabOk.cons (porterlaw39_RecordBack_ok3 hb) TabOk.nil))) (fun x y h => by rw [porterlaw39_RecordBack_link]; exact h) (kRes_ok (s := (.v .bool)) (m := 2))

end Go.Proofs.YtdgmejgepcodnaaLg
