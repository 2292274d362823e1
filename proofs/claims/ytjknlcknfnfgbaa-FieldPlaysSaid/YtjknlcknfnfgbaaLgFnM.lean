/- The functions of the seat, as plain functions, and what their calls do. Printed by a program of mine; checked here. -/
import Derived.Test.YtjknlcknfnfgbaaLgFnMt1
import Derived.Test.YtjknlcknfnfgbaaLgFnMt2
import Derived.Test.YtjknlcknfnfgbaaLgFnMt3
import Derived.WalkKit
import Derived.Tactics
import Derived.Tactics2
import Derived.Defers
import Derived.Lib.Hide
import Derived.Below
import Derived.Recover
import Derived.Orders
import Derived.WalkSmall
set_option linter.all false
set_option maxRecDepth 100000
namespace Go.Proofs.YtjknlcknfnfgbaaLg
open Go Go.Lift

theorem ends_of_fine {w w' : World} {S : Hp} {b : Nat} {x x' : RdrT.den} {rest : List A} {vals : List Value} {ob : Nat → List Nat} {rA : A} {rV : Value} {outs : List A}
    (hrest : ∀ y ∈ rest, isBoxA y = false) (hv0 : vals[0]? = some (.pointer (some ⟨b, 0, none⟩))) (hob : ob 0 = [b]) (hob' : ∀ i, i ≠ 0 → ob i = []) (houts : outs[0]? = some (.box RdrT x'))
    (hF : Fine w S b x' w') (hr : ∀ S', ARel (hp w') S' (fun _ => undef) rA rV []) (hrr : rA.refs = []) : Lift.Ends w S (.box RdrT x :: rest) vals ob rA outs (.returned rV) w' := by
  obtain ⟨S', h1, h2, h3, h4, h5, E, fr, h6, h7⟩ := hF
  have hmem : ∀ i k, k ∈ ob i → k = b := fun i k hk => by
    by_cases hi : i = 0
    · subst hi; rw [hob] at hk; exact List.mem_singleton.1 hk
    · rw [hob' i hi] at hk; cases hk
  refine ⟨rV, S', [], ob, rfl, ⟨h1.size, fun k hk hn => h1.same k hk (fun e => hn ⟨0, by rw [hob, e]; exact List.mem_singleton.2 rfl⟩), h1.tape, h1.os, h1.output⟩, h2, h4, fun k hk => ?_, ⟨hr S', hrr⟩, (fun k hk => by cases hk), .nil, ?_, ?_, ?_, ?_, fun _ h => h⟩
  · rcases h3 k hk with h | h
    · exact .inl h
    · exact .inr (.inr h)
  · intro i y hy hbx
    match i with
    | 0 =>
      cases hy
      exact ⟨_, _, houts, hv0, rfl, by rw [hob]; exact rdr_shut h6 h7⟩
    | i + 1 =>
      have := hrest y (List.mem_of_getElem? hy)
      rw [hbx] at this
      cases this
  · intro i k hk
    refine ⟨.inl ⟨i, hk⟩, ?_, fun h => by cases h⟩
    rw [hmem i k hk]; exact h5
  · intro i j k hi hj
    by_cases h0 : i = 0
    · by_cases h1 : j = 0
      · omega
      · rw [hob' j h1] at hj; cases hj
    · rw [hob' i h0] at hi; cases hi
  · intro i
    by_cases h0 : i = 0
    · subst h0; rw [hob]; exact List.nodup_cons.2 ⟨by simp, List.nodup_nil⟩
    · rw [hob' i h0]; exact .nil

theorem args_one {w : World} {S : Hp} {x : RdrT.den} {vals : List Value} {ob : Nat → List Nat} (hS : Lift.Sub S (hp w)) (har : ArgsRel (hp w) S [.box RdrT x] vals ob) :
    ∃ b, vals = [.pointer (some ⟨b, 0, none⟩)] ∧ ob 0 = [b] ∧ (∀ i, i ≠ 0 → ob i = []) ∧ Rdr w S b x := by
  obtain ⟨⟨v0, hv0, hA0⟩, _⟩ := har.rel 0 _ rfl
  obtain ⟨b, E, fr, ho, hv, hc, hf⟩ := rdr_open hA0
  have hlen := har.len
  have hvals : vals = [v0] := by
    match vals, hlen with
    | [a], _ => cases hv0; rfl
  subst hv
  exact ⟨b, hvals, ho, fun i hi => har.out i (by simp; omega), hS, har.hid 0 b (by rw [ho]; exact List.mem_singleton.2 rfl), E, fr, hc, hf⟩

theorem args_two {w : World} {S : Hp} {x : RdrT.den} {k : IntKind} {n : Int} {vals : List Value} {ob : Nat → List Nat} (hS : Lift.Sub S (hp w)) (har : ArgsRel (hp w) S [.box RdrT x, .v (.int k) n] vals ob) :
    ∃ b, vals = [.pointer (some ⟨b, 0, none⟩), .int k n] ∧ ob 0 = [b] ∧ (∀ i, i ≠ 0 → ob i = []) ∧ Rdr w S b x := by
  obtain ⟨⟨v0, hv0, hA0⟩, _⟩ := har.rel 0 _ rfl
  obtain ⟨⟨v1, hv1, hA1⟩, _⟩ := har.rel 1 _ rfl
  obtain ⟨b, E, fr, ho, hv, hc, hf⟩ := rdr_open hA0
  have hlen := har.len
  have hvals : vals = [v0, v1] := by
    match vals, hlen with
    | [a, c], _ => cases hv0; cases hv1; rfl
  have e1 := VR.int_inv hA1.1
  subst e1
  subst hv
  refine ⟨b, hvals, ho, fun i hi => ?_, hS, har.hid 0 b (by rw [ho]; exact List.mem_singleton.2 rfl), E, fr, hc, hf⟩
  match i with
  | 0 => exact absurd rfl hi
  | 1 => exact hA1.2
  | i + 2 => exact har.out _ (by simp)

noncomputable def field_Reader_Byte_res (N : Nat) : List A → Res := resOf [(0, .box (.pair .bool (.pair .str (.pair (.int .i64) .unit))))] (fun x => field_Reader_Byte N x.1) (oResB (.v (.int .u8)) [(0, .box (.pair .bool (.pair .str (.pair (.int .i64) .unit))))] 0)

theorem field_Reader_Byte_ct (N : Nat) : Contract Try.prog noGlob 19 (field_Reader_Byte_res N) := by
  refine Contract.hand ⟨_, Try.func19, by kernel_rfl, by decide⟩ ?_
  intro w S vals ob x y har hS hg hy
  obtain ⟨x, u⟩ := x
  cases u
  obtain ⟨b, rfl, ho, ho', hR⟩ := args_one hS har
  have fin : ∀ (n : Int) (x' : RdrT.den), y = (n, (x', ())) → Calls Try.prog 19 #[.pointer (some ⟨b, 0, none⟩)] w (fun r w' => r = .returned (.int .u8 n) ∧ Fine w S b x' w') →
      Calls Try.prog 19 [Value.pointer (some ⟨b, 0, none⟩)].toArray w fun e w' => Lift.Ends w S (mkS [(0, .box RdrT)] 0 (x, ())) [.pointer (some ⟨b, 0, none⟩)] ob (oResB (.v (.int .u8)) [(0, .box RdrT)] 0 y).1 (oResB (.v (.int .u8)) [(0, .box RdrT)] 0 y).2 e w' := by
    rintro n x' rfl hc
    refine hc.mono ?_
    rintro r w' ⟨rfl, hF⟩
    exact ends_of_fine (rest := []) (fun _ h => by cases h) rfl ho ho' rfl hF (fun S' => ⟨VR.int, rfl⟩) rfl
  have hy' : field_Reader_Byte N x = some y := hy
  unfold field_Reader_Byte at hy'
  cases hr : (x.1 && (x.2.2.1 == 0)) with
  | false =>
    rw [hr] at hy'
    cases hy'
    exact fin _ _ rfl (byte_off N hR hr)
  | true =>
    rw [hr] at hy'
    by_cases hle : 1 ≤ Go.IntKind.wrap .u64 (x.2.1.length : Int)
    · rw [decide_eq_true hle] at hy'
      cases hy'
      obtain ⟨m, s, e, u⟩ := x
      cases u
      cases s with
      | nil => exact absurd (show 1 ≤ Go.IntKind.wrap .u64 (0 : Int) from hle) (by decide)
      | cons a l => exact fin _ _ rfl (byte_on N hR hr hle)
    · rw [decide_eq_false hle] at hy'
      cases hy'
      refine fin _ _ rfl ?_
      have e : failS x 1 = (x.1, [], 1, ()) := by
        unfold failS
        rw [hr]
        rfl
      rw [← e]
      exact byte_end N hR hr hle

noncomputable def field_Reader_Num (N : Nat) (x : RdrT.den) (most : Int) : Option (Int × (RdrT.den × Unit)) :=
  cond (x.1 && (x.2.2.1 == 0))
  ((varint_Take N x.2.1).bind fun y =>
    cond (decide (y.2.2.1 = 0))
    (cond (decide (y.1 ≤ most))
      (cond (decide (0 ≤ y.2.1 ∧ y.2.1 ≤ x.2.1.length))
        (some (y.1, ((x.1, x.2.1.drop y.2.1.toNat, x.2.2.1, ()), ())))
        none)
      (some (0, ((x.1, [], 3, ()), ()))))
    (some (0, ((x.1, [], y.2.2.1, ()), ()))))
  (some (0, (x, ())))

theorem failS_on {x : RdrT.den} {e : Int} (hr : (x.1 && (x.2.2.1 == 0)) = true) (he : e ≠ 0) : failS x e = (x.1, [], e, ()) := by
  unfold failS
  rw [hr, bne_iff_ne.2 he]
  rfl

theorem num_call (N : Nat) {w : World} {S : Hp} {b : Nat} {x : RdrT.den} {most n : Int} {x' : RdrT.den} (h : Rdr w S b x) (hy : field_Reader_Num N x most = some (n, (x', ()))) :
    Calls Try.prog 12 #[.pointer (some ⟨b, 0, none⟩), .int .u64 most] w fun r w' => r = .returned (.int .u64 n) ∧ Fine w S b x' w' := by
  unfold field_Reader_Num at hy
  cases hr : (x.1 && (x.2.2.1 == 0)) with
  | false =>
    rw [hr] at hy
    cases hy
    exact num_off N h hr
  | true =>
    rw [hr] at hy
    cases ht : varint_Take N x.2.1 with
    | none => rw [ht] at hy; cases hy
    | some y =>
      rw [ht, Option.bind_some] at hy
      by_cases he : y.2.2.1 = 0
      · rw [decide_eq_true he] at hy
        by_cases hm : y.1 ≤ most
        · rw [decide_eq_true hm] at hy
          by_cases hu : 0 ≤ y.2.1 ∧ y.2.1 ≤ x.2.1.length
          · rw [decide_eq_true hu] at hy
            cases hy
            exact num_on N h hr (fun w1 S1 h1 => number_fine N h1 ht he hm hu.1 hu.2)
          · rw [decide_eq_false hu] at hy
            cases hy
        · rw [decide_eq_false hm] at hy
          cases hy
          rw [← failS_on hr (by decide : (3 : Int) ≠ 0)]
          exact num_stop N h hr (fun w1 S1 h1 => number_much N h1 ht he hm)
      · rw [decide_eq_false he] at hy
        cases hy
        rw [← failS_on hr he]
        exact num_stop N h hr (fun w1 S1 h1 => number_bad N h1 ht he)

noncomputable def field_Reader_Num_box (N : Nat) : List A → Res := resOf [(0, .box (.pair .bool (.pair .str (.pair (.int .i64) .unit)))), (0, .v (.int .u64))] (fun x => field_Reader_Num N x.1 x.2.1) (oResB (.v (.int .u64)) [(0, .box (.pair .bool (.pair .str (.pair (.int .i64) .unit))))] 1)

theorem field_Reader_Num_box_ct (N : Nat) : Contract Try.prog noGlob 12 (field_Reader_Num_box N) := by
  refine Contract.hand ⟨_, Try.func12, by kernel_rfl, by decide⟩ ?_
  intro w S vals ob x y har hS hg hy
  obtain ⟨x, most, u⟩ := x
  cases u
  obtain ⟨n, x', u⟩ := y
  cases u
  obtain ⟨b, rfl, ho, ho', hR⟩ := args_two hS har
  refine (num_call N hR hy).mono ?_
  rintro r w' ⟨rfl, hF⟩
  exact ends_of_fine (rest := [.v (.int .u64) most]) (fun _ h => by rw [List.mem_singleton.1 h]; rfl) rfl ho ho' rfl hF (fun S' => ⟨VR.int, rfl⟩) rfl

theorem reads_none (N : Nat) {w : World} {S : Hp} (hS : Lift.Sub S (hp w)) :
    Calls Try.prog 25 #[.pointer none] w fun r w' => r = .returned (.bool false) ∧
      ∃ S', WF w (fun _ => False) w' ∧ Lift.Sub S S' ∧ Lift.Sub S' (hp w') ∧ ∀ k, S' k ≠ none → S k ≠ none ∨ w.heap.size ≤ k := by
  have h := (field_Reader_reads_nil_ct N).2 w S [.v .opq (.pointer none)] [.pointer none] (fun _ => []) ⟨rfl, fun i x hx => ?_, fun _ _ => rfl, (fun i j b hb => by cases hb), fun _ => .nil, (fun i b hb => by cases hb)⟩ hS (glob_none S) false rfl
  · refine h.mono ?_
    rintro r w' ⟨v, S', o, ob', rfl, hwf, h3, h4, h5, ⟨⟨hv, _⟩, _⟩, _⟩
    refine ⟨by rw [VR.bool_inv hv], S', ⟨hwf.size, fun k hk _ => hwf.same k hk (by rintro ⟨i, hi⟩; cases hi), hwf.tape, hwf.os, hwf.output⟩, h3, h4, fun b hb => ?_⟩
    rcases h5 b hb with h | ⟨i, hi⟩ | h
    · exact .inl h
    · cases hi
    · exact .inr h
  · match i with
    | 0 => cases hx; exact ⟨⟨_, rfl, VR.of_one rfl ⟨rfl, rfl⟩, rfl⟩, rfl⟩
    | i + 1 => cases hx

theorem num_nil (N : Nat) {w : World} {S : Hp} {most : Int} (hS : Lift.Sub S (hp w)) :
    Calls Try.prog 12 #[.pointer none, .int .u64 most] w fun r w' => r = .returned (.int .u64 0) ∧
      ∃ S', WF w (fun _ => False) w' ∧ Lift.Sub S S' ∧ Lift.Sub S' (hp w') ∧ ∀ k, S' k ≠ none → S k ≠ none ∨ w.heap.size ≤ k := by
  have hmf : ∀ (fn : Fn) (first cap : Array Value) (w : World), (Instr.makeFunc fn first cap).run Try.prog w = .ok (.func fn first cap) w := fun _ _ _ _ => rfl
  have hA := alloc_cell w (.pointer none) 24
  have hh : (w.alloc (.cells #[.pointer none] 24)).heap = w.heap.push (.cells #[.pointer none] 24 (0, 0)) := rfl
  have hk : ∀ k, k < w.heap.size → (w.alloc (.cells #[.pointer none] 24)).heap[k]? = w.heap[k]? := fun k hk => by
    rw [hh, Array.getElem?_push, if_neg (by omega)]
  have hz : (w.alloc (.cells #[.pointer none] 24)).heap.size = w.heap.size + 1 := by rw [hh, Array.size_push]
  have hS1 : Lift.Sub S (hp (w.alloc (.cells #[.pointer none] 24))) := fun k o ho => by
    have := hS k o ho
    simp only [hp] at this ⊢
    rw [hk k (Array.getElem?_eq_some_iff.1 this).1]
    exact this
  have hcr := reads_none N hS1
  clear hh
  go_enter_defers Try.func12, Try.ntmps12
  go_wp2_with (go_at_call 25; refine hcr.mono ?_; rintro r w2 ⟨rfl, hF2⟩; have HM := Go.Lib.hid hF2; clear hcr hF2)
  obtain ⟨S2, g1, g2, g3, g4⟩ := HM.out
  have hc2 : w2.cell? ⟨w.heap.size, 0, none⟩ = some (.pointer none) := by
    have := g1.same w.heap.size (by rw [hz]; omega) (fun h => h)
    simp only [World.cell?] at hA ⊢
    rw [this]; exact hA
  refine leaves_cons (f := 26) (args := #[.pointer (some ⟨w.heap.size, 0, none⟩)]) (by simp) (by simp [go_sem]) ?_
  refine (rdN_idle hc2).mono ?_
  rintro r u w3 ⟨⟨v, rfl⟩, rfl, rfl⟩
  refine ⟨_, ?_, rfl, S2, ⟨?_, fun k h1 _ => ?_, ?_, ?_, ?_⟩, g2, g3, fun k hk => ?_⟩
  · simp [results, Try.results12, go_sem]
  · have := g1.size
    rw [hz] at this
    exact Nat.le_of_succ_le this
  · have := g1.same k (by rw [hz]; omega) (fun h => h)
    exact this.trans (hk k h1)
  · exact g1.tape
  · exact g1.os
  · exact g1.output
  · rcases g4 k hk with h | h
    · exact .inl h
    · rw [hz] at h; exact .inr (by omega)

noncomputable def field_Reader_Num_res (N : Nat) : List A → Res := resAlt [(0, .nilp), (0, .v (.int .u64))] (fun _ => some 0) (oRes (.v (.int .u64)) 2) (field_Reader_Num_box N)

theorem field_Reader_Num_ct (N : Nat) : Contract Try.prog noGlob 12 (field_Reader_Num_res N) := by
  refine Contract.alt (Contract.hand ⟨_, Try.func12, by kernel_rfl, by decide⟩ ?_) (field_Reader_Num_box_ct N)
  intro w S vals ob x y har hS hg hy
  obtain ⟨p, most, u⟩ := x
  cases p
  cases u
  cases hy
  obtain ⟨⟨v0, hv0, hA0, ho0⟩, _⟩ := har.rel 0 _ rfl
  obtain ⟨⟨v1, hv1, hA1, ho1⟩, _⟩ := har.rel 1 _ rfl
  have hvals : vals = [v0, v1] := by
    match vals, har.len with
    | [a, c], _ => cases hv0; cases hv1; rfl
  have e0 := VR.opq_inv hA0
  have e1 := VR.int_inv hA1
  subst e0
  subst e1
  subst hvals
  have hnone : ∀ i, ob i = [] := fun i => by
    match i with
    | 0 => exact ho0
    | 1 => exact ho1
    | i + 2 => exact har.out _ (by simp [mkS, deads])
  refine (num_nil N hS).mono ?_
  rintro r w' ⟨rfl, S', h1, h2, h3, h4⟩
  refine ⟨_, S', [], ob, rfl, ⟨h1.size, fun k hk _ => h1.same k hk (fun h => h), h1.tape, h1.os, h1.output⟩, h2, h3, fun k hk => ?_, ⟨⟨VR.int, rfl⟩, rfl⟩, (fun k hk => by cases hk), .nil, ?_, ?_, har.inj, har.nd, fun _ h => h⟩
  · rcases h4 k hk with h | h
    · exact .inl h
    · exact .inr (.inr h)
  · intro i y hy hbx
    match i with
    | 0 => cases hy; cases hbx
    | 1 => cases hy; cases hbx
    | i + 2 => simp [mkS, deads] at hy
  · intro i k hk
    rw [hnone i] at hk
    cases hk

theorem wrap_len (n : Nat) : Go.IntKind.wrap .u64 (n : Int) ≤ n := by
  have e : Go.IntKind.wrap .u64 (n : Int) = (n : Int) % 18446744073709551616 := rfl
  rw [e]
  omega

theorem take_fine {w : World} {S : Hp} {b : Nat} {x : RdrT.den} (h : Rdr w S b x) {n : Int} (hn : 0 ≤ n) (hle : n ≤ Go.IntKind.wrap .u64 (x.2.1.length : Int)) :
    Calls Try.prog 30 #[.pointer (some ⟨b, 0, none⟩), .int .u64 n] w fun r w' => r = .returned (.string ⟨⟨x.2.1.take n.toNat⟩⟩) ∧ Fine w S b (x.1, x.2.1.drop n.toNat, x.2.2.1, ()) w' := by
  obtain ⟨c1, z1⟩ := rdr_cells h
  refine (take_walk c1 z1 hn hle (Int.le_trans hle (wrap_len _))).mono ?_
  rintro r w' ⟨rfl, rfl⟩
  exact ⟨rfl, fine_set h _⟩

theorem take_bad {w : World} {S : Hp} {b : Nat} {x : RdrT.den} (h : Rdr w S b x) {n : Int} (hle : ¬ n ≤ Go.IntKind.wrap .u64 (x.2.1.length : Int)) :
    Calls Try.prog 30 #[.pointer (some ⟨b, 0, none⟩), .int .u64 n] w fun r w' => r = .panicked [{ v := .iface 26 (.int .i64 1), recovered := false }] ∧ Fine w S b x w' := by
  obtain ⟨c1, z1⟩ := rdr_cells h
  refine (take_stop c1 z1 hle).mono ?_
  rintro r w' ⟨rfl, rfl⟩
  exact ⟨rfl, fine_refl h⟩

noncomputable def field_Reader_Text (N : Nat) (x : RdrT.den) (most : Int) : Option (List UInt8 × (RdrT.den × Unit)) :=
  cond (x.1 && (x.2.2.1 == 0))
  ((varint_Take N x.2.1).bind fun y =>
    cond (decide (y.2.2.1 = 0))
    (cond (decide (y.1 ≤ Go.IntKind.wrap .u64 (if most < 0 then 0 else most)))
      (cond (decide (0 ≤ y.1 ∧ 0 ≤ y.2.1 ∧ y.2.1 ≤ x.2.1.length))
        (cond (decide (y.1 ≤ Go.IntKind.wrap .u64 ((x.2.1.drop y.2.1.toNat).length : Int)))
          (some ((x.2.1.drop y.2.1.toNat).take y.1.toNat, ((x.1, (x.2.1.drop y.2.1.toNat).drop y.1.toNat, x.2.2.1, ()), ())))
          (some ([], ((x.1, [], 1, ()), ()))))
        none)
      (some ([], ((x.1, [], 3, ()), ()))))
    (some ([], ((x.1, [], y.2.2.1, ()), ()))))
  (some ([], (x, ())))

theorem text_call (N : Nat) {w : World} {S : Hp} {b : Nat} {x : RdrT.den} {most : Int} {s : List UInt8} {x' : RdrT.den} (h : Rdr w S b x) (hy : field_Reader_Text N x most = some (s, (x', ()))) :
    Calls Try.prog 14 #[.pointer (some ⟨b, 0, none⟩), .int .i64 most] w fun r w' => r = .returned (.string ⟨⟨s⟩⟩) ∧ Fine w S b x' w' := by
  unfold field_Reader_Text at hy
  cases hr : (x.1 && (x.2.2.1 == 0)) with
  | false =>
    rw [hr] at hy
    cases hy
    exact text_off N h hr
  | true =>
    rw [hr] at hy
    cases ht : varint_Take N x.2.1 with
    | none => rw [ht] at hy; cases hy
    | some y =>
      rw [ht, Option.bind_some] at hy
      by_cases he : y.2.2.1 = 0
      · rw [decide_eq_true he] at hy
        by_cases hm : y.1 ≤ Go.IntKind.wrap .u64 (if most < 0 then 0 else most)
        · rw [decide_eq_true hm] at hy
          by_cases hu : 0 ≤ y.1 ∧ 0 ≤ y.2.1 ∧ y.2.1 ≤ x.2.1.length
          · rw [decide_eq_true hu] at hy
            by_cases hl : y.1 ≤ Go.IntKind.wrap .u64 ((x.2.1.drop y.2.1.toNat).length : Int)
            · rw [decide_eq_true hl] at hy
              cases hy
              exact text_on N h rfl hr (fun w1 S1 h1 => number_fine N h1 ht he hm hu.2.1 hu.2.2) (fun w1 S1 h1 => take_fine h1 hu.1 hl)
            · rw [decide_eq_false hl] at hy
              cases hy
              have e := failS_on (x := (x.1, x.2.1.drop y.2.1.toNat, x.2.2.1, ())) (e := 1) hr (by decide)
              have k := text_end N h rfl hr (fun w1 S1 h1 => number_fine N h1 ht he hm hu.2.1 hu.2.2) (fun w1 S1 h1 => take_bad h1 hl)
              rw [e] at k
              exact k
          · rw [decide_eq_false hu] at hy
            cases hy
        · rw [decide_eq_false hm] at hy
          cases hy
          rw [← failS_on hr (by decide : (3 : Int) ≠ 0)]
          exact text_stop N h rfl hr (fun w1 S1 h1 => number_much N h1 ht he hm)
      · rw [decide_eq_false he] at hy
        cases hy
        rw [← failS_on hr he]
        exact text_stop N h rfl hr (fun w1 S1 h1 => number_bad N h1 ht he)

noncomputable def field_Reader_Text_res (N : Nat) : List A → Res := resOf [(0, .box (.pair .bool (.pair .str (.pair (.int .i64) .unit)))), (0, .v (.int .i64))] (fun x => field_Reader_Text N x.1 x.2.1) (oResB (.v .str) [(0, .box (.pair .bool (.pair .str (.pair (.int .i64) .unit))))] 1)

theorem field_Reader_Text_ct (N : Nat) : Contract Try.prog noGlob 14 (field_Reader_Text_res N) := by
  refine Contract.hand ⟨_, Try.func14, by kernel_rfl, by decide⟩ ?_
  intro w S vals ob x y har hS hg hy
  obtain ⟨x, most, u⟩ := x
  cases u
  obtain ⟨s, x', u⟩ := y
  cases u
  obtain ⟨b, rfl, ho, ho', hR⟩ := args_two hS har
  refine (text_call N hR hy).mono ?_
  rintro r w' ⟨rfl, hF⟩
  exact ends_of_fine (rest := [.v (.int .i64) most]) (fun _ h => by rw [List.mem_singleton.1 h]; rfl) rfl ho ho' rfl hF (fun S' => ⟨VR.str, rfl⟩) rfl

abbrev varint_Size_R : Type := Int

noncomputable def varint_Size_body : Code := (Go.Proofs.Try.f36.body).getD .skip

noncomputable def varint_Size_L : List (List Nat × List Nat) := [([0], [0]), ([0, 1], [0, 3]), ([0, 0, 1, 1], [0, 3]), ([0, 1, 0, 1, 1], [0, 3]), ([0, 0, 0, 0, 1, 0, 1, 1], [7, 3, 0]), ([1, 0, 0, 0, 1, 0, 1, 1], [3, 0]), ([1, 1, 0, 0, 0, 1, 0, 1, 1], [3]), ([0, 0, 1, 0, 0, 1, 0, 1, 1], [0, 3]), ([0, 1, 0, 0, 1, 0, 1, 1], [0, 3]), ([1, 1, 0, 0, 1, 0, 1, 1], [0, 3]), ([1, 0, 1, 1], [3]), ([0, 1, 1, 1], [2]), ([1, 1, 1, 1], [2])]

noncomputable def varint_Size_E (N : Nat) : Env := mkEnv tys noGlob [] [] [] [] false [] []

theorem varint_Size_Eok (N : Nat) : EnvOk Go.Proofs.Try.prog (varint_Size_E N) := mkEnv_ok mixed tys_ok (FnsOk.nil) (ItsOk.nil)

noncomputable def varint_Size_s1 (N : Nat) (n : Int) (size : Int) (rec : Int → Int → Option Int) (k0 : Int → Option Int) : Option Int :=
  cond (n != (0 : Int))
  (rec (Go.Lift.shrI Go.IntKind.u64 n (7 : Int)) (Go.IntKind.wrap Go.IntKind.i64 (size + (1 : Int))))
  (k0 size)

noncomputable def varint_Size_p1 (N : Nat) (n : Int) (size : Int) (k0 : Int → Option Int) : Option Int :=
  iter (fun (v : (Int × Int)) r => varint_Size_s1 N v.1 v.2 (fun n size => (r (n, size))) k0) N (n, size)

noncomputable def varint_Size_g1 (N : Nat) (i : Unit) (v : (Int × Int)) (r : (Int × Int) → Option Int) (K : Ex → List A → Option Int) : Option Int :=
  varint_Size_s1 N v.1 v.2 (fun n size => (r (n, size))) (fun a0 => (K (.exit 0) (mkS [(3, .v (.int .i64))] 9 (a0, ()))))

noncomputable def varint_Size_h1 (N : Nat) : Hd Int := fun st K => (unS [(0, .v (.int .u64)), (2, .v (.int .i64))] 9 (restr [0, 3] 0 st)).bind fun x => iter (fun v r => varint_Size_g1 N ((fun x => ()) x) v r K) N ((fun x => (x.1, x.2.1)) x)

noncomputable def varint_Size_t1 (N : Nat) : Tab Int := []

theorem varint_Size_ok1 {N : Nat} {c : Ctx} (hb : Base Go.Proofs.Try.prog (varint_Size_E N) c) : CodeOk Go.Proofs.Try.prog c (nodeAt varint_Size_body [0, 1, 0, 1, 1]) (varint_Size_h1 N) :=
  loop_ok (s := [(0, .v (.int .u64)), (2, .v (.int .i64))]) (m := 9) (varint_Size_g1 N) [0, 3] N (fun x => ()) (fun x => (x.1, x.2.1)) (fun i v => (v.1, v.2, ())) (fun _ => rfl) (evN_sound hb N (varint_Size_t1 N) varint_Size_L varint_Size_body TabOk.nil [0, 0, 1, 0, 1, 1] _ rfl) (fun i v r K => by kernel_rfl)

noncomputable def varint_Size (N : Nat) (n : Int) : Option Int :=
  varint_Size_p1 N (Go.Lift.shrI Go.IntKind.u64 n (7 : Int)) (1 : Int)
  (fun size => some size)

noncomputable def varint_Size_t (N : Nat) : Tab Int := [([0, 1, 0, 1, 1], varint_Size_h1 N)]

theorem varint_Size_link (N : Nat) (x : denS [(0, .v (.int .u64))]) : evFX (varint_Size_E N) N (varint_Size_t N) varint_Size_L Go.Proofs.Try.f36 (mkS [(0, .v (.int .u64))] 0 x) (kRes (.v (.int .i64)) 1) = varint_Size N x.1 := by kernel_rfl

noncomputable def varint_Size_res (N : Nat) : List A → Res := resOf [(0, .v (.int .u64))] (fun x => varint_Size N x.1) (oRes (.v (.int .i64)) 1)

theorem varint_Size_ct (N : Nat) : Contract Go.Proofs.Try.prog noGlob 36 (varint_Size_res N) :=
  Contract.of (E := varint_Size_E N) (H := varint_Size_t N) (L := varint_Size_L) (N := N) (body := varint_Size_body) (K := (kRes (.v (.int .i64)) 1)) (varint_Size_Eok N) Go.Proofs.Try.func36 (by kernel_rfl) (by decide) (fun _ hb => (TabOk.cons (varint_Size_ok1 hb) TabOk.nil)) (fun x y h => by rw [varint_Size_link]; exact h) (kRes_ok (s := (.v (.int .i64))) (m := 1))

abbrev varint_Put_R : Type := (List UInt8)

noncomputable def varint_Put_body : Code := (Go.Proofs.Try.f31.body).getD .skip

noncomputable def varint_Put_L : List (List Nat × List Nat) := [([0], [0]), ([0, 1], [3, 0]), ([0, 1, 1], [3, 4, 0]), ([0, 0, 1, 1, 1], [11, 10, 4, 0, 3]), ([0, 1, 0, 1, 1, 1], [11, 10, 4, 0, 3]), ([0, 0, 0, 1, 0, 1, 1, 1], [12, 11, 4, 0, 10, 3]), ([0, 1, 0, 0, 1, 0, 1, 1, 1], [11, 4, 0, 10, 3]), ([1, 0, 1, 0, 0, 1, 0, 1, 1, 1], [4, 3]), ([0, 0, 0, 1, 1, 0, 0, 1, 0, 1, 1, 1], [4, 5, 0, 11, 10, 3]), ([0, 1, 0, 0, 1, 1, 0, 0, 1, 0, 1, 1, 1], [0, 11, 10, 4, 3]), ([1, 1, 0, 0, 1, 1, 0, 0, 1, 0, 1, 1, 1], [11, 10, 4, 0, 3]), ([0, 1, 1, 0, 0, 1, 0, 1, 1, 1], [11, 10, 4, 0, 3]), ([1, 1, 1, 0, 0, 1, 0, 1, 1, 1], [11, 10, 4, 0, 3]), ([1, 0, 1, 1, 1], [4, 3]), ([0, 1, 1, 1, 1], [4]), ([0, 1, 1, 1, 1, 1], [2]), ([1, 1, 1, 1, 1, 1], [2])]

noncomputable def varint_Put_E (N : Nat) : Env := mkEnv tys noGlob [(36, varint_Size_res N)] [(4, (.int .u8))] [] [] false [] []

theorem varint_Put_Eok (N : Nat) : EnvOk Go.Proofs.Try.prog (varint_Put_E N) := mkEnv_ok mixed tys_ok (FnsOk.cons (varint_Size_ct N) (FnsOk.nil)) (ItsOk.nil)

noncomputable def varint_Put_s1 (N : Nat) (size : Int) (x10 : Int) (n : Int) (out : (List Int)) (x11 : Int) (rec : Int → (List Int) → Int → Option (List UInt8)) (k0 : (List Int) → Option (List UInt8)) : Option (List UInt8) :=
  cond (decide (x11 < x10))
  (cond (Go.Lift.inR x11 (List.length out))
    (cond (decide ((Int.toNat x11) < (List.length out)))
      (rec (Go.Lift.shrI Go.IntKind.u64 n (7 : Int)) (List.set out (Int.toNat x11) (Go.Lift.bitsOp Go.BinOp.or Go.IntKind.u8 (Go.IntKind.wrap Go.IntKind.u8 n) (128 : Int))) (Go.IntKind.wrap Go.IntKind.i64 (x11 + (1 : Int))))
      (none))
    (none))
  (k0 out)

noncomputable def varint_Put_p1 (N : Nat) (n : Int) (size : Int) (out : (List Int)) (x10 : Int) (x11 : Int) (k0 : (List Int) → Option (List UInt8)) : Option (List UInt8) :=
  iter (fun (v : (Int × (List Int) × Int)) r => varint_Put_s1 N size x10 v.1 v.2.1 v.2.2 (fun n out x11 => (r (n, out, x11))) k0) N (n, out, x11)

noncomputable def varint_Put_g1 (N : Nat) (i : (Int × Int)) (v : (Int × (List Int) × Int)) (r : (Int × (List Int) × Int) → Option (List UInt8)) (K : Ex → List A → Option (List UInt8)) : Option (List UInt8) :=
  varint_Put_s1 N i.1 i.2 v.1 v.2.1 v.2.2 (fun n out x11 => (r (n, out, x11))) (fun a1 => (K (.exit 0) (mkS [(3, .v (.int .i64)), (0, .row (.int .u8))] 27 (i.1, a1, ()))))

noncomputable def varint_Put_h1 (N : Nat) : Hd (List UInt8) := fun st K => (unS [(0, .v (.int .u64)), (2, .v (.int .i64)), (0, .row (.int .u8)), (5, .v (.int .i64)), (0, .v (.int .i64))] 20 (restr [11, 10, 4, 0, 3] 0 st)).bind fun x => iter (fun v r => varint_Put_g1 N ((fun x => (x.2.1, x.2.2.2.1)) x) v r K) N ((fun x => (x.1, x.2.2.1, x.2.2.2.2.1)) x)

noncomputable def varint_Put_t1 (N : Nat) : Tab (List UInt8) := []

theorem varint_Put_ok1 {N : Nat} {c : Ctx} (hb : Base Go.Proofs.Try.prog (varint_Put_E N) c) : CodeOk Go.Proofs.Try.prog c (nodeAt varint_Put_body [0, 1, 0, 1, 1, 1]) (varint_Put_h1 N) :=
  loop_ok (s := [(0, .v (.int .u64)), (2, .v (.int .i64)), (0, .row (.int .u8)), (5, .v (.int .i64)), (0, .v (.int .i64))]) (m := 20) (varint_Put_g1 N) [11, 10, 4, 0, 3] N (fun x => (x.2.1, x.2.2.2.1)) (fun x => (x.1, x.2.2.1, x.2.2.2.2.1)) (fun i v => (v.1, i.1, v.2.1, i.2, v.2.2, ())) (fun _ => rfl) (evN_sound hb N (varint_Put_t1 N) varint_Put_L varint_Put_body TabOk.nil [0, 0, 1, 0, 1, 1, 1] _ rfl) (fun i v r K => by kernel_rfl)

noncomputable def varint_Put (N : Nat) (n : Int) : Option (List UInt8) :=
  (varint_Size N n).bind fun y =>
  cond (decide (((0 : Int) ≤ y) ∧ ((y ≤ y) ∧ (((y * (1 : Int)) ≤ (281474976710656 : Int)) ∧ (y ≤ (9223372036854775807 : Int))))))
  (varint_Put_p1 N n y (List.replicate (Int.toNat y) (0 : Int)) y (0 : Int)
    (fun out => cond (Go.Lift.inR (Go.IntKind.wrap Go.IntKind.i64 (y - (1 : Int))) (List.length out))
      (cond (decide ((Int.toNat (Go.IntKind.wrap Go.IntKind.i64 (y - (1 : Int)))) < (List.length out)))
        (cond (Go.Lift.inR (Go.IntKind.wrap Go.IntKind.i64 (y - (1 : Int))) (List.length out))
          (cond (decide ((Int.toNat (Go.IntKind.wrap Go.IntKind.i64 (y - (1 : Int)))) < (List.length out)))
            (some (Go.Lift.toStr (List.set out (Int.toNat (Go.IntKind.wrap Go.IntKind.i64 (y - (1 : Int)))) (Go.Lift.bitsOp Go.BinOp.andNot Go.IntKind.u8 (List.getD out (Int.toNat (Go.IntKind.wrap Go.IntKind.i64 (y - (1 : Int)))) (0 : Int)) (128 : Int)))))
            (none))
          (none))
        (none))
      (none)))
  (none)

noncomputable def varint_Put_t (N : Nat) : Tab (List UInt8) := [([0, 1, 0, 1, 1, 1], varint_Put_h1 N)]

theorem varint_Put_link (N : Nat) (x : denS [(0, .v (.int .u64))]) : evFX (varint_Put_E N) N (varint_Put_t N) varint_Put_L Go.Proofs.Try.f31 (mkS [(0, .v (.int .u64))] 0 x) (kRes (.v .str) 1) = varint_Put N x.1 := by kernel_rfl

noncomputable def varint_Put_res (N : Nat) : List A → Res := resOf [(0, .v (.int .u64))] (fun x => varint_Put N x.1) (oRes (.v .str) 1)

theorem varint_Put_ct (N : Nat) : Contract Go.Proofs.Try.prog noGlob 31 (varint_Put_res N) :=
  Contract.of (E := varint_Put_E N) (H := varint_Put_t N) (L := varint_Put_L) (N := N) (body := varint_Put_body) (K := (kRes (.v .str) 1)) (varint_Put_Eok N) Go.Proofs.Try.func31 (by kernel_rfl) (by decide) (fun _ hb => (TabOk.cons (varint_Put_ok1 hb) TabOk.nil)) (fun x y h => by rw [varint_Put_link]; exact h) (kRes_ok (s := (.v .str)) (m := 1))

abbrev field_Text_R : Type := (List UInt8)

noncomputable def field_Text_body : Code := (Go.Proofs.Try.f15.body).getD .skip

noncomputable def field_Text_L : List (List Nat × List Nat) := [([0], [0]), ([0, 1], [2]), ([1, 1], [2])]

noncomputable def field_Text_E (N : Nat) : Env := mkEnv tys noGlob [(31, varint_Put_res N)] [] [] [] false [] []

theorem field_Text_Eok (N : Nat) : EnvOk Go.Proofs.Try.prog (field_Text_E N) := mkEnv_ok mixed tys_ok (FnsOk.cons (varint_Put_ct N) (FnsOk.nil)) (ItsOk.nil)

noncomputable def field_Text (N : Nat) (s : (List UInt8)) : Option (List UInt8) :=
  (varint_Put N (Go.IntKind.wrap Go.IntKind.u64 (((List.length s) : Nat) : Int))).bind fun y =>
  cond (decide (((List.length y) + (List.length s)) ≤ 9223372036854775807))
  (some (y ++ s))
  (none)

noncomputable def field_Text_t (N : Nat) : Tab (List UInt8) := []

theorem field_Text_link (N : Nat) (x : denS [(0, .v .str)]) : evFX (field_Text_E N) N (field_Text_t N) field_Text_L Go.Proofs.Try.f15 (mkS [(0, .v .str)] 0 x) (kRes (.v .str) 1) = field_Text N x.1 := by kernel_rfl

noncomputable def field_Text_res (N : Nat) : List A → Res := resOf [(0, .v .str)] (fun x => field_Text N x.1) (oRes (.v .str) 1)

theorem field_Text_ct (N : Nat) : Contract Go.Proofs.Try.prog noGlob 15 (field_Text_res N) :=
  Contract.of (E := field_Text_E N) (H := field_Text_t N) (L := field_Text_L) (N := N) (body := field_Text_body) (K := (kRes (.v .str) 1)) (field_Text_Eok N) Go.Proofs.Try.func15 (by kernel_rfl) (by decide) (fun _ hb => TabOk.nil) (fun x y h => by rw [field_Text_link]; exact h) (kRes_ok (s := (.v .str)) (m := 1))

abbrev field_Reader_Left_R : Type := (Int × ((Bool × ((List UInt8) × (Int × Unit))) × Unit))

noncomputable def field_Reader_Left_body : Code := (Go.Proofs.Try.f9.body).getD .skip

noncomputable def field_Reader_Left_L : List (List Nat × List Nat) := [([0], [0]), ([0, 0, 1], [4, 0]), ([1, 0, 1], [0]), ([0, 0, 1, 0, 1], [2, 0]), ([1, 0, 1, 0, 1], [2, 0]), ([0, 1, 1], [2, 0]), ([1, 1, 1], [2, 0])]

noncomputable def field_Reader_Left_E (N : Nat) : Env := mkEnv tys noGlob [] [] [] [0] false [] []

theorem field_Reader_Left_Eok (N : Nat) : EnvOk Go.Proofs.Try.prog (field_Reader_Left_E N) := mkEnv_ok mixed tys_ok (FnsOk.nil) (ItsOk.nil)

noncomputable def field_Reader_Left (N : Nat) (r_ : (Bool × ((List UInt8) × (Int × Unit)))) : Option (Int × ((Bool × ((List UInt8) × (Int × Unit))) × Unit)) :=
  some ((((List.length r_.2.1) : Nat) : Int), (r_, ()))

noncomputable def field_Reader_Left_t (N : Nat) : Tab (Int × ((Bool × ((List UInt8) × (Int × Unit))) × Unit)) := []

theorem field_Reader_Left_link (N : Nat) (x : denS [(0, .box (.pair .bool (.pair .str (.pair (.int .i64) .unit))))]) : evFX (field_Reader_Left_E N) N (field_Reader_Left_t N) field_Reader_Left_L Go.Proofs.Try.f9 (mkS [(0, .box (.pair .bool (.pair .str (.pair (.int .i64) .unit))))] 0 x) (kResB (.v (.int .i64)) [(0, .box (.pair .bool (.pair .str (.pair (.int .i64) .unit))))] 0) = field_Reader_Left N x.1 := by kernel_rfl

noncomputable def field_Reader_Left_res (N : Nat) : List A → Res := resOf [(0, .box (.pair .bool (.pair .str (.pair (.int .i64) .unit))))] (fun x => field_Reader_Left N x.1) (oResB (.v (.int .i64)) [(0, .box (.pair .bool (.pair .str (.pair (.int .i64) .unit))))] 0)

theorem field_Reader_Left_ct (N : Nat) : Contract Go.Proofs.Try.prog noGlob 9 (field_Reader_Left_res N) :=
  Contract.of (E := field_Reader_Left_E N) (H := field_Reader_Left_t N) (L := field_Reader_Left_L) (N := N) (body := field_Reader_Left_body) (K := (kResB (.v (.int .i64)) [(0, .box (.pair .bool (.pair .str (.pair (.int .i64) .unit))))] 0)) (field_Reader_Left_Eok N) Go.Proofs.Try.func9 (by kernel_rfl) (by decide) (fun _ hb => TabOk.nil) (fun x y h => by rw [field_Reader_Left_link]; exact h) (kResB_ok (s := (.v (.int .i64))) (os := [(0, .box (.pair .bool (.pair .str (.pair (.int .i64) .unit))))]) (m := 0))

abbrev field_Reader_Left_nil_R : Type := Int

noncomputable def field_Reader_Left_nil_body : Code := (Go.Proofs.Try.f9.body).getD .skip

noncomputable def field_Reader_Left_nil_L : List (List Nat × List Nat) := [([0], [0]), ([0, 0, 1], [4, 0]), ([1, 0, 1], [0]), ([0, 0, 1, 0, 1], [2]), ([1, 0, 1, 0, 1], [2]), ([0, 1, 1], [2]), ([1, 1, 1], [2])]

noncomputable def field_Reader_Left_nil_E (N : Nat) : Env := mkEnv tys noGlob [] [] [] [] false [] []

theorem field_Reader_Left_nil_Eok (N : Nat) : EnvOk Go.Proofs.Try.prog (field_Reader_Left_nil_E N) := mkEnv_ok mixed tys_ok (FnsOk.nil) (ItsOk.nil)

noncomputable def field_Reader_Left_nil (N : Nat) : Option Int :=
  some (0 : Int)

noncomputable def field_Reader_Left_nil_t (N : Nat) : Tab Int := []

theorem field_Reader_Left_nil_link (N : Nat) (x : denS [(0, .nilp)]) : evFX (field_Reader_Left_nil_E N) N (field_Reader_Left_nil_t N) field_Reader_Left_nil_L Go.Proofs.Try.f9 (mkS [(0, .nilp)] 0 x) (kRes (.v (.int .i64)) 1) = field_Reader_Left_nil N := by kernel_rfl

noncomputable def field_Reader_Left_nil_res (N : Nat) : List A → Res := resOf [(0, .nilp)] (fun x => field_Reader_Left_nil N) (oRes (.v (.int .i64)) 1)

theorem field_Reader_Left_nil_ct (N : Nat) : Contract Go.Proofs.Try.prog noGlob 9 (field_Reader_Left_nil_res N) :=
  Contract.of (E := field_Reader_Left_nil_E N) (H := field_Reader_Left_nil_t N) (L := field_Reader_Left_nil_L) (N := N) (body := field_Reader_Left_nil_body) (K := (kRes (.v (.int .i64)) 1)) (field_Reader_Left_nil_Eok N) Go.Proofs.Try.func9 (by kernel_rfl) (by decide) (fun _ hb => TabOk.nil) (fun x y h => by rw [field_Reader_Left_nil_link]; exact h) (kRes_ok (s := (.v (.int .i64))) (m := 1))

noncomputable def field_Reader_Left_nil_all (N : Nat) : List A → Res := resAlt [(0, .nilp)] (fun x => field_Reader_Left_nil N) (oRes (.v (.int .i64)) 1) (field_Reader_Left_res N)

theorem field_Reader_Left_nil_allct (N : Nat) : Contract Go.Proofs.Try.prog noGlob 9 (field_Reader_Left_nil_all N) := Contract.alt (field_Reader_Left_nil_ct N) (field_Reader_Left_ct N)

abbrev field_Reader_Err_R : Type := (Int × ((Bool × ((List UInt8) × (Int × Unit))) × Unit))

noncomputable def field_Reader_Err_body : Code := (Go.Proofs.Try.f10.body).getD .skip

noncomputable def field_Reader_Err_L : List (List Nat × List Nat) := [([0], [0]), ([0, 0, 1], [11, 0]), ([1, 0, 1], [0]), ([0, 0, 1, 0, 1], [2, 0]), ([1, 0, 1, 0, 1], [2, 0]), ([0, 1, 1], [2, 0]), ([1, 1, 1], [2, 0])]

noncomputable def field_Reader_Err_E (N : Nat) : Env := mkEnv tys noGlob [] [] [] [0] false [] []

theorem field_Reader_Err_Eok (N : Nat) : EnvOk Go.Proofs.Try.prog (field_Reader_Err_E N) := mkEnv_ok mixed tys_ok (FnsOk.nil) (ItsOk.nil)

noncomputable def field_Reader_Err_p2 (N : Nat) (r_ : (Bool × ((List UInt8) × (Int × Unit)))) (k0 : Bool → Option (Int × ((Bool × ((List UInt8) × (Int × Unit))) × Unit))) : Option (Int × ((Bool × ((List UInt8) × (Int × Unit))) × Unit)) :=
  k0 (!r_.1)

noncomputable def field_Reader_Err_g2 (N : Nat) (x : denS [(0, .box (.pair .bool (.pair .str (.pair (.int .i64) .unit))))]) (K : Ex → List A → Option (Int × ((Bool × ((List UInt8) × (Int × Unit))) × Unit))) : Option (Int × ((Bool × ((List UInt8) × (Int × Unit))) × Unit)) :=
  field_Reader_Err_p2 N x.1 (fun a1 => (K .normal (mkS [(0, .box (.pair .bool (.pair .str (.pair (.int .i64) .unit)))), (10, .v .bool)] 4 (x.1, a1, ()))))

noncomputable def field_Reader_Err_h2 (N : Nat) : Hd (Int × ((Bool × ((List UInt8) × (Int × Unit))) × Unit)) := fun st K => (unS [(0, .box (.pair .bool (.pair .str (.pair (.int .i64) .unit))))] 15 (restr [0] 0 st)).bind fun x => field_Reader_Err_g2 N x K

noncomputable def field_Reader_Err_t2 (N : Nat) : Tab (Int × ((Bool × ((List UInt8) × (Int × Unit))) × Unit)) := []

theorem field_Reader_Err_ok2 {N : Nat} {c : Ctx} (hb : Base Go.Proofs.Try.prog (field_Reader_Err_E N) c) : CodeOk Go.Proofs.Try.prog c (nodeAt field_Reader_Err_body [0, 0, 1]) (field_Reader_Err_h2 N) :=
  piece_ok (s := [(0, .box (.pair .bool (.pair .str (.pair (.int .i64) .unit))))]) (m := 15) (g := field_Reader_Err_g2 N) [0] (evN_sound hb N (field_Reader_Err_t2 N) field_Reader_Err_L field_Reader_Err_body TabOk.nil [0, 0, 1] _ rfl) (fun x K => by kernel_rfl)

noncomputable def field_Reader_Err_p1 (N : Nat) (r_ : (Bool × ((List UInt8) × (Int × Unit)))) (k0 : Int → Option (Int × ((Bool × ((List UInt8) × (Int × Unit))) × Unit))) (k1 : Option (Int × ((Bool × ((List UInt8) × (Int × Unit))) × Unit))) : Option (Int × ((Bool × ((List UInt8) × (Int × Unit))) × Unit)) :=
  field_Reader_Err_p2 N r_
  (fun x11 => cond x11
    (k0 (21 : Int))
    (k1))

noncomputable def field_Reader_Err_g1 (N : Nat) (x : denS [(0, .box (.pair .bool (.pair .str (.pair (.int .i64) .unit))))]) (K : Ex → List A → Option (Int × ((Bool × ((List UInt8) × (Int × Unit))) × Unit))) : Option (Int × ((Bool × ((List UInt8) × (Int × Unit))) × Unit)) :=
  field_Reader_Err_p1 N x.1 (fun a1 => (K .ret (mkS [(0, .box (.pair .bool (.pair .str (.pair (.int .i64) .unit)))), (1, .v (.int .i64))] 13 (x.1, a1, ())))) (K .normal (mkS [(0, .box (.pair .bool (.pair .str (.pair (.int .i64) .unit))))] 15 (x.1, ())))

noncomputable def field_Reader_Err_h1 (N : Nat) : Hd (Int × ((Bool × ((List UInt8) × (Int × Unit))) × Unit)) := fun st K => (unS [(0, .box (.pair .bool (.pair .str (.pair (.int .i64) .unit))))] 15 (restr [0] 0 st)).bind fun x => field_Reader_Err_g1 N x K

noncomputable def field_Reader_Err_t1 (N : Nat) : Tab (Int × ((Bool × ((List UInt8) × (Int × Unit))) × Unit)) := [([0, 0, 1], field_Reader_Err_h2 N)]

theorem field_Reader_Err_ok1 {N : Nat} {c : Ctx} (hb : Base Go.Proofs.Try.prog (field_Reader_Err_E N) c) : CodeOk Go.Proofs.Try.prog c (nodeAt field_Reader_Err_body [0, 1]) (field_Reader_Err_h1 N) :=
  piece_ok (s := [(0, .box (.pair .bool (.pair .str (.pair (.int .i64) .unit))))]) (m := 15) (g := field_Reader_Err_g1 N) [0] (evN_sound hb N (field_Reader_Err_t1 N) field_Reader_Err_L field_Reader_Err_body (TabOk.cons (field_Reader_Err_ok2 hb) TabOk.nil) [0, 1] _ rfl) (fun x K => by kernel_rfl)

noncomputable def field_Reader_Err (N : Nat) (r_ : (Bool × ((List UInt8) × (Int × Unit)))) : Option (Int × ((Bool × ((List UInt8) × (Int × Unit))) × Unit)) :=
  field_Reader_Err_p1 N r_
  (fun x2 => some (x2, (r_, ())))
  (some (r_.2.2.1, (r_, ())))

noncomputable def field_Reader_Err_t (N : Nat) : Tab (Int × ((Bool × ((List UInt8) × (Int × Unit))) × Unit)) := [([0, 1], field_Reader_Err_h1 N)]

theorem field_Reader_Err_link (N : Nat) (x : denS [(0, .box (.pair .bool (.pair .str (.pair (.int .i64) .unit))))]) : evFX (field_Reader_Err_E N) N (field_Reader_Err_t N) field_Reader_Err_L Go.Proofs.Try.f10 (mkS [(0, .box (.pair .bool (.pair .str (.pair (.int .i64) .unit))))] 0 x) (kResB (.v (.int .i64)) [(0, .box (.pair .bool (.pair .str (.pair (.int .i64) .unit))))] 0) = field_Reader_Err N x.1 := by kernel_rfl

noncomputable def field_Reader_Err_res (N : Nat) : List A → Res := resOf [(0, .box (.pair .bool (.pair .str (.pair (.int .i64) .unit))))] (fun x => field_Reader_Err N x.1) (oResB (.v (.int .i64)) [(0, .box (.pair .bool (.pair .str (.pair (.int .i64) .unit))))] 0)

theorem field_Reader_Err_ct (N : Nat) : Contract Go.Proofs.Try.prog noGlob 10 (field_Reader_Err_res N) :=
  Contract.of (E := field_Reader_Err_E N) (H := field_Reader_Err_t N) (L := field_Reader_Err_L) (N := N) (body := field_Reader_Err_body) (K := (kResB (.v (.int .i64)) [(0, .box (.pair .bool (.pair .str (.pair (.int .i64) .unit))))] 0)) (field_Reader_Err_Eok N) Go.Proofs.Try.func10 (by kernel_rfl) (by decide) (fun _ hb => (TabOk.cons (field_Reader_Err_ok1 hb) TabOk.nil)) (fun x y h => by rw [field_Reader_Err_link]; exact h) (kResB_ok (s := (.v (.int .i64))) (os := [(0, .box (.pair .bool (.pair .str (.pair (.int .i64) .unit))))]) (m := 0))

abbrev field_Reader_Err_nil_R : Type := Int

noncomputable def field_Reader_Err_nil_body : Code := (Go.Proofs.Try.f10.body).getD .skip

noncomputable def field_Reader_Err_nil_L : List (List Nat × List Nat) := [([0], [0]), ([0, 0, 1], [11, 0]), ([1, 0, 1], [0]), ([0, 0, 1, 0, 1], [2]), ([1, 0, 1, 0, 1], [2]), ([0, 1, 1], [2]), ([1, 1, 1], [2])]

noncomputable def field_Reader_Err_nil_E (N : Nat) : Env := mkEnv tys noGlob [] [] [] [] false [] []

theorem field_Reader_Err_nil_Eok (N : Nat) : EnvOk Go.Proofs.Try.prog (field_Reader_Err_nil_E N) := mkEnv_ok mixed tys_ok (FnsOk.nil) (ItsOk.nil)

noncomputable def field_Reader_Err_nil_p2 (N : Nat) (k0 : Bool → Option Int) : Option Int :=
  k0 true

noncomputable def field_Reader_Err_nil_g2 (N : Nat) (x : denS [(0, .nilp)]) (K : Ex → List A → Option Int) : Option Int :=
  field_Reader_Err_nil_p2 N (fun a0 => (K .normal (mkS [(0, .nilp), (10, .v .bool)] 4 ((), a0, ()))))

noncomputable def field_Reader_Err_nil_h2 (N : Nat) : Hd Int := fun st K => (unS [(0, .nilp)] 15 (restr [0] 0 st)).bind fun x => field_Reader_Err_nil_g2 N x K

noncomputable def field_Reader_Err_nil_t2 (N : Nat) : Tab Int := []

theorem field_Reader_Err_nil_ok2 {N : Nat} {c : Ctx} (hb : Base Go.Proofs.Try.prog (field_Reader_Err_nil_E N) c) : CodeOk Go.Proofs.Try.prog c (nodeAt field_Reader_Err_nil_body [0, 0, 1]) (field_Reader_Err_nil_h2 N) :=
  piece_ok (s := [(0, .nilp)]) (m := 15) (g := field_Reader_Err_nil_g2 N) [0] (evN_sound hb N (field_Reader_Err_nil_t2 N) field_Reader_Err_nil_L field_Reader_Err_nil_body TabOk.nil [0, 0, 1] _ rfl) (fun x K => by kernel_rfl)

noncomputable def field_Reader_Err_nil_p1 (N : Nat) (k0 : Int → Option Int) (k1 : Option Int) : Option Int :=
  field_Reader_Err_nil_p2 N
  (fun x11 => cond x11
    (k0 (21 : Int))
    (k1))

noncomputable def field_Reader_Err_nil_g1 (N : Nat) (x : denS [(0, .nilp)]) (K : Ex → List A → Option Int) : Option Int :=
  field_Reader_Err_nil_p1 N (fun a0 => (K .ret (mkS [(2, .v (.int .i64))] 13 (a0, ())))) (K .normal (mkS [(0, .nilp)] 15 ((), ())))

noncomputable def field_Reader_Err_nil_h1 (N : Nat) : Hd Int := fun st K => (unS [(0, .nilp)] 15 (restr [0] 0 st)).bind fun x => field_Reader_Err_nil_g1 N x K

noncomputable def field_Reader_Err_nil_t1 (N : Nat) : Tab Int := [([0, 0, 1], field_Reader_Err_nil_h2 N)]

theorem field_Reader_Err_nil_ok1 {N : Nat} {c : Ctx} (hb : Base Go.Proofs.Try.prog (field_Reader_Err_nil_E N) c) : CodeOk Go.Proofs.Try.prog c (nodeAt field_Reader_Err_nil_body [0, 1]) (field_Reader_Err_nil_h1 N) :=
  piece_ok (s := [(0, .nilp)]) (m := 15) (g := field_Reader_Err_nil_g1 N) [0] (evN_sound hb N (field_Reader_Err_nil_t1 N) field_Reader_Err_nil_L field_Reader_Err_nil_body (TabOk.cons (field_Reader_Err_nil_ok2 hb) TabOk.nil) [0, 1] _ rfl) (fun x K => by kernel_rfl)

noncomputable def field_Reader_Err_nil (N : Nat) : Option Int :=
  field_Reader_Err_nil_p1 N
  (fun x2 => some x2)
  (none)

noncomputable def field_Reader_Err_nil_t (N : Nat) : Tab Int := [([0, 1], field_Reader_Err_nil_h1 N)]

theorem field_Reader_Err_nil_link (N : Nat) (x : denS [(0, .nilp)]) : evFX (field_Reader_Err_nil_E N) N (field_Reader_Err_nil_t N) field_Reader_Err_nil_L Go.Proofs.Try.f10 (mkS [(0, .nilp)] 0 x) (kRes (.v (.int .i64)) 1) = field_Reader_Err_nil N := by kernel_rfl

noncomputable def field_Reader_Err_nil_res (N : Nat) : List A → Res := resOf [(0, .nilp)] (fun x => field_Reader_Err_nil N) (oRes (.v (.int .i64)) 1)

theorem field_Reader_Err_nil_ct (N : Nat) : Contract Go.Proofs.Try.prog noGlob 10 (field_Reader_Err_nil_res N) :=
  Contract.of (E := field_Reader_Err_nil_E N) (H := field_Reader_Err_nil_t N) (L := field_Reader_Err_nil_L) (N := N) (body := field_Reader_Err_nil_body) (K := (kRes (.v (.int .i64)) 1)) (field_Reader_Err_nil_Eok N) Go.Proofs.Try.func10 (by kernel_rfl) (by decide) (fun _ hb => (TabOk.cons (field_Reader_Err_nil_ok1 hb) TabOk.nil)) (fun x y h => by rw [field_Reader_Err_nil_link]; exact h) (kRes_ok (s := (.v (.int .i64))) (m := 1))

noncomputable def field_Reader_Err_nil_all (N : Nat) : List A → Res := resAlt [(0, .nilp)] (fun x => field_Reader_Err_nil N) (oRes (.v (.int .i64)) 1) (field_Reader_Err_res N)

theorem field_Reader_Err_nil_allct (N : Nat) : Contract Go.Proofs.Try.prog noGlob 10 (field_Reader_Err_nil_all N) := Contract.alt (field_Reader_Err_nil_ct N) (field_Reader_Err_ct N)

abbrev field_Reader_End_R : Type := (Int × ((Bool × ((List UInt8) × (Int × Unit))) × Unit))

noncomputable def field_Reader_End_body : Code := (Go.Proofs.Try.f13.body).getD .skip

noncomputable def field_Reader_End_L : List (List Nat × List Nat) := [([0], [0]), ([0, 0, 1], [5, 0]), ([1, 0, 1], [0]), ([0, 1, 0, 1], [0]), ([0, 1, 1], [2, 0]), ([1, 1, 1], [2, 0])]

noncomputable def field_Reader_End_E (N : Nat) : Env := mkEnv tys noGlob [(10, field_Reader_Err_nil_all N), (9, field_Reader_Left_nil_all N), (11, field_Reader_Fail_nil_all N)] [] [] [0] false [] []

theorem field_Reader_End_Eok (N : Nat) : EnvOk Go.Proofs.Try.prog (field_Reader_End_E N) := mkEnv_ok mixed tys_ok (FnsOk.cons (field_Reader_Err_nil_allct N) (FnsOk.cons (field_Reader_Left_nil_allct N) (FnsOk.cons (field_Reader_Fail_nil_allct N) (FnsOk.nil)))) (ItsOk.nil)

noncomputable def field_Reader_End_p1 (N : Nat) (r_ : (Bool × ((List UInt8) × (Int × Unit)))) (k0 : (Bool × ((List UInt8) × (Int × Unit))) → Option (Int × ((Bool × ((List UInt8) × (Int × Unit))) × Unit))) : Option (Int × ((Bool × ((List UInt8) × (Int × Unit))) × Unit)) :=
  cond (decide ((0 : Int) < (((List.length r_.2.1) : Nat) : Int)))
  ((field_Reader_Fail N r_ (2 : Int)).bind fun y =>
    k0 y.2.1)
  (k0 r_)

noncomputable def field_Reader_End_g1 (N : Nat) (x : denS [(0, .box (.pair .bool (.pair .str (.pair (.int .i64) .unit))))]) (K : Ex → List A → Option (Int × ((Bool × ((List UInt8) × (Int × Unit))) × Unit))) : Option (Int × ((Bool × ((List UInt8) × (Int × Unit))) × Unit)) :=
  field_Reader_End_p1 N x.1 (fun a0 => (K .normal (mkS [(0, .box (.pair .bool (.pair .str (.pair (.int .i64) .unit))))] 9 (a0, ()))))

noncomputable def field_Reader_End_h1 (N : Nat) : Hd (Int × ((Bool × ((List UInt8) × (Int × Unit))) × Unit)) := fun st K => (unS [(0, .box (.pair .bool (.pair .str (.pair (.int .i64) .unit))))] 9 (restr [0] 0 st)).bind fun x => field_Reader_End_g1 N x K

noncomputable def field_Reader_End_t1 (N : Nat) : Tab (Int × ((Bool × ((List UInt8) × (Int × Unit))) × Unit)) := []

theorem field_Reader_End_ok1 {N : Nat} {c : Ctx} (hb : Base Go.Proofs.Try.prog (field_Reader_End_E N) c) : CodeOk Go.Proofs.Try.prog c (nodeAt field_Reader_End_body [0, 1]) (field_Reader_End_h1 N) :=
  piece_ok (s := [(0, .box (.pair .bool (.pair .str (.pair (.int .i64) .unit))))]) (m := 9) (g := field_Reader_End_g1 N) [0] (evN_sound hb N (field_Reader_End_t1 N) field_Reader_End_L field_Reader_End_body TabOk.nil [0, 1] _ rfl) (fun x K => by kernel_rfl)

noncomputable def field_Reader_End (N : Nat) (r_ : (Bool × ((List UInt8) × (Int × Unit)))) : Option (Int × ((Bool × ((List UInt8) × (Int × Unit))) × Unit)) :=
  field_Reader_End_p1 N r_
  (fun r_1 => (field_Reader_Err N r_1).bind fun y =>
    some (y.1, (y.2.1, ())))

noncomputable def field_Reader_End_t (N : Nat) : Tab (Int × ((Bool × ((List UInt8) × (Int × Unit))) × Unit)) := [([0, 1], field_Reader_End_h1 N)]

theorem field_Reader_End_link (N : Nat) (x : denS [(0, .box (.pair .bool (.pair .str (.pair (.int .i64) .unit))))]) : evFX (field_Reader_End_E N) N (field_Reader_End_t N) field_Reader_End_L Go.Proofs.Try.f13 (mkS [(0, .box (.pair .bool (.pair .str (.pair (.int .i64) .unit))))] 0 x) (kResB (.v (.int .i64)) [(0, .box (.pair .bool (.pair .str (.pair (.int .i64) .unit))))] 0) = field_Reader_End N x.1 := by kernel_rfl

noncomputable def field_Reader_End_res (N : Nat) : List A → Res := resOf [(0, .box (.pair .bool (.pair .str (.pair (.int .i64) .unit))))] (fun x => field_Reader_End N x.1) (oResB (.v (.int .i64)) [(0, .box (.pair .bool (.pair .str (.pair (.int .i64) .unit))))] 0)

theorem field_Reader_End_ct (N : Nat) : Contract Go.Proofs.Try.prog noGlob 13 (field_Reader_End_res N) :=
  Contract.of (E := field_Reader_End_E N) (H := field_Reader_End_t N) (L := field_Reader_End_L) (N := N) (body := field_Reader_End_body) (K := (kResB (.v (.int .i64)) [(0, .box (.pair .bool (.pair .str (.pair (.int .i64) .unit))))] 0)) (field_Reader_End_Eok N) Go.Proofs.Try.func13 (by kernel_rfl) (by decide) (fun _ hb => (TabOk.cons (field_Reader_End_ok1 hb) TabOk.nil)) (fun x y h => by rw [field_Reader_End_link]; exact h) (kResB_ok (s := (.v (.int .i64))) (os := [(0, .box (.pair .bool (.pair .str (.pair (.int .i64) .unit))))]) (m := 0))

abbrev field_Reader_End_nil_R : Type := Int

noncomputable def field_Reader_End_nil_body : Code := (Go.Proofs.Try.f13.body).getD .skip

noncomputable def field_Reader_End_nil_L : List (List Nat × List Nat) := [([0], [0]), ([0, 0, 1], [5, 0]), ([1, 0, 1], [0]), ([0, 1, 0, 1], [0]), ([0, 1, 1], [2]), ([1, 1, 1], [2])]

noncomputable def field_Reader_End_nil_E (N : Nat) : Env := mkEnv tys noGlob [(10, field_Reader_Err_nil_all N), (9, field_Reader_Left_nil_all N), (11, field_Reader_Fail_nil_all N)] [] [] [] false [] []

theorem field_Reader_End_nil_Eok (N : Nat) : EnvOk Go.Proofs.Try.prog (field_Reader_End_nil_E N) := mkEnv_ok mixed tys_ok (FnsOk.cons (field_Reader_Err_nil_allct N) (FnsOk.cons (field_Reader_Left_nil_allct N) (FnsOk.cons (field_Reader_Fail_nil_allct N) (FnsOk.nil)))) (ItsOk.nil)

noncomputable def field_Reader_End_nil_p1 (N : Nat) (k0 : Option Int) : Option Int :=
  k0

noncomputable def field_Reader_End_nil_g1 (N : Nat) (x : denS [(0, .nilp)]) (K : Ex → List A → Option Int) : Option Int :=
  field_Reader_End_nil_p1 N (K .normal (mkS [(0, .nilp)] 9 ((), ())))

noncomputable def field_Reader_End_nil_h1 (N : Nat) : Hd Int := fun st K => (unS [(0, .nilp)] 9 (restr [0] 0 st)).bind fun x => field_Reader_End_nil_g1 N x K

noncomputable def field_Reader_End_nil_t1 (N : Nat) : Tab Int := []

theorem field_Reader_End_nil_ok1 {N : Nat} {c : Ctx} (hb : Base Go.Proofs.Try.prog (field_Reader_End_nil_E N) c) : CodeOk Go.Proofs.Try.prog c (nodeAt field_Reader_End_nil_body [0, 1]) (field_Reader_End_nil_h1 N) :=
  piece_ok (s := [(0, .nilp)]) (m := 9) (g := field_Reader_End_nil_g1 N) [0] (evN_sound hb N (field_Reader_End_nil_t1 N) field_Reader_End_nil_L field_Reader_End_nil_body TabOk.nil [0, 1] _ rfl) (fun x K => by kernel_rfl)

noncomputable def field_Reader_End_nil (N : Nat) : Option Int :=
  field_Reader_End_nil_p1 N
  (some (21 : Int))

noncomputable def field_Reader_End_nil_t (N : Nat) : Tab Int := [([0, 1], field_Reader_End_nil_h1 N)]

theorem field_Reader_End_nil_link (N : Nat) (x : denS [(0, .nilp)]) : evFX (field_Reader_End_nil_E N) N (field_Reader_End_nil_t N) field_Reader_End_nil_L Go.Proofs.Try.f13 (mkS [(0, .nilp)] 0 x) (kRes (.v (.int .i64)) 1) = field_Reader_End_nil N := by kernel_rfl

noncomputable def field_Reader_End_nil_res (N : Nat) : List A → Res := resOf [(0, .nilp)] (fun x => field_Reader_End_nil N) (oRes (.v (.int .i64)) 1)

theorem field_Reader_End_nil_ct (N : Nat) : Contract Go.Proofs.Try.prog noGlob 13 (field_Reader_End_nil_res N) :=
  Contract.of (E := field_Reader_End_nil_E N) (H := field_Reader_End_nil_t N) (L := field_Reader_End_nil_L) (N := N) (body := field_Reader_End_nil_body) (K := (kRes (.v (.int .i64)) 1)) (field_Reader_End_nil_Eok N) Go.Proofs.Try.func13 (by kernel_rfl) (by decide) (fun _ hb => (TabOk.cons (field_Reader_End_nil_ok1 hb) TabOk.nil)) (fun x y h => by rw [field_Reader_End_nil_link]; exact h) (kRes_ok (s := (.v (.int .i64))) (m := 1))

noncomputable def field_Reader_End_nil_all (N : Nat) : List A → Res := resAlt [(0, .nilp)] (fun x => field_Reader_End_nil N) (oRes (.v (.int .i64)) 1) (field_Reader_End_res N)

theorem field_Reader_End_nil_allct (N : Nat) : Contract Go.Proofs.Try.prog noGlob 13 (field_Reader_End_nil_all N) := Contract.alt (field_Reader_End_nil_ct N) (field_Reader_End_ct N)

abbrev field_Num_R : Type := (List UInt8)

noncomputable def field_Num_body : Code := (Go.Proofs.Try.f17.body).getD .skip

noncomputable def field_Num_L : List (List Nat × List Nat) := [([0], [0]), ([0, 1], [2]), ([1, 1], [2])]

noncomputable def field_Num_E (N : Nat) : Env := mkEnv tys noGlob [(31, varint_Put_res N)] [] [] [] false [] []

theorem field_Num_Eok (N : Nat) : EnvOk Go.Proofs.Try.prog (field_Num_E N) := mkEnv_ok mixed tys_ok (FnsOk.cons (varint_Put_ct N) (FnsOk.nil)) (ItsOk.nil)

noncomputable def field_Num (N : Nat) (n : Int) : Option (List UInt8) :=
  (varint_Put N n).bind fun y =>
  some y

noncomputable def field_Num_t (N : Nat) : Tab (List UInt8) := []

theorem field_Num_link (N : Nat) (x : denS [(0, .v (.int .u64))]) : evFX (field_Num_E N) N (field_Num_t N) field_Num_L Go.Proofs.Try.f17 (mkS [(0, .v (.int .u64))] 0 x) (kRes (.v .str) 1) = field_Num N x.1 := by kernel_rfl

noncomputable def field_Num_res (N : Nat) : List A → Res := resOf [(0, .v (.int .u64))] (fun x => field_Num N x.1) (oRes (.v .str) 1)

theorem field_Num_ct (N : Nat) : Contract Go.Proofs.Try.prog noGlob 17 (field_Num_res N) :=
  Contract.of (E := field_Num_E N) (H := field_Num_t N) (L := field_Num_L) (N := N) (body := field_Num_body) (K := (kRes (.v .str) 1)) (field_Num_Eok N) Go.Proofs.Try.func17 (by kernel_rfl) (by decide) (fun _ hb => TabOk.nil) (fun x y h => by rw [field_Num_link]; exact h) (kRes_ok (s := (.v .str)) (m := 1))

abbrev porterlaw08_works_R : Type := Bool

noncomputable def porterlaw08_works_body : Code := (Go.Proofs.Try.f6.body).getD .skip

noncomputable def porterlaw08_works_L : List (List Nat × List Nat) := [([0], []), ([0, 1], [1]), ([0, 1, 1], [2, 1]), ([0, 1, 1, 1], [3, 2, 1]), ([0, 1, 1, 1, 1], [2, 1, 4, 3]), ([0, 1, 1, 1, 1, 1], [0]), ([1, 1, 1, 1, 1, 1], [0])]

noncomputable def porterlaw08_works_E (N : Nat) : Env := mkEnv tys noGlob [(17, field_Num_res N), (13, field_Reader_End_nil_all N), (10, field_Reader_Err_nil_all N), (19, field_Reader_Byte_res N), (9, field_Reader_Left_nil_all N), (15, field_Text_res N), (14, field_Reader_Text_res N), (7, field_New_res N)] [] [] [] false [] []

theorem porterlaw08_works_Eok (N : Nat) : EnvOk Go.Proofs.Try.prog (porterlaw08_works_E N) := mkEnv_ok mixed tys_ok (FnsOk.cons (field_Num_ct N) (FnsOk.cons (field_Reader_End_nil_allct N) (FnsOk.cons (field_Reader_Err_nil_allct N) (FnsOk.cons (field_Reader_Byte_ct N) (FnsOk.cons (field_Reader_Left_nil_allct N) (FnsOk.cons (field_Text_ct N) (FnsOk.cons (field_Reader_Text_ct N) (FnsOk.cons (field_New_ct N) (FnsOk.nil))))))))) (ItsOk.nil)

noncomputable def porterlaw08_works (N : Nat) : Option Bool :=
  (field_Reader_Text N (true, (([(2 : UInt8), (97 : UInt8), (98 : UInt8), (99 : UInt8)] : List UInt8), ((0 : Int), ()))) (9 : Int)).bind fun y =>
  (field_Reader_Text N (true, (([(5 : UInt8), (97 : UInt8)] : List UInt8), ((0 : Int), ()))) (4 : Int)).bind fun y1 =>
  (field_Text N ([(97 : UInt8), (98 : UInt8)] : List UInt8)).bind fun y2 =>
  cond (y2 == ([(2 : UInt8), (97 : UInt8), (98 : UInt8)] : List UInt8))
  (cond (y.1 == ([(97 : UInt8), (98 : UInt8)] : List UInt8))
    (cond ((((List.length y.2.1.2.1) : Nat) : Int) == (1 : Int))
      ((field_Reader_Byte N y.2.1).bind fun y3 =>
        cond (y3.1 == (99 : Int))
        ((field_Reader_End N y3.2.1).bind fun y4 =>
          cond (y4.1 == (0 : Int))
          (cond (y1.1 == ([] : List UInt8))
            ((field_Reader_Err N y1.2.1).bind fun y5 =>
              cond (y5.1 == (3 : Int))
              ((field_Reader_End N y5.2.1).bind fun y6 =>
                cond (y6.1 == (3 : Int))
                ((field_Num N (300 : Int)).bind fun y7 =>
                  some (y7 == ([(172 : UInt8), (2 : UInt8)] : List UInt8)))
                (some false))
              (some false))
            (some false))
          (some false))
        (some false))
      (some false))
    (some false))
  (some false)

noncomputable def porterlaw08_works_t (N : Nat) : Tab Bool := []

theorem porterlaw08_works_link (N : Nat) (x : denS []) : evFX (porterlaw08_works_E N) N (porterlaw08_works_t N) porterlaw08_works_L Go.Proofs.Try.f6 (mkS [] 0 x) (kRes (.v .bool) 0) = porterlaw08_works N := by kernel_rfl

noncomputable def porterlaw08_works_res (N : Nat) : List A → Res := resOf [] (fun x => porterlaw08_works N) (oRes (.v .bool) 0)

theorem porterlaw08_works_ct (N : Nat) : Contract Go.Proofs.Try.prog noGlob 6 (porterlaw08_works_res N) :=
  Contract.of (E := porterlaw08_works_E N) (H := porterlaw08_works_t N) (L := porterlaw08_works_L) (N := N) (body := porterlaw08_works_body) (K := (kRes (.v .bool) 0)) (porterlaw08_works_Eok N) Go.Proofs.Try.func6 (by kernel_rfl) (by decide) (fun _ hb => TabOk.nil) (fun x y h => by rw [porterlaw08_works_link]; exact h) (kRes_ok (s := (.v .bool)) (m := 0))

abbrev porterref08_R_Fail_R : Type := ((List UInt8) × (Int × Unit))

noncomputable def porterref08_R_Fail_body : Code := (Go.Proofs.Try.f23.body).getD .skip

noncomputable def porterref08_R_Fail_L : List (List Nat × List Nat) := [([0], [2, 1, 4]), ([0, 0, 1], [11, 2, 4, 1]), ([1, 0, 1], [1, 4]), ([0, 0, 1, 0, 1], [4]), ([1, 0, 1, 0, 1], [4]), ([0, 1, 1], [4]), ([1, 1, 1], [4])]

noncomputable def porterref08_R_Fail_E (N : Nat) : Env := mkEnv tys noGlob [] [] [] [] false [] []

theorem porterref08_R_Fail_Eok (N : Nat) : EnvOk Go.Proofs.Try.prog (porterref08_R_Fail_E N) := mkEnv_ok mixed tys_ok (FnsOk.nil) (ItsOk.nil)

noncomputable def porterref08_R_Fail_p2 (N : Nat) (e : Int) (r_ : ((List UInt8) × (Int × Unit))) (x4 : ((List UInt8) × (Int × Unit))) (k0 : Bool → Option ((List UInt8) × (Int × Unit))) : Option ((List UInt8) × (Int × Unit)) :=
  cond (r_.2.1 != (0 : Int))
  (k0 true)
  (k0 (e == (0 : Int)))

noncomputable def porterref08_R_Fail_g2 (N : Nat) (x : denS [(1, .v (.int .i64)), (0, .box (.pair .str (.pair (.int .i64) .unit))), (1, .box (.pair .str (.pair (.int .i64) .unit)))]) (K : Ex → List A → Option ((List UInt8) × (Int × Unit))) : Option ((List UInt8) × (Int × Unit)) :=
  porterref08_R_Fail_p2 N x.1 x.2.1 x.2.2.1 (fun a3 => (K .normal (mkS [(1, .v (.int .i64)), (0, .box (.pair .str (.pair (.int .i64) .unit))), (1, .box (.pair .str (.pair (.int .i64) .unit))), (6, .v .bool)] 3 (x.1, x.2.1, x.2.2.1, a3, ()))))

noncomputable def porterref08_R_Fail_h2 (N : Nat) : Hd ((List UInt8) × (Int × Unit)) := fun st K => (unS [(1, .v (.int .i64)), (0, .box (.pair .str (.pair (.int .i64) .unit))), (1, .box (.pair .str (.pair (.int .i64) .unit)))] 10 (restr [2, 1, 4] 0 st)).bind fun x => porterref08_R_Fail_g2 N x K

noncomputable def porterref08_R_Fail_t2 (N : Nat) : Tab ((List UInt8) × (Int × Unit)) := []

theorem porterref08_R_Fail_ok2 {N : Nat} {c : Ctx} (hb : Base Go.Proofs.Try.prog (porterref08_R_Fail_E N) c) : CodeOk Go.Proofs.Try.prog c (nodeAt porterref08_R_Fail_body [0, 0, 1]) (porterref08_R_Fail_h2 N) :=
  piece_ok (s := [(1, .v (.int .i64)), (0, .box (.pair .str (.pair (.int .i64) .unit))), (1, .box (.pair .str (.pair (.int .i64) .unit)))]) (m := 10) (g := porterref08_R_Fail_g2 N) [2, 1, 4] (evN_sound hb N (porterref08_R_Fail_t2 N) porterref08_R_Fail_L porterref08_R_Fail_body TabOk.nil [0, 0, 1] _ rfl) (fun x K => by kernel_rfl)

noncomputable def porterref08_R_Fail_p1 (N : Nat) (e : Int) (r_ : ((List UInt8) × (Int × Unit))) (x4 : ((List UInt8) × (Int × Unit))) (k0 : Option ((List UInt8) × (Int × Unit))) (k1 : Option ((List UInt8) × (Int × Unit))) : Option ((List UInt8) × (Int × Unit)) :=
  porterref08_R_Fail_p2 N e r_ x4
  (fun x11 => cond x11
    (k0)
    (k1))

noncomputable def porterref08_R_Fail_g1 (N : Nat) (x : denS [(1, .v (.int .i64)), (0, .box (.pair .str (.pair (.int .i64) .unit))), (1, .box (.pair .str (.pair (.int .i64) .unit)))]) (K : Ex → List A → Option ((List UInt8) × (Int × Unit))) : Option ((List UInt8) × (Int × Unit)) :=
  porterref08_R_Fail_p1 N x.1 x.2.1 x.2.2.1 (K .ret (mkS [(4, .box (.pair .str (.pair (.int .i64) .unit)))] 10 (x.2.1, ()))) (K .normal (mkS [(1, .v (.int .i64)), (2, .box (.pair .str (.pair (.int .i64) .unit)))] 10 (x.1, x.2.2.1, ())))

noncomputable def porterref08_R_Fail_h1 (N : Nat) : Hd ((List UInt8) × (Int × Unit)) := fun st K => (unS [(1, .v (.int .i64)), (0, .box (.pair .str (.pair (.int .i64) .unit))), (1, .box (.pair .str (.pair (.int .i64) .unit)))] 10 (restr [2, 1, 4] 0 st)).bind fun x => porterref08_R_Fail_g1 N x K

noncomputable def porterref08_R_Fail_t1 (N : Nat) : Tab ((List UInt8) × (Int × Unit)) := [([0, 0, 1], porterref08_R_Fail_h2 N)]

theorem porterref08_R_Fail_ok1 {N : Nat} {c : Ctx} (hb : Base Go.Proofs.Try.prog (porterref08_R_Fail_E N) c) : CodeOk Go.Proofs.Try.prog c (nodeAt porterref08_R_Fail_body [0, 1]) (porterref08_R_Fail_h1 N) :=
  piece_ok (s := [(1, .v (.int .i64)), (0, .box (.pair .str (.pair (.int .i64) .unit))), (1, .box (.pair .str (.pair (.int .i64) .unit)))]) (m := 10) (g := porterref08_R_Fail_g1 N) [2, 1, 4] (evN_sound hb N (porterref08_R_Fail_t1 N) porterref08_R_Fail_L porterref08_R_Fail_body (TabOk.cons (porterref08_R_Fail_ok2 hb) TabOk.nil) [0, 1] _ rfl) (fun x K => by kernel_rfl)

noncomputable def porterref08_R_Fail (N : Nat) (r_ : ((List UInt8) × (Int × Unit))) (e : Int) : Option ((List UInt8) × (Int × Unit)) :=
  porterref08_R_Fail_p1 N e r_ (([] : List UInt8), ((0 : Int), ()))
  (some r_)
  (some (([] : List UInt8), (e, ())))

noncomputable def porterref08_R_Fail_t (N : Nat) : Tab ((List UInt8) × (Int × Unit)) := [([0, 1], porterref08_R_Fail_h1 N)]

theorem porterref08_R_Fail_link (N : Nat) (x : denS [(0, .v (.pair .str (.pair (.int .i64) .unit))), (0, .v (.int .i64))]) : evFX (porterref08_R_Fail_E N) N (porterref08_R_Fail_t N) porterref08_R_Fail_L Go.Proofs.Try.f23 (mkS [(0, .v (.pair .str (.pair (.int .i64) .unit))), (0, .v (.int .i64))] 0 x) (kRes (.v (.pair .str (.pair (.int .i64) .unit))) 2) = porterref08_R_Fail N x.1 x.2.1 := by kernel_rfl

noncomputable def porterref08_R_Fail_res (N : Nat) : List A → Res := resOf [(0, .v (.pair .str (.pair (.int .i64) .unit))), (0, .v (.int .i64))] (fun x => porterref08_R_Fail N x.1 x.2.1) (oRes (.v (.pair .str (.pair (.int .i64) .unit))) 2)

theorem porterref08_R_Fail_ct (N : Nat) : Contract Go.Proofs.Try.prog noGlob 23 (porterref08_R_Fail_res N) :=
  Contract.of (E := porterref08_R_Fail_E N) (H := porterref08_R_Fail_t N) (L := porterref08_R_Fail_L) (N := N) (body := porterref08_R_Fail_body) (K := (kRes (.v (.pair .str (.pair (.int .i64) .unit))) 2)) (porterref08_R_Fail_Eok N) Go.Proofs.Try.func23 (by kernel_rfl) (by decide) (fun _ hb => (TabOk.cons (porterref08_R_Fail_ok1 hb) TabOk.nil)) (fun x y h => by rw [porterref08_R_Fail_link]; exact h) (kRes_ok (s := (.v (.pair .str (.pair (.int .i64) .unit)))) (m := 2))

abbrev porterref08_R_Byte_R : Type := (Int × ((List UInt8) × (Int × Unit)) × Unit)

noncomputable def porterref08_R_Byte_body : Code := (Go.Proofs.Try.f20.body).getD .skip

noncomputable def porterref08_R_Byte_L : List (List Nat × List Nat) := [([0], [1, 3]), ([0, 0, 1], [6, 1, 3]), ([1, 0, 1], [1, 3]), ([0, 0, 1, 0, 1], [2, 3]), ([1, 0, 1, 0, 1], [2, 3]), ([0, 0, 1, 1], [10, 1, 3]), ([1, 0, 1, 1], [1, 3]), ([0, 0, 1, 0, 1, 1], [2, 3]), ([1, 0, 1, 0, 1, 1], [2, 3]), ([0, 1, 1, 1], [2, 3]), ([1, 1, 1, 1], [2, 3])]

noncomputable def porterref08_R_Byte_E (N : Nat) : Env := mkEnv tys noGlob [(23, porterref08_R_Fail_res N)] [] [] [] false [] []

theorem porterref08_R_Byte_Eok (N : Nat) : EnvOk Go.Proofs.Try.prog (porterref08_R_Byte_E N) := mkEnv_ok mixed tys_ok (FnsOk.cons (porterref08_R_Fail_ct N) (FnsOk.nil)) (ItsOk.nil)

noncomputable def porterref08_R_Byte (N : Nat) (r_ : ((List UInt8) × (Int × Unit))) : Option (Int × ((List UInt8) × (Int × Unit)) × Unit) :=
  cond (r_.2.1 != (0 : Int))
  (some ((0 : Int), (r_, ())))
  (cond (r_.1 == ([] : List UInt8))
    ((porterref08_R_Fail N r_ (1 : Int)).bind fun y =>
      some ((0 : Int), (y, ())))
    (cond (Go.Lift.inR (0 : Int) (List.length r_.1))
      (cond (decide (((0 : Int) ≤ (1 : Int)) ∧ ((1 : Int) ≤ (((List.length r_.1) : Nat) : Int))))
        (some ((((UInt8.toNat (List.getD r_.1 0 (0 : UInt8))) : Nat) : Int), (((Go.Lift.cut r_.1 1 (List.length r_.1)), ((0 : Int), ())), ())))
        (none))
      (none)))

noncomputable def porterref08_R_Byte_t (N : Nat) : Tab (Int × ((List UInt8) × (Int × Unit)) × Unit) := []

theorem porterref08_R_Byte_link (N : Nat) (x : denS [(0, .v (.pair .str (.pair (.int .i64) .unit)))]) : evFX (porterref08_R_Byte_E N) N (porterref08_R_Byte_t N) porterref08_R_Byte_L Go.Proofs.Try.f20 (mkS [(0, .v (.pair .str (.pair (.int .i64) .unit)))] 0 x) (kRes (.tup [(.int .u8), (.pair .str (.pair (.int .i64) .unit))]) 1) = porterref08_R_Byte N x.1 := by kernel_rfl

noncomputable def porterref08_R_Byte_res (N : Nat) : List A → Res := resOf [(0, .v (.pair .str (.pair (.int .i64) .unit)))] (fun x => porterref08_R_Byte N x.1) (oRes (.tup [(.int .u8), (.pair .str (.pair (.int .i64) .unit))]) 1)

theorem porterref08_R_Byte_ct (N : Nat) : Contract Go.Proofs.Try.prog noGlob 20 (porterref08_R_Byte_res N) :=
  Contract.of (E := porterref08_R_Byte_E N) (H := porterref08_R_Byte_t N) (L := porterref08_R_Byte_L) (N := N) (body := porterref08_R_Byte_body) (K := (kRes (.tup [(.int .u8), (.pair .str (.pair (.int .i64) .unit))]) 1)) (porterref08_R_Byte_Eok N) Go.Proofs.Try.func20 (by kernel_rfl) (by decide) (fun _ hb => TabOk.nil) (fun x y h => by rw [porterref08_R_Byte_link]; exact h) (kRes_ok (s := (.tup [(.int .u8), (.pair .str (.pair (.int .i64) .unit))])) (m := 1))

abbrev porterref02_Byte_R : Type := (List UInt8)

noncomputable def porterref02_Byte_body : Code := (Go.Proofs.Try.f32.body).getD .skip

noncomputable def porterref02_Byte_L : List (List Nat × List Nat) := [([0], [0]), ([0, 1], [3]), ([0, 1, 1], [2]), ([1, 1, 1], [2])]

noncomputable def porterref02_Byte_E (N : Nat) : Env := mkEnv tys noGlob [] [] [] [] false [] []

theorem porterref02_Byte_Eok (N : Nat) : EnvOk Go.Proofs.Try.prog (porterref02_Byte_E N) := mkEnv_ok mixed tys_ok (FnsOk.nil) (ItsOk.nil)

noncomputable def porterref02_Byte (N : Nat) (n : Int) : Option (List UInt8) :=
  some (Go.Lift.toStr ([(Go.IntKind.wrap Go.IntKind.u8 n)] : List Int))

noncomputable def porterref02_Byte_t (N : Nat) : Tab (List UInt8) := []

theorem porterref02_Byte_link (N : Nat) (x : denS [(0, .v (.int .i64))]) : evFX (porterref02_Byte_E N) N (porterref02_Byte_t N) porterref02_Byte_L Go.Proofs.Try.f32 (mkS [(0, .v (.int .i64))] 0 x) (kRes (.v .str) 1) = porterref02_Byte N x.1 := by kernel_rfl

noncomputable def porterref02_Byte_res (N : Nat) : List A → Res := resOf [(0, .v (.int .i64))] (fun x => porterref02_Byte N x.1) (oRes (.v .str) 1)

theorem porterref02_Byte_ct (N : Nat) : Contract Go.Proofs.Try.prog noGlob 32 (porterref02_Byte_res N) :=
  Contract.of (E := porterref02_Byte_E N) (H := porterref02_Byte_t N) (L := porterref02_Byte_L) (N := N) (body := porterref02_Byte_body) (K := (kRes (.v .str) 1)) (porterref02_Byte_Eok N) Go.Proofs.Try.func32 (by kernel_rfl) (by decide) (fun _ hb => TabOk.nil) (fun x y h => by rw [porterref02_Byte_link]; exact h) (kRes_ok (s := (.v .str)) (m := 1))

abbrev porterref07_Put_R : Type := (List UInt8)

noncomputable def porterref07_Put_body : Code := (Go.Proofs.Try.f18.body).getD .skip

noncomputable def porterref07_Put_L : List (List Nat × List Nat) := [([0], [0]), ([0, 0, 1], [4, 0]), ([1, 0, 1], [0]), ([0, 0, 1, 0, 1], [2]), ([1, 0, 1, 0, 1], [2]), ([0, 1, 1], [2]), ([1, 1, 1], [2])]

noncomputable def porterref07_Put_E (N : Nat) (self : Int → Option (List UInt8)) : Env := mkEnv tys noGlob [(32, porterref02_Byte_res N), (18, resOf [(0, .v (.int .u64))] (fun x => self x.1) (oRes (.v .str) 1))] [] [] [] false [] []

theorem porterref07_Put_Eok (N : Nat) (self : Int → Option (List UInt8)) (hself : Contract Go.Proofs.Try.prog noGlob 18 (resOf [(0, .v (.int .u64))] (fun x => self x.1) (oRes (.v .str) 1))) : EnvOk Go.Proofs.Try.prog (porterref07_Put_E N self) := mkEnv_ok mixed tys_ok (FnsOk.cons (porterref02_Byte_ct N) (FnsOk.cons (hself) (FnsOk.nil))) (ItsOk.nil)

noncomputable def porterref07_Put_F (N : Nat) (self : Int → Option (List UInt8)) (n : Int) : Option (List UInt8) :=
  cond (decide (n < (128 : Int)))
  (some (Go.Lift.toStr ([(Go.IntKind.wrap Go.IntKind.u8 (Go.IntKind.wrap Go.IntKind.i64 n))] : List Int)))
  ((self (Go.IntKind.wrap Go.IntKind.u64 (Int.tdiv n (128 : Int)))).bind fun y =>
    cond (decide (((List.length (Go.Lift.toStr ([(Go.IntKind.wrap Go.IntKind.u8 (Go.IntKind.wrap Go.IntKind.i64 ((Go.IntKind.wrap Go.IntKind.i64 (Int.tmod n (128 : Int))) + (128 : Int))))] : List Int))) + (List.length y)) ≤ 9223372036854775807))
    (some ((Go.Lift.toStr ([(Go.IntKind.wrap Go.IntKind.u8 (Go.IntKind.wrap Go.IntKind.i64 ((Go.IntKind.wrap Go.IntKind.i64 (Int.tmod n (128 : Int))) + (128 : Int))))] : List Int)) ++ y))
    (none))

noncomputable def porterref07_Put_t (N : Nat) (self : Int → Option (List UInt8)) : Tab (List UInt8) := []

theorem porterref07_Put_link (N : Nat) (self : Int → Option (List UInt8)) (x : denS [(0, .v (.int .u64))]) : evFX (porterref07_Put_E N self) N (porterref07_Put_t N self) porterref07_Put_L Go.Proofs.Try.f18 (mkS [(0, .v (.int .u64))] 0 x) (kRes (.v .str) 1) = porterref07_Put_F N self x.1 := by kernel_rfl

noncomputable def porterref07_Put : Nat → Int → Option (List UInt8)
  | 0 => fun _ => none
  | N + 1 => porterref07_Put_F (N + 1) (porterref07_Put N)

noncomputable def porterref07_Put_res (N : Nat) : List A → Res := resOf [(0, .v (.int .u64))] (fun x => porterref07_Put N x.1) (oRes (.v .str) 1)

theorem porterref07_Put_ct : ∀ N : Nat, Contract Go.Proofs.Try.prog noGlob 18 (porterref07_Put_res N)
  | 0 => Contract.zero Go.Proofs.Try.func18 (body := porterref07_Put_body) (by kernel_rfl) (by decide) (fun _ => rfl)
  | N + 1 => Contract.of (E := porterref07_Put_E (N + 1) (porterref07_Put N)) (H := porterref07_Put_t (N + 1) (porterref07_Put N)) (L := porterref07_Put_L) (N := (N + 1)) (body := porterref07_Put_body) (K := (kRes (.v .str) 1)) (porterref07_Put_Eok (N + 1) (porterref07_Put N) (porterref07_Put_ct N)) Go.Proofs.Try.func18 (by kernel_rfl) (by decide) (fun _ hb => TabOk.nil) (fun x y h => by rw [porterref07_Put_link]; exact h) (kRes_ok (s := (.v .str)) (m := 1))

abbrev porterref07_Take_R : Type := (Int × Int × Int × Unit)

noncomputable def porterref07_Take_body : Code := (Go.Proofs.Try.f34.body).getD .skip

noncomputable def porterref07_Take_L : List (List Nat × List Nat) := [([0], [0]), ([0, 1], [5, 0]), ([0, 0, 1, 1], [5, 0]), ([0, 0, 0, 0, 0, 1, 1], [21, 5, 0]), ([1, 0, 0, 0, 0, 1, 1], [5, 0]), ([1, 1, 0, 0, 0, 0, 1, 1], [5, 0]), ([0, 1, 0, 0, 0, 1, 1], [5, 0]), ([1, 0, 0, 0, 1, 1], [5, 0]), ([0, 1, 1], [5, 0]), ([0, 0, 1, 1, 1], [25, 5, 0]), ([1, 0, 1, 1, 1], [5, 0]), ([0, 0, 1, 0, 1, 1, 1], [2, 3, 4]), ([1, 0, 1, 0, 1, 1, 1], [2, 3, 4]), ([0, 0, 1, 1, 1, 1], [29, 5, 0]), ([1, 0, 1, 1, 1, 1], [5, 0]), ([0, 0, 1, 0, 1, 1, 1, 1], [2, 3, 4]), ([1, 0, 1, 0, 1, 1, 1, 1], [2, 3, 4]), ([0, 1, 1, 1, 1, 1], [5, 6, 0]), ([0, 0, 1, 1, 1, 1, 1, 1], [7, 6, 0, 5]), ([0, 1, 0, 1, 1, 1, 1, 1, 1], [7, 6, 0, 5]), ([0, 0, 0, 0, 1, 0, 1, 1, 1, 1, 1, 1], [32, 6, 0, 7, 5]), ([1, 0, 0, 0, 1, 0, 1, 1, 1, 1, 1, 1], [6, 0, 7, 5]), ([1, 1, 0, 0, 0, 1, 0, 1, 1, 1, 1, 1, 1], [6, 0, 5]), ([0, 0, 0, 0, 1, 0, 0, 1, 0, 1, 1, 1, 1, 1, 1], [36, 6, 0, 7, 5]), ([1, 0, 0, 0, 1, 0, 0, 1, 0, 1, 1, 1, 1, 1, 1], [6, 0, 7, 5]), ([0, 0, 1, 0, 0, 0, 1, 0, 0, 1, 0, 1, 1, 1, 1, 1, 1], [2, 3, 4]), ([1, 0, 1, 0, 0, 0, 1, 0, 0, 1, 0, 1, 1, 1, 1, 1, 1], [2, 3, 4]), ([1, 0, 0, 1, 0, 0, 1, 0, 1, 1, 1, 1, 1, 1], [7, 6, 0, 5]), ([0, 1, 0, 0, 1, 0, 1, 1, 1, 1, 1, 1], [7, 6, 0, 5]), ([1, 1, 0, 0, 1, 0, 1, 1, 1, 1, 1, 1], [7, 6, 0, 5]), ([1, 0, 1, 1, 1, 1, 1, 1], [6, 0, 5]), ([0, 0, 1, 1, 1, 1, 1, 1, 1], [51, 6, 5]), ([1, 0, 1, 1, 1, 1, 1, 1, 1], [6, 5]), ([0, 0, 1, 0, 1, 1, 1, 1, 1, 1, 1], [2, 3, 4]), ([1, 0, 1, 0, 1, 1, 1, 1, 1, 1, 1], [2, 3, 4]), ([0, 1, 1, 1, 1, 1, 1, 1, 1], [2, 3, 4]), ([1, 1, 1, 1, 1, 1, 1, 1, 1], [2, 3, 4])]

noncomputable def porterref07_Take_E (N : Nat) : Env := mkEnv tys noGlob [(18, porterref07_Put_res N)] [] [] [] false [] []

theorem porterref07_Take_Eok (N : Nat) : EnvOk Go.Proofs.Try.prog (porterref07_Take_E N) := mkEnv_ok mixed tys_ok (FnsOk.cons (porterref07_Put_ct N) (FnsOk.nil)) (ItsOk.nil)

noncomputable def porterref07_Take_p3 (N : Nat) (s : (List UInt8)) (k : Int) (k0 : Option (Int × Int × Int × Unit)) (k1 : Option (Int × Int × Int × Unit)) : Option (Int × Int × Int × Unit) :=
  cond (decide (k < (((List.length s) : Nat) : Int)))
  (cond (decide (k < (10 : Int)))
    (cond (Go.Lift.inR k (List.length s))
      (cond (decide ((128 : Int) ≤ (((UInt8.toNat (List.getD s (Int.toNat k) (0 : UInt8))) : Nat) : Int)))
        (k0)
        (k1))
      (none))
    (k1))
  (k1)

noncomputable def porterref07_Take_g3 (N : Nat) (x : denS [(0, .v .str), (4, .v (.int .i64))]) (K : Ex → List A → Option (Int × Int × Int × Unit)) : Option (Int × Int × Int × Unit) :=
  porterref07_Take_p3 N x.1 x.2.1 (K .normal (mkS [(0, .v .str), (4, .v (.int .i64))] 49 (x.1, x.2.1, ()))) (K (.exit 0) (mkS [(0, .v .str), (4, .v (.int .i64))] 49 (x.1, x.2.1, ())))

noncomputable def porterref07_Take_h3 (N : Nat) : Hd (Int × Int × Int × Unit) := fun st K => (unS [(0, .v .str), (4, .v (.int .i64))] 49 (restr [5, 0] 0 st)).bind fun x => porterref07_Take_g3 N x K

noncomputable def porterref07_Take_t3 (N : Nat) : Tab (Int × Int × Int × Unit) := []

theorem porterref07_Take_ok3 {N : Nat} {c : Ctx} (hb : Base Go.Proofs.Try.prog (porterref07_Take_E N) c) : CodeOk Go.Proofs.Try.prog c (nodeAt porterref07_Take_body [0, 0, 0, 0, 1, 1]) (porterref07_Take_h3 N) :=
  piece_ok (s := [(0, .v .str), (4, .v (.int .i64))]) (m := 49) (g := porterref07_Take_g3 N) [5, 0] (evN_sound hb N (porterref07_Take_t3 N) porterref07_Take_L porterref07_Take_body TabOk.nil [0, 0, 0, 0, 1, 1] _ rfl) (fun x K => by kernel_rfl)

noncomputable def porterref07_Take_s2 (N : Nat) (s : (List UInt8)) (k : Int) (rec : Int → Option (Int × Int × Int × Unit)) (k0 : Int → Option (Int × Int × Int × Unit)) : Option (Int × Int × Int × Unit) :=
  porterref07_Take_p3 N s k
  (rec (Go.IntKind.wrap Go.IntKind.i64 (k + (1 : Int))))
  (k0 k)

noncomputable def porterref07_Take_p2 (N : Nat) (s : (List UInt8)) (k : Int) (k0 : Int → Option (Int × Int × Int × Unit)) : Option (Int × Int × Int × Unit) :=
  iter (fun (v : Int) r => porterref07_Take_s2 N s v (fun k => (r k)) k0) N k

noncomputable def porterref07_Take_g2 (N : Nat) (i : (List UInt8)) (v : Int) (r : Int → Option (Int × Int × Int × Unit)) (K : Ex → List A → Option (Int × Int × Int × Unit)) : Option (Int × Int × Int × Unit) :=
  porterref07_Take_s2 N i v (fun k => (r k)) (fun a1 => (K (.exit 0) (mkS [(0, .v .str), (4, .v (.int .i64))] 49 (i, a1, ()))))

noncomputable def porterref07_Take_h2 (N : Nat) : Hd (Int × Int × Int × Unit) := fun st K => (unS [(0, .v .str), (4, .v (.int .i64))] 49 (restr [5, 0] 0 st)).bind fun x => iter (fun v r => porterref07_Take_g2 N ((fun x => x.1) x) v r K) N ((fun x => x.2.1) x)

noncomputable def porterref07_Take_t2 (N : Nat) : Tab (Int × Int × Int × Unit) := [([0, 0, 0, 0, 1, 1], porterref07_Take_h3 N)]

theorem porterref07_Take_ok2 {N : Nat} {c : Ctx} (hb : Base Go.Proofs.Try.prog (porterref07_Take_E N) c) : CodeOk Go.Proofs.Try.prog c (nodeAt porterref07_Take_body [0, 0, 1, 1]) (porterref07_Take_h2 N) :=
  loop_ok (s := [(0, .v .str), (4, .v (.int .i64))]) (m := 49) (porterref07_Take_g2 N) [5, 0] N (fun x => x.1) (fun x => x.2.1) (fun i v => (i, v, ())) (fun _ => rfl) (evN_sound hb N (porterref07_Take_t2 N) porterref07_Take_L porterref07_Take_body (TabOk.cons (porterref07_Take_ok3 hb) TabOk.nil) [0, 0, 0, 1, 1] _ rfl) (fun i v r K => by kernel_rfl)

noncomputable def porterref07_Take_p1 (N : Nat) (s : (List UInt8)) (k : Int) (k0 : Int → Option (Int × Int × Int × Unit)) : Option (Int × Int × Int × Unit) :=
  porterref07_Take_p2 N s k
  (fun k1 => k0 k1)

noncomputable def porterref07_Take_g1 (N : Nat) (x : denS [(0, .v .str), (4, .v (.int .i64))]) (K : Ex → List A → Option (Int × Int × Int × Unit)) : Option (Int × Int × Int × Unit) :=
  porterref07_Take_p1 N x.1 x.2.1 (fun a1 => (K .normal (mkS [(0, .v .str), (4, .v (.int .i64))] 49 (x.1, a1, ()))))

noncomputable def porterref07_Take_h1 (N : Nat) : Hd (Int × Int × Int × Unit) := fun st K => (unS [(0, .v .str), (4, .v (.int .i64))] 49 (restr [5, 0] 0 st)).bind fun x => porterref07_Take_g1 N x K

noncomputable def porterref07_Take_t1 (N : Nat) : Tab (Int × Int × Int × Unit) := [([0, 0, 1, 1], porterref07_Take_h2 N)]

theorem porterref07_Take_ok1 {N : Nat} {c : Ctx} (hb : Base Go.Proofs.Try.prog (porterref07_Take_E N) c) : CodeOk Go.Proofs.Try.prog c (nodeAt porterref07_Take_body [0, 1, 1]) (porterref07_Take_h1 N) :=
  piece_ok (s := [(0, .v .str), (4, .v (.int .i64))]) (m := 49) (g := porterref07_Take_g1 N) [5, 0] (evN_sound hb N (porterref07_Take_t1 N) porterref07_Take_L porterref07_Take_body (TabOk.cons (porterref07_Take_ok2 hb) TabOk.nil) [0, 1, 1] _ rfl) (fun x K => by kernel_rfl)

noncomputable def porterref07_Take_s4 (N : Nat) (s : (List UInt8)) (k : Int) (n : Int) (i : Int) (rec : Int → Int → Option (Int × Int × Int × Unit)) (k0 : Int → Int → Int → Option (Int × Int × Int × Unit)) (k1 : Int → Option (Int × Int × Int × Unit)) : Option (Int × Int × Int × Unit) :=
  cond (decide ((0 : Int) ≤ i))
  (cond (decide ((144115188075855871 : Int) < n))
    (k0 (0 : Int) (0 : Int) (2 : Int))
    (cond (Go.Lift.inR i (List.length s))
      (rec (Go.IntKind.wrap Go.IntKind.u64 ((Go.IntKind.wrap Go.IntKind.u64 ((128 : Int) * n)) + (Go.IntKind.wrap Go.IntKind.u64 (Int.tmod (((UInt8.toNat (List.getD s (Int.toNat i) (0 : UInt8))) : Nat) : Int) (128 : Int))))) (Go.IntKind.wrap Go.IntKind.i64 (i - (1 : Int))))
      (none)))
  (k1 n)

noncomputable def porterref07_Take_p4 (N : Nat) (s : (List UInt8)) (k : Int) (n : Int) (i : Int) (k0 : Int → Int → Int → Option (Int × Int × Int × Unit)) (k1 : Int → Option (Int × Int × Int × Unit)) : Option (Int × Int × Int × Unit) :=
  iter (fun (v : (Int × Int)) r => porterref07_Take_s4 N s k v.1 v.2 (fun n i => (r (n, i))) k0 k1) N (n, i)

noncomputable def porterref07_Take_g4 (N : Nat) (i : ((List UInt8) × Int)) (v : (Int × Int)) (r : (Int × Int) → Option (Int × Int × Int × Unit)) (K : Ex → List A → Option (Int × Int × Int × Unit)) : Option (Int × Int × Int × Unit) :=
  porterref07_Take_s4 N i.1 i.2 v.1 v.2 (fun n i => (r (n, i))) (fun a0 a1 a2 => (K .ret (mkS [(2, .v (.int .u64)), (0, .v (.int .i64)), (0, .v (.int .i64))] 50 (a0, a1, a2, ())))) (fun a2 => (K (.exit 2) (mkS [(0, .v .str), (4, .v (.int .i64)), (0, .v (.int .u64))] 48 (i.1, i.2, a2, ()))))

noncomputable def porterref07_Take_h4 (N : Nat) : Hd (Int × Int × Int × Unit) := fun st K => (unS [(0, .v .str), (4, .v (.int .i64)), (0, .v (.int .u64)), (0, .v (.int .i64))] 47 (restr [7, 6, 0, 5] 0 st)).bind fun x => iter (fun v r => porterref07_Take_g4 N ((fun x => (x.1, x.2.1)) x) v r K) N ((fun x => (x.2.2.1, x.2.2.2.1)) x)

noncomputable def porterref07_Take_t4 (N : Nat) : Tab (Int × Int × Int × Unit) := []

theorem porterref07_Take_ok4 {N : Nat} {c : Ctx} (hb : Base Go.Proofs.Try.prog (porterref07_Take_E N) c) : CodeOk Go.Proofs.Try.prog c (nodeAt porterref07_Take_body [0, 1, 0, 1, 1, 1, 1, 1, 1]) (porterref07_Take_h4 N) :=
  loop_ok (s := [(0, .v .str), (4, .v (.int .i64)), (0, .v (.int .u64)), (0, .v (.int .i64))]) (m := 47) (porterref07_Take_g4 N) [7, 6, 0, 5] N (fun x => (x.1, x.2.1)) (fun x => (x.2.2.1, x.2.2.2.1)) (fun i v => (i.1, i.2, v.1, v.2, ())) (fun _ => rfl) (evN_sound hb N (porterref07_Take_t4 N) porterref07_Take_L porterref07_Take_body TabOk.nil [0, 0, 1, 0, 1, 1, 1, 1, 1, 1] _ rfl) (fun i v r K => by kernel_rfl)

noncomputable def porterref07_Take (N : Nat) (s : (List UInt8)) : Option (Int × Int × Int × Unit) :=
  porterref07_Take_p1 N s (0 : Int)
  (fun k => cond (k == (10 : Int))
    (some ((0 : Int), ((0 : Int), ((2 : Int), ()))))
    (cond (k == (((List.length s) : Nat) : Int))
      (some ((0 : Int), ((0 : Int), ((1 : Int), ()))))
      (porterref07_Take_p4 N s k (0 : Int) k
        (fun x2 x3 x4 => some (x2, (x3, (x4, ()))))
        (fun n => (porterref07_Put N n).bind fun y =>
          cond (decide (((0 : Int) ≤ (Go.IntKind.wrap Go.IntKind.i64 (k + (1 : Int)))) ∧ ((Go.IntKind.wrap Go.IntKind.i64 (k + (1 : Int))) ≤ (((List.length s) : Nat) : Int))))
          (cond (!(y == (Go.Lift.cut s 0 (Int.toNat (Go.IntKind.wrap Go.IntKind.i64 (k + (1 : Int)))))))
            (some ((0 : Int), ((0 : Int), ((2 : Int), ()))))
            (some (n, ((Go.IntKind.wrap Go.IntKind.i64 (k + (1 : Int))), ((0 : Int), ())))))
          (none)))))

noncomputable def porterref07_Take_t (N : Nat) : Tab (Int × Int × Int × Unit) := [([0, 1, 1], porterref07_Take_h1 N), ([0, 1, 0, 1, 1, 1, 1, 1, 1], porterref07_Take_h4 N)]

theorem porterref07_Take_link (N : Nat) (x : denS [(0, .v .str)]) : evFX (porterref07_Take_E N) N (porterref07_Take_t N) porterref07_Take_L Go.Proofs.Try.f34 (mkS [(0, .v .str)] 0 x) (kRes (.tup [(.int .u64), (.int .i64), (.int .i64)]) 1) = porterref07_Take N x.1 := by kernel_rfl

noncomputable def porterref07_Take_res (N : Nat) : List A → Res := resOf [(0, .v .str)] (fun x => porterref07_Take N x.1) (oRes (.tup [(.int .u64), (.int .i64), (.int .i64)]) 1)

theorem porterref07_Take_ct (N : Nat) : Contract Go.Proofs.Try.prog noGlob 34 (porterref07_Take_res N) :=
  Contract.of (E := porterref07_Take_E N) (H := porterref07_Take_t N) (L := porterref07_Take_L) (N := N) (body := porterref07_Take_body) (K := (kRes (.tup [(.int .u64), (.int .i64), (.int .i64)]) 1)) (porterref07_Take_Eok N) Go.Proofs.Try.func34 (by kernel_rfl) (by decide) (fun _ hb => (TabOk.cons (porterref07_Take_ok1 hb) (TabOk.cons (porterref07_Take_ok4 hb) TabOk.nil))) (fun x y h => by rw [porterref07_Take_link]; exact h) (kRes_ok (s := (.tup [(.int .u64), (.int .i64), (.int .i64)])) (m := 1))

abbrev porterref08_R_Num_R : Type := (Int × ((List UInt8) × (Int × Unit)) × Unit)

noncomputable def porterref08_R_Num_body : Code := (Go.Proofs.Try.f21.body).getD .skip

noncomputable def porterref08_R_Num_L : List (List Nat × List Nat) := [([0], [2, 5, 1]), ([0, 0, 1], [11, 2, 5, 1]), ([1, 0, 1], [2, 1, 5]), ([0, 0, 1, 0, 1], [4, 5]), ([1, 0, 1, 0, 1], [4, 5]), ([0, 1, 1], [8, 6, 1, 2, 5, 7]), ([0, 0, 1, 1, 1], [26, 2, 5, 6, 7, 8]), ([1, 0, 1, 1, 1], [8, 2, 5, 6, 7]), ([0, 1, 0, 1, 1, 1], [8, 2, 5, 6, 7]), ([0, 0, 1, 1, 1, 1], [28, 2, 8, 5, 6, 7]), ([1, 0, 1, 1, 1, 1], [6, 2, 7, 5]), ([0, 0, 1, 0, 1, 1, 1, 1], [4, 5]), ([1, 0, 1, 0, 1, 1, 1, 1], [4, 5]), ([0, 1, 1, 1, 1, 1], [4, 5]), ([1, 1, 1, 1, 1, 1], [4, 5])]

noncomputable def porterref08_R_Num_E (N : Nat) : Env := mkEnv tys noGlob [(34, porterref07_Take_res N), (23, porterref08_R_Fail_res N)] [] [] [] false [] []

theorem porterref08_R_Num_Eok (N : Nat) : EnvOk Go.Proofs.Try.prog (porterref08_R_Num_E N) := mkEnv_ok mixed tys_ok (FnsOk.cons (porterref07_Take_ct N) (FnsOk.cons (porterref08_R_Fail_ct N) (FnsOk.nil))) (ItsOk.nil)

noncomputable def porterref08_R_Num_p2 (N : Nat) (most : Int) (r_ : ((List UInt8) × (Int × Unit))) (x5 : ((List UInt8) × (Int × Unit))) (n : Int) (k : Int) (e : Int) (k0 : Bool → Option (Int × ((List UInt8) × (Int × Unit)) × Unit)) : Option (Int × ((List UInt8) × (Int × Unit)) × Unit) :=
  cond (e == (0 : Int))
  (k0 (decide (most < n)))
  (k0 false)

noncomputable def porterref08_R_Num_g2 (N : Nat) (x : denS [(1, .v (.int .u64)), (0, .box (.pair .str (.pair (.int .i64) .unit))), (2, .box (.pair .str (.pair (.int .i64) .unit))), (0, .v (.int .u64)), (0, .v (.int .i64)), (0, .v (.int .i64))]) (K : Ex → List A → Option (Int × ((List UInt8) × (Int × Unit)) × Unit)) : Option (Int × ((List UInt8) × (Int × Unit)) × Unit) :=
  porterref08_R_Num_p2 N x.1 x.2.1 x.2.2.1 x.2.2.2.1 x.2.2.2.2.1 x.2.2.2.2.2.1 (fun a5 => (K .normal (mkS [(2, .box (.pair .str (.pair (.int .i64) .unit))), (2, .box (.pair .str (.pair (.int .i64) .unit))), (0, .v (.int .u64)), (0, .v (.int .i64)), (0, .v (.int .i64)), (17, .v .bool)] 11 (x.2.1, x.2.2.1, x.2.2.2.1, x.2.2.2.2.1, x.2.2.2.2.2.1, a5, ()))))

noncomputable def porterref08_R_Num_h2 (N : Nat) : Hd (Int × ((List UInt8) × (Int × Unit)) × Unit) := fun st K => (unS [(1, .v (.int .u64)), (0, .box (.pair .str (.pair (.int .i64) .unit))), (2, .box (.pair .str (.pair (.int .i64) .unit))), (0, .v (.int .u64)), (0, .v (.int .i64)), (0, .v (.int .i64))] 29 (restr [8, 6, 1, 2, 5, 7] 0 st)).bind fun x => porterref08_R_Num_g2 N x K

noncomputable def porterref08_R_Num_t2 (N : Nat) : Tab (Int × ((List UInt8) × (Int × Unit)) × Unit) := []

theorem porterref08_R_Num_ok2 {N : Nat} {c : Ctx} (hb : Base Go.Proofs.Try.prog (porterref08_R_Num_E N) c) : CodeOk Go.Proofs.Try.prog c (nodeAt porterref08_R_Num_body [0, 0, 1, 1, 1]) (porterref08_R_Num_h2 N) :=
  piece_ok (s := [(1, .v (.int .u64)), (0, .box (.pair .str (.pair (.int .i64) .unit))), (2, .box (.pair .str (.pair (.int .i64) .unit))), (0, .v (.int .u64)), (0, .v (.int .i64)), (0, .v (.int .i64))]) (m := 29) (g := porterref08_R_Num_g2 N) [8, 6, 1, 2, 5, 7] (evN_sound hb N (porterref08_R_Num_t2 N) porterref08_R_Num_L porterref08_R_Num_body TabOk.nil [0, 0, 1, 1, 1] _ rfl) (fun x K => by kernel_rfl)

noncomputable def porterref08_R_Num_p1 (N : Nat) (most : Int) (r_ : ((List UInt8) × (Int × Unit))) (x5 : ((List UInt8) × (Int × Unit))) (n : Int) (k : Int) (e : Int) (k0 : Int → Option (Int × ((List UInt8) × (Int × Unit)) × Unit)) : Option (Int × ((List UInt8) × (Int × Unit)) × Unit) :=
  porterref08_R_Num_p2 N most r_ x5 n k e
  (fun x26 => cond x26
    (k0 (3 : Int))
    (k0 e))

noncomputable def porterref08_R_Num_g1 (N : Nat) (x : denS [(1, .v (.int .u64)), (0, .box (.pair .str (.pair (.int .i64) .unit))), (2, .box (.pair .str (.pair (.int .i64) .unit))), (0, .v (.int .u64)), (0, .v (.int .i64)), (0, .v (.int .i64))]) (K : Ex → List A → Option (Int × ((List UInt8) × (Int × Unit)) × Unit)) : Option (Int × ((List UInt8) × (Int × Unit)) × Unit) :=
  porterref08_R_Num_p1 N x.1 x.2.1 x.2.2.1 x.2.2.2.1 x.2.2.2.2.1 x.2.2.2.2.2.1 (fun a4 => (K .normal (mkS [(2, .box (.pair .str (.pair (.int .i64) .unit))), (2, .box (.pair .str (.pair (.int .i64) .unit))), (0, .v (.int .u64)), (0, .v (.int .i64)), (0, .v (.int .i64))] 29 (x.2.1, x.2.2.1, x.2.2.2.1, x.2.2.2.2.1, a4, ()))))

noncomputable def porterref08_R_Num_h1 (N : Nat) : Hd (Int × ((List UInt8) × (Int × Unit)) × Unit) := fun st K => (unS [(1, .v (.int .u64)), (0, .box (.pair .str (.pair (.int .i64) .unit))), (2, .box (.pair .str (.pair (.int .i64) .unit))), (0, .v (.int .u64)), (0, .v (.int .i64)), (0, .v (.int .i64))] 29 (restr [8, 6, 1, 2, 5, 7] 0 st)).bind fun x => porterref08_R_Num_g1 N x K

noncomputable def porterref08_R_Num_t1 (N : Nat) : Tab (Int × ((List UInt8) × (Int × Unit)) × Unit) := [([0, 0, 1, 1, 1], porterref08_R_Num_h2 N)]

theorem porterref08_R_Num_ok1 {N : Nat} {c : Ctx} (hb : Base Go.Proofs.Try.prog (porterref08_R_Num_E N) c) : CodeOk Go.Proofs.Try.prog c (nodeAt porterref08_R_Num_body [0, 1, 1, 1]) (porterref08_R_Num_h1 N) :=
  piece_ok (s := [(1, .v (.int .u64)), (0, .box (.pair .str (.pair (.int .i64) .unit))), (2, .box (.pair .str (.pair (.int .i64) .unit))), (0, .v (.int .u64)), (0, .v (.int .i64)), (0, .v (.int .i64))]) (m := 29) (g := porterref08_R_Num_g1 N) [8, 6, 1, 2, 5, 7] (evN_sound hb N (porterref08_R_Num_t1 N) porterref08_R_Num_L porterref08_R_Num_body (TabOk.cons (porterref08_R_Num_ok2 hb) TabOk.nil) [0, 1, 1, 1] _ rfl) (fun x K => by kernel_rfl)

noncomputable def porterref08_R_Num (N : Nat) (r_ : ((List UInt8) × (Int × Unit))) (most : Int) : Option (Int × ((List UInt8) × (Int × Unit)) × Unit) :=
  cond (r_.2.1 != (0 : Int))
  (some ((0 : Int), (r_, ())))
  ((porterref07_Take N r_.1).bind fun y =>
    porterref08_R_Num_p1 N most r_ (([] : List UInt8), ((0 : Int), ())) y.1 y.2.1 y.2.2.1
    (fun e => cond (e != (0 : Int))
      ((porterref08_R_Fail N r_ e).bind fun y1 =>
        some ((0 : Int), (y1, ())))
      (cond (decide (((0 : Int) ≤ y.2.1) ∧ (y.2.1 ≤ (((List.length r_.1) : Nat) : Int))))
        (some (y.1, (((Go.Lift.cut r_.1 (Int.toNat y.2.1) (List.length r_.1)), ((0 : Int), ())), ())))
        (none))))

noncomputable def porterref08_R_Num_t (N : Nat) : Tab (Int × ((List UInt8) × (Int × Unit)) × Unit) := [([0, 1, 1, 1], porterref08_R_Num_h1 N)]

theorem porterref08_R_Num_link (N : Nat) (x : denS [(0, .v (.pair .str (.pair (.int .i64) .unit))), (0, .v (.int .u64))]) : evFX (porterref08_R_Num_E N) N (porterref08_R_Num_t N) porterref08_R_Num_L Go.Proofs.Try.f21 (mkS [(0, .v (.pair .str (.pair (.int .i64) .unit))), (0, .v (.int .u64))] 0 x) (kRes (.tup [(.int .u64), (.pair .str (.pair (.int .i64) .unit))]) 2) = porterref08_R_Num N x.1 x.2.1 := by kernel_rfl

noncomputable def porterref08_R_Num_res (N : Nat) : List A → Res := resOf [(0, .v (.pair .str (.pair (.int .i64) .unit))), (0, .v (.int .u64))] (fun x => porterref08_R_Num N x.1 x.2.1) (oRes (.tup [(.int .u64), (.pair .str (.pair (.int .i64) .unit))]) 2)

theorem porterref08_R_Num_ct (N : Nat) : Contract Go.Proofs.Try.prog noGlob 21 (porterref08_R_Num_res N) :=
  Contract.of (E := porterref08_R_Num_E N) (H := porterref08_R_Num_t N) (L := porterref08_R_Num_L) (N := N) (body := porterref08_R_Num_body) (K := (kRes (.tup [(.int .u64), (.pair .str (.pair (.int .i64) .unit))]) 2)) (porterref08_R_Num_Eok N) Go.Proofs.Try.func21 (by kernel_rfl) (by decide) (fun _ hb => (TabOk.cons (porterref08_R_Num_ok1 hb) TabOk.nil)) (fun x y h => by rw [porterref08_R_Num_link]; exact h) (kRes_ok (s := (.tup [(.int .u64), (.pair .str (.pair (.int .i64) .unit))])) (m := 2))

abbrev porterref08_R_Text_R : Type := ((List UInt8) × ((List UInt8) × (Int × Unit)) × Unit)

noncomputable def porterref08_R_Text_body : Code := (Go.Proofs.Try.f22.body).getD .skip

noncomputable def porterref08_R_Text_L : List (List Nat × List Nat) := [([0], [1, 2, 5]), ([0, 0, 1], [9, 2, 5, 1]), ([1, 0, 1], [2, 1, 5]), ([0, 1, 0, 1], [2, 1, 5]), ([0, 1, 1], [7, 5, 6]), ([0, 0, 1, 1, 1], [19, 7, 5, 6]), ([1, 0, 1, 1, 1], [6, 7, 5]), ([0, 0, 1, 0, 1, 1, 1], [4, 5]), ([1, 0, 1, 0, 1, 1, 1], [4, 5]), ([0, 0, 1, 1, 1, 1], [26, 7, 5, 6]), ([1, 0, 1, 1, 1, 1], [7, 6, 5]), ([0, 0, 1, 0, 1, 1, 1, 1], [4, 5]), ([1, 0, 1, 0, 1, 1, 1, 1], [4, 5]), ([0, 1, 1, 1, 1, 1], [4, 5]), ([1, 1, 1, 1, 1, 1], [4, 5])]

noncomputable def porterref08_R_Text_E (N : Nat) : Env := mkEnv tys noGlob [(21, porterref08_R_Num_res N), (23, porterref08_R_Fail_res N)] [] [] [] false [] []

theorem porterref08_R_Text_Eok (N : Nat) : EnvOk Go.Proofs.Try.prog (porterref08_R_Text_E N) := mkEnv_ok mixed tys_ok (FnsOk.cons (porterref08_R_Num_ct N) (FnsOk.cons (porterref08_R_Fail_ct N) (FnsOk.nil))) (ItsOk.nil)

noncomputable def porterref08_R_Text_p1 (N : Nat) (most : Int) (r_ : ((List UInt8) × (Int × Unit))) (x5 : ((List UInt8) × (Int × Unit))) (k0 : Int → Option ((List UInt8) × ((List UInt8) × (Int × Unit)) × Unit)) : Option ((List UInt8) × ((List UInt8) × (Int × Unit)) × Unit) :=
  cond (decide (most < (0 : Int)))
  (k0 (0 : Int))
  (k0 most)

noncomputable def porterref08_R_Text_g1 (N : Nat) (x : denS [(1, .v (.int .i64)), (0, .box (.pair .str (.pair (.int .i64) .unit))), (2, .box (.pair .str (.pair (.int .i64) .unit)))]) (K : Ex → List A → Option ((List UInt8) × ((List UInt8) × (Int × Unit)) × Unit)) : Option ((List UInt8) × ((List UInt8) × (Int × Unit)) × Unit) :=
  porterref08_R_Text_p1 N x.1 x.2.1 x.2.2.1 (fun a0 => (K .normal (mkS [(1, .v (.int .i64)), (0, .box (.pair .str (.pair (.int .i64) .unit))), (2, .box (.pair .str (.pair (.int .i64) .unit)))] 32 (a0, x.2.1, x.2.2.1, ()))))

noncomputable def porterref08_R_Text_h1 (N : Nat) : Hd ((List UInt8) × ((List UInt8) × (Int × Unit)) × Unit) := fun st K => (unS [(1, .v (.int .i64)), (0, .box (.pair .str (.pair (.int .i64) .unit))), (2, .box (.pair .str (.pair (.int .i64) .unit)))] 32 (restr [1, 2, 5] 0 st)).bind fun x => porterref08_R_Text_g1 N x K

noncomputable def porterref08_R_Text_t1 (N : Nat) : Tab ((List UInt8) × ((List UInt8) × (Int × Unit)) × Unit) := []

theorem porterref08_R_Text_ok1 {N : Nat} {c : Ctx} (hb : Base Go.Proofs.Try.prog (porterref08_R_Text_E N) c) : CodeOk Go.Proofs.Try.prog c (nodeAt porterref08_R_Text_body [0, 1]) (porterref08_R_Text_h1 N) :=
  piece_ok (s := [(1, .v (.int .i64)), (0, .box (.pair .str (.pair (.int .i64) .unit))), (2, .box (.pair .str (.pair (.int .i64) .unit)))]) (m := 32) (g := porterref08_R_Text_g1 N) [1, 2, 5] (evN_sound hb N (porterref08_R_Text_t1 N) porterref08_R_Text_L porterref08_R_Text_body TabOk.nil [0, 1] _ rfl) (fun x K => by kernel_rfl)

noncomputable def porterref08_R_Text (N : Nat) (r_ : ((List UInt8) × (Int × Unit))) (most : Int) : Option ((List UInt8) × ((List UInt8) × (Int × Unit)) × Unit) :=
  porterref08_R_Text_p1 N most r_ (([] : List UInt8), ((0 : Int), ()))
  (fun most1 => (porterref08_R_Num N r_ (Go.IntKind.wrap Go.IntKind.u64 most1)).bind fun y =>
    cond (y.2.1.2.1 != (0 : Int))
    (some (([] : List UInt8), (y.2.1, ())))
    (cond (decide ((Go.IntKind.wrap Go.IntKind.u64 (((List.length y.2.1.1) : Nat) : Int)) < y.1))
      ((porterref08_R_Fail N y.2.1 (1 : Int)).bind fun y1 =>
        some (([] : List UInt8), (y1, ())))
      (cond (decide (((0 : Int) ≤ y.1) ∧ (y.1 ≤ (((List.length y.2.1.1) : Nat) : Int))))
        (cond (decide (((0 : Int) ≤ y.1) ∧ (y.1 ≤ (((List.length y.2.1.1) : Nat) : Int))))
          (some ((Go.Lift.cut y.2.1.1 0 (Int.toNat y.1)), (((Go.Lift.cut y.2.1.1 (Int.toNat y.1) (List.length y.2.1.1)), ((0 : Int), ())), ())))
          (none))
        (none))))

noncomputable def porterref08_R_Text_t (N : Nat) : Tab ((List UInt8) × ((List UInt8) × (Int × Unit)) × Unit) := [([0, 1], porterref08_R_Text_h1 N)]

theorem porterref08_R_Text_link (N : Nat) (x : denS [(0, .v (.pair .str (.pair (.int .i64) .unit))), (0, .v (.int .i64))]) : evFX (porterref08_R_Text_E N) N (porterref08_R_Text_t N) porterref08_R_Text_L Go.Proofs.Try.f22 (mkS [(0, .v (.pair .str (.pair (.int .i64) .unit))), (0, .v (.int .i64))] 0 x) (kRes (.tup [.str, (.pair .str (.pair (.int .i64) .unit))]) 2) = porterref08_R_Text N x.1 x.2.1 := by kernel_rfl

noncomputable def porterref08_R_Text_res (N : Nat) : List A → Res := resOf [(0, .v (.pair .str (.pair (.int .i64) .unit))), (0, .v (.int .i64))] (fun x => porterref08_R_Text N x.1 x.2.1) (oRes (.tup [.str, (.pair .str (.pair (.int .i64) .unit))]) 2)

theorem porterref08_R_Text_ct (N : Nat) : Contract Go.Proofs.Try.prog noGlob 22 (porterref08_R_Text_res N) :=
  Contract.of (E := porterref08_R_Text_E N) (H := porterref08_R_Text_t N) (L := porterref08_R_Text_L) (N := N) (body := porterref08_R_Text_body) (K := (kRes (.tup [.str, (.pair .str (.pair (.int .i64) .unit))]) 2)) (porterref08_R_Text_Eok N) Go.Proofs.Try.func22 (by kernel_rfl) (by decide) (fun _ hb => (TabOk.cons (porterref08_R_Text_ok1 hb) TabOk.nil)) (fun x y h => by rw [porterref08_R_Text_link]; exact h) (kRes_ok (s := (.tup [.str, (.pair .str (.pair (.int .i64) .unit))])) (m := 2))

abbrev porterref08_R_End_R : Type := ((List UInt8) × (Int × Unit))

noncomputable def porterref08_R_End_body : Code := (Go.Proofs.Try.f24.body).getD .skip

noncomputable def porterref08_R_End_L : List (List Nat × List Nat) := [([0], [1, 2]), ([0, 0, 1], [5, 1, 2]), ([1, 0, 1], [1, 2]), ([0, 0, 1, 0, 1], [2]), ([1, 0, 1, 0, 1], [2]), ([0, 1, 1], [2]), ([1, 1, 1], [2])]

noncomputable def porterref08_R_End_E (N : Nat) : Env := mkEnv tys noGlob [(23, porterref08_R_Fail_res N)] [] [] [] false [] []

theorem porterref08_R_End_Eok (N : Nat) : EnvOk Go.Proofs.Try.prog (porterref08_R_End_E N) := mkEnv_ok mixed tys_ok (FnsOk.cons (porterref08_R_Fail_ct N) (FnsOk.nil)) (ItsOk.nil)

noncomputable def porterref08_R_End (N : Nat) (r_ : ((List UInt8) × (Int × Unit))) : Option ((List UInt8) × (Int × Unit)) :=
  cond (!(r_.1 == ([] : List UInt8)))
  ((porterref08_R_Fail N r_ (2 : Int)).bind fun y =>
    some y)
  (some r_)

noncomputable def porterref08_R_End_t (N : Nat) : Tab ((List UInt8) × (Int × Unit)) := []

theorem porterref08_R_End_link (N : Nat) (x : denS [(0, .v (.pair .str (.pair (.int .i64) .unit)))]) : evFX (porterref08_R_End_E N) N (porterref08_R_End_t N) porterref08_R_End_L Go.Proofs.Try.f24 (mkS [(0, .v (.pair .str (.pair (.int .i64) .unit)))] 0 x) (kRes (.v (.pair .str (.pair (.int .i64) .unit))) 1) = porterref08_R_End N x.1 := by kernel_rfl

noncomputable def porterref08_R_End_res (N : Nat) : List A → Res := resOf [(0, .v (.pair .str (.pair (.int .i64) .unit)))] (fun x => porterref08_R_End N x.1) (oRes (.v (.pair .str (.pair (.int .i64) .unit))) 1)

theorem porterref08_R_End_ct (N : Nat) : Contract Go.Proofs.Try.prog noGlob 24 (porterref08_R_End_res N) :=
  Contract.of (E := porterref08_R_End_E N) (H := porterref08_R_End_t N) (L := porterref08_R_End_L) (N := N) (body := porterref08_R_End_body) (K := (kRes (.v (.pair .str (.pair (.int .i64) .unit))) 1)) (porterref08_R_End_Eok N) Go.Proofs.Try.func24 (by kernel_rfl) (by decide) (fun _ hb => TabOk.nil) (fun x y h => by rw [porterref08_R_End_link]; exact h) (kRes_ok (s := (.v (.pair .str (.pair (.int .i64) .unit)))) (m := 1))

abbrev porterlaw08_does_R : Type := ((((List UInt8) × (Int × Unit)) × Bool × Unit) × ((Bool × ((List UInt8) × (Int × Unit))) × Unit))

noncomputable def porterlaw08_does_body : Code := (Go.Proofs.Try.f8.body).getD .skip

noncomputable def porterlaw08_does_L : List (List Nat × List Nat) := [([0], [5, 4, 0, 6]), ([0, 0, 1], [16, 4, 0, 6, 5]), ([0, 0, 1, 0, 1], [17, 4, 0, 6, 16, 5]), ([1, 0, 1, 0, 1], [4, 6, 0]), ([0, 1, 1, 0, 1, 0, 1], [29, 4, 5, 0, 6, 16]), ([1, 1, 1, 0, 1, 0, 1], [4, 6, 0]), ([0, 1, 1, 1, 1, 0, 1, 0, 1], [45, 4, 5, 0, 6, 16]), ([1, 1, 1, 1, 1, 0, 1, 0, 1], [4, 6, 0]), ([0, 1, 1, 1, 1, 1, 1, 0, 1, 0, 1], [61, 0, 5, 4, 6, 16]), ([1, 1, 1, 1, 1, 1, 1, 0, 1, 0, 1], [4, 6, 0]), ([0, 1, 1, 1, 1, 1, 1, 1, 1, 0, 1, 0, 1], [71, 4, 0, 6]), ([1, 1, 1, 1, 1, 1, 1, 1, 1, 0, 1, 0, 1], [4, 6, 0]), ([0, 0, 1, 1, 1, 1, 1, 1, 1, 1, 1, 0, 1, 0, 1], [14, 0, 6]), ([0, 1, 0, 1, 1, 1, 1, 1, 1, 1, 1, 1, 0, 1, 0, 1], [6, 7, 0]), ([1, 1, 0, 1, 1, 1, 1, 1, 1, 1, 1, 1, 0, 1, 0, 1], [6, 7, 0]), ([0, 0, 1, 1, 1, 1, 1, 1, 1, 0, 1, 0, 1], [4, 5, 6, 0]), ([0, 1, 0, 1, 1, 1, 1, 1, 1, 1, 0, 1, 0, 1], [6, 7, 0]), ([1, 1, 0, 1, 1, 1, 1, 1, 1, 1, 0, 1, 0, 1], [6, 7, 0]), ([0, 0, 1, 1, 1, 1, 1, 0, 1, 0, 1], [13, 0, 5, 12, 6]), ([0, 1, 0, 1, 1, 1, 1, 1, 0, 1, 0, 1], [6, 7, 0]), ([1, 1, 0, 1, 1, 1, 1, 1, 0, 1, 0, 1], [6, 7, 0]), ([0, 0, 1, 1, 1, 0, 1, 0, 1], [11, 0, 5, 10, 6]), ([0, 1, 0, 1, 1, 1, 0, 1, 0, 1], [6, 7, 0]), ([1, 1, 0, 1, 1, 1, 0, 1, 0, 1], [6, 7, 0]), ([0, 0, 1, 0, 1, 0, 1], [9, 0, 8, 6]), ([0, 1, 0, 1, 0, 1, 0, 1], [6, 7, 0]), ([1, 1, 0, 1, 0, 1, 0, 1], [6, 7, 0]), ([1, 0, 1], [4, 6, 0]), ([0, 1, 1], [6, 7, 0]), ([1, 1, 1], [6, 7, 0])]

noncomputable def porterlaw08_does_E (N : Nat) : Env := mkEnv tys noGlob [(24, porterref08_R_End_res N), (22, porterref08_R_Text_res N), (12, field_Reader_Num_res N), (21, porterref08_R_Num_res N), (20, porterref08_R_Byte_res N), (23, porterref08_R_Fail_res N), (13, field_Reader_End_nil_all N), (19, field_Reader_Byte_res N), (14, field_Reader_Text_res N), (11, field_Reader_Fail_nil_all N)] [] [] [0] false [] []

theorem porterlaw08_does_Eok (N : Nat) : EnvOk Go.Proofs.Try.prog (porterlaw08_does_E N) := mkEnv_ok mixed tys_ok (FnsOk.cons (porterref08_R_End_ct N) (FnsOk.cons (porterref08_R_Text_ct N) (FnsOk.cons (field_Reader_Num_ct N) (FnsOk.cons (porterref08_R_Num_ct N) (FnsOk.cons (porterref08_R_Byte_ct N) (FnsOk.cons (porterref08_R_Fail_ct N) (FnsOk.cons (field_Reader_End_nil_allct N) (FnsOk.cons (field_Reader_Byte_ct N) (FnsOk.cons (field_Reader_Text_ct N) (FnsOk.cons (field_Reader_Fail_nil_allct N) (FnsOk.nil))))))))))) (ItsOk.nil)

noncomputable def porterlaw08_does (N : Nat) (r_ : (Bool × ((List UInt8) × (Int × Unit)))) (x1 : ((List UInt8) × (Int × Unit))) (a : (Int × (Int × (Int × (Int × Unit))))) : Option ((((List UInt8) × (Int × Unit)) × Bool × Unit) × ((Bool × ((List UInt8) × (Int × Unit))) × Unit)) :=
  cond (a.1 == (0 : Int))
  ((porterref08_R_Byte N x1).bind fun y =>
    (field_Reader_Byte N r_).bind fun y1 =>
    some ((y.2.1, ((y1.1 == y.1), ())), (y1.2.1, ())))
  (cond (a.1 == (1 : Int))
    ((porterref08_R_Num N x1 a.2.1).bind fun y2 =>
      (field_Reader_Num N r_ a.2.1).bind fun y3 =>
      some ((y2.2.1, ((y3.1 == y2.1), ())), (y3.2.1, ())))
    (cond (a.1 == (2 : Int))
      ((porterref08_R_Text N x1 a.2.2.1).bind fun y4 =>
        (field_Reader_Text N r_ a.2.2.1).bind fun y5 =>
        some ((y4.2.1, ((y5.1 == y4.1), ())), (y5.2.1, ())))
      (cond (a.1 == (3 : Int))
        ((field_Reader_Fail N r_ a.2.2.2.1).bind fun y6 =>
          (porterref08_R_Fail N x1 a.2.2.2.1).bind fun y7 =>
          some ((y7, (true, ())), (y6.2.1, ())))
        (cond (a.1 == (4 : Int))
          ((porterref08_R_End N x1).bind fun y8 =>
            (field_Reader_End N r_).bind fun y9 =>
            some ((y8, ((y9.1 == y8.2.1), ())), (y9.2.1, ())))
          (some ((x1, (true, ())), (r_, ())))))))

noncomputable def porterlaw08_does_t (N : Nat) : Tab ((((List UInt8) × (Int × Unit)) × Bool × Unit) × ((Bool × ((List UInt8) × (Int × Unit))) × Unit)) := []

theorem porterlaw08_does_link (N : Nat) (x : denS [(0, .box (.pair .bool (.pair .str (.pair (.int .i64) .unit)))), (0, .v (.pair .str (.pair (.int .i64) .unit))), (0, .v (.pair (.int .i64) (.pair (.int .u64) (.pair (.int .i64) (.pair (.int .i64) .unit)))))]) : evFX (porterlaw08_does_E N) N (porterlaw08_does_t N) porterlaw08_does_L Go.Proofs.Try.f8 (mkS [(0, .box (.pair .bool (.pair .str (.pair (.int .i64) .unit)))), (0, .v (.pair .str (.pair (.int .i64) .unit))), (0, .v (.pair (.int .i64) (.pair (.int .u64) (.pair (.int .i64) (.pair (.int .i64) .unit)))))] 0 x) (kResB (.tup [(.pair .str (.pair (.int .i64) .unit)), .bool]) [(0, .box (.pair .bool (.pair .str (.pair (.int .i64) .unit))))] 2) = porterlaw08_does N x.1 x.2.1 x.2.2.1 := by kernel_rfl

noncomputable def porterlaw08_does_res (N : Nat) : List A → Res := resOf [(0, .box (.pair .bool (.pair .str (.pair (.int .i64) .unit)))), (0, .v (.pair .str (.pair (.int .i64) .unit))), (0, .v (.pair (.int .i64) (.pair (.int .u64) (.pair (.int .i64) (.pair (.int .i64) .unit)))))] (fun x => porterlaw08_does N x.1 x.2.1 x.2.2.1) (oResB (.tup [(.pair .str (.pair (.int .i64) .unit)), .bool]) [(0, .box (.pair .bool (.pair .str (.pair (.int .i64) .unit))))] 2)

theorem porterlaw08_does_ct (N : Nat) : Contract Go.Proofs.Try.prog noGlob 8 (porterlaw08_does_res N) :=
  Contract.of (E := porterlaw08_does_E N) (H := porterlaw08_does_t N) (L := porterlaw08_does_L) (N := N) (body := porterlaw08_does_body) (K := (kResB (.tup [(.pair .str (.pair (.int .i64) .unit)), .bool]) [(0, .box (.pair .bool (.pair .str (.pair (.int .i64) .unit))))] 2)) (porterlaw08_does_Eok N) Go.Proofs.Try.func8 (by kernel_rfl) (by decide) (fun _ hb => TabOk.nil) (fun x y h => by rw [porterlaw08_does_link]; exact h) (kResB_ok (s := (.tup [(.pair .str (.pair (.int .i64) .unit)), .bool])) (os := [(0, .box (.pair .bool (.pair .str (.pair (.int .i64) .unit))))]) (m := 2))

abbrev porterlaw08_FieldPlays_R : Type := Bool

noncomputable def porterlaw08_FieldPlays_body : Code := (Go.Proofs.Try.f3.body).getD .skip

noncomputable def porterlaw08_FieldPlays_L : List (List Nat × List Nat) := [([0], [0, 1]), ([0, 0, 1], [19, 0, 1]), ([1, 0, 1], [0, 1]), ([0, 0, 1, 0, 1], [4]), ([1, 0, 1, 0, 1], [4]), ([0, 1, 1], [5, 0, 1]), ([0, 0, 1, 1, 1], [24, 0, 1, 5]), ([1, 0, 1, 1, 1], [0, 1, 5]), ([0, 0, 1, 0, 1, 1, 1], [4]), ([1, 0, 1, 0, 1, 1, 1], [4]), ([0, 1, 1, 1, 1], [1, 5, 6]), ([0, 0, 1, 1, 1, 1, 1], [7, 1, 5, 6]), ([0, 1, 0, 1, 1, 1, 1, 1], [7, 1, 5, 6]), ([0, 0, 0, 0, 1, 0, 1, 1, 1, 1, 1], [30, 5, 6, 1, 7]), ([1, 0, 0, 0, 1, 0, 1, 1, 1, 1, 1], [5, 6, 1, 7]), ([1, 1, 0, 0, 0, 1, 0, 1, 1, 1, 1, 1], []), ([0, 0, 0, 1, 0, 0, 1, 0, 1, 1, 1, 1, 1], [9, 5, 8, 6, 7, 1]), ([0, 0, 1, 0, 0, 1, 0, 0, 1, 0, 1, 1, 1, 1, 1], [59, 8, 6, 7, 1, 5]), ([1, 0, 1, 0, 0, 1, 0, 0, 1, 0, 1, 1, 1, 1, 1], [8, 6, 7, 1, 5]), ([0, 0, 1, 0, 1, 0, 0, 1, 0, 0, 1, 0, 1, 1, 1, 1, 1], [4]), ([1, 0, 1, 0, 1, 0, 0, 1, 0, 0, 1, 0, 1, 1, 1, 1, 1], [4]), ([1, 1, 0, 0, 1, 0, 0, 1, 0, 1, 1, 1, 1, 1], [7, 1, 5, 6]), ([0, 1, 0, 0, 1, 0, 1, 1, 1, 1, 1], [7, 1, 5, 6]), ([1, 1, 0, 0, 1, 0, 1, 1, 1, 1, 1], [7, 1, 5, 6]), ([1, 0, 1, 1, 1, 1, 1], []), ([0, 1, 1, 1, 1, 1, 1], [10]), ([0, 1, 1, 1, 1, 1, 1, 1], [11, 10]), ([0, 1, 1, 1, 1, 1, 1, 1, 1], [10, 11]), ([0, 1, 1, 1, 1, 1, 1, 1, 1, 1], [4]), ([1, 1, 1, 1, 1, 1, 1, 1, 1, 1], [4])]

noncomputable def porterlaw08_FieldPlays_E (N : Nat) : Env := mkEnv tys noGlob [(8, porterlaw08_does_res N), (12, field_Reader_Num_res N), (6, porterlaw08_works_res N), (13, field_Reader_End_nil_all N), (10, field_Reader_Err_nil_all N), (9, field_Reader_Left_nil_all N), (14, field_Reader_Text_res N), (11, field_Reader_Fail_nil_all N), (7, field_New_res N)] [] [] [] false [] []

theorem porterlaw08_FieldPlays_Eok (N : Nat) : EnvOk Go.Proofs.Try.prog (porterlaw08_FieldPlays_E N) := mkEnv_ok mixed tys_ok (FnsOk.cons (porterlaw08_does_ct N) (FnsOk.cons (field_Reader_Num_ct N) (FnsOk.cons (porterlaw08_works_ct N) (FnsOk.cons (field_Reader_End_nil_allct N) (FnsOk.cons (field_Reader_Err_nil_allct N) (FnsOk.cons (field_Reader_Left_nil_allct N) (FnsOk.cons (field_Reader_Text_ct N) (FnsOk.cons (field_Reader_Fail_nil_allct N) (FnsOk.cons (field_New_ct N) (FnsOk.nil)))))))))) (ItsOk.nil)

noncomputable def porterlaw08_FieldPlays_p2 (N : Nat) (s : (List UInt8)) (l : (List (Int × (Int × (Int × (Int × Unit)))))) (k0 : Bool → Option Bool) : Option Bool :=
  cond (decide ((500 : Int) < (((List.length s) : Nat) : Int)))
  (k0 true)
  (k0 (decide ((40 : Int) < (((List.length l) : Nat) : Int))))

noncomputable def porterlaw08_FieldPlays_g2 (N : Nat) (x : denS [(0, .v .str), (0, .v (.sl (.pair (.int .i64) (.pair (.int .u64) (.pair (.int .i64) (.pair (.int .i64) .unit))))))]) (K : Ex → List A → Option Bool) : Option Bool :=
  porterlaw08_FieldPlays_p2 N x.1 x.2.1 (fun a2 => (K .normal (mkS [(0, .v .str), (0, .v (.sl (.pair (.int .i64) (.pair (.int .u64) (.pair (.int .i64) (.pair (.int .i64) .unit)))))), (17, .v .bool)] 66 (x.1, x.2.1, a2, ()))))

noncomputable def porterlaw08_FieldPlays_h2 (N : Nat) : Hd Bool := fun st K => (unS [(0, .v .str), (0, .v (.sl (.pair (.int .i64) (.pair (.int .u64) (.pair (.int .i64) (.pair (.int .i64) .unit))))))] 84 (restr [0, 1] 0 st)).bind fun x => porterlaw08_FieldPlays_g2 N x K

noncomputable def porterlaw08_FieldPlays_t2 (N : Nat) : Tab Bool := []

theorem porterlaw08_FieldPlays_ok2 {N : Nat} {c : Ctx} (hb : Base Go.Proofs.Try.prog (porterlaw08_FieldPlays_E N) c) : CodeOk Go.Proofs.Try.prog c (nodeAt porterlaw08_FieldPlays_body [0, 0, 1]) (porterlaw08_FieldPlays_h2 N) :=
  piece_ok (s := [(0, .v .str), (0, .v (.sl (.pair (.int .i64) (.pair (.int .u64) (.pair (.int .i64) (.pair (.int .i64) .unit))))))]) (m := 84) (g := porterlaw08_FieldPlays_g2 N) [0, 1] (evN_sound hb N (porterlaw08_FieldPlays_t2 N) porterlaw08_FieldPlays_L porterlaw08_FieldPlays_body TabOk.nil [0, 0, 1] _ rfl) (fun x K => by kernel_rfl)

noncomputable def porterlaw08_FieldPlays_p1 (N : Nat) (s : (List UInt8)) (l : (List (Int × (Int × (Int × (Int × Unit)))))) (k0 : Bool → Option Bool) (k1 : Option Bool) : Option Bool :=
  porterlaw08_FieldPlays_p2 N s l
  (fun x19 => cond x19
    ((porterlaw08_works N).bind fun y =>
      k0 y)
    (k1))

noncomputable def porterlaw08_FieldPlays_g1 (N : Nat) (x : denS [(0, .v .str), (0, .v (.sl (.pair (.int .i64) (.pair (.int .u64) (.pair (.int .i64) (.pair (.int .i64) .unit))))))]) (K : Ex → List A → Option Bool) : Option Bool :=
  porterlaw08_FieldPlays_p1 N x.1 x.2.1 (fun a0 => (K .ret (mkS [(4, .v .bool)] 81 (a0, ())))) (K .normal (mkS [(0, .v .str), (0, .v (.sl (.pair (.int .i64) (.pair (.int .u64) (.pair (.int .i64) (.pair (.int .i64) .unit))))))] 84 (x.1, x.2.1, ())))

noncomputable def porterlaw08_FieldPlays_h1 (N : Nat) : Hd Bool := fun st K => (unS [(0, .v .str), (0, .v (.sl (.pair (.int .i64) (.pair (.int .u64) (.pair (.int .i64) (.pair (.int .i64) .unit))))))] 84 (restr [0, 1] 0 st)).bind fun x => porterlaw08_FieldPlays_g1 N x K

noncomputable def porterlaw08_FieldPlays_t1 (N : Nat) : Tab Bool := [([0, 0, 1], porterlaw08_FieldPlays_h2 N)]

theorem porterlaw08_FieldPlays_ok1 {N : Nat} {c : Ctx} (hb : Base Go.Proofs.Try.prog (porterlaw08_FieldPlays_E N) c) : CodeOk Go.Proofs.Try.prog c (nodeAt porterlaw08_FieldPlays_body [0, 1]) (porterlaw08_FieldPlays_h1 N) :=
  piece_ok (s := [(0, .v .str), (0, .v (.sl (.pair (.int .i64) (.pair (.int .u64) (.pair (.int .i64) (.pair (.int .i64) .unit))))))]) (m := 84) (g := porterlaw08_FieldPlays_g1 N) [0, 1] (evN_sound hb N (porterlaw08_FieldPlays_t1 N) porterlaw08_FieldPlays_L porterlaw08_FieldPlays_body (TabOk.cons (porterlaw08_FieldPlays_ok2 hb) TabOk.nil) [0, 1] _ rfl) (fun x K => by kernel_rfl)

noncomputable def porterlaw08_FieldPlays_p5 (N : Nat) (l : (List (Int × (Int × (Int × (Int × Unit)))))) (r_ : (Bool × ((List UInt8) × (Int × Unit)))) (x6 : ((List UInt8) × (Int × Unit))) (i : Int) (y : ((List UInt8) × (Int × Unit))) (same : Bool) (k0 : (Bool × ((List UInt8) × (Int × Unit))) → Bool → Option Bool) : Option Bool :=
  cond (!same)
  (k0 r_ true)
  (cond ((((List.length r_.2.1) : Nat) : Int) != (((List.length y.1) : Nat) : Int))
    (k0 r_ true)
    ((field_Reader_Err N r_).bind fun y1 =>
      k0 y1.2.1 (y1.1 != y.2.1)))

noncomputable def porterlaw08_FieldPlays_g5 (N : Nat) (x : denS [(1, .v (.sl (.pair (.int .i64) (.pair (.int .u64) (.pair (.int .i64) (.pair (.int .i64) .unit)))))), (3, .box (.pair .bool (.pair .str (.pair (.int .i64) .unit)))), (0, .box (.pair .str (.pair (.int .i64) .unit))), (0, .v (.int .i64)), (0, .box (.pair .str (.pair (.int .i64) .unit))), (0, .v .bool)]) (K : Ex → List A → Option Bool) : Option Bool :=
  porterlaw08_FieldPlays_p5 N x.1 x.2.1 x.2.2.1 x.2.2.2.1 x.2.2.2.2.1 x.2.2.2.2.2.1 (fun a1 a5 => (K .normal (mkS [(1, .v (.sl (.pair (.int .i64) (.pair (.int .u64) (.pair (.int .i64) (.pair (.int .i64) .unit)))))), (3, .box (.pair .bool (.pair .str (.pair (.int .i64) .unit)))), (0, .box (.pair .str (.pair (.int .i64) .unit))), (0, .v (.int .i64)), (0, .box (.pair .str (.pair (.int .i64) .unit))), (50, .v .bool)] 26 (x.1, a1, x.2.2.1, x.2.2.2.1, x.2.2.2.2.1, a5, ()))))

noncomputable def porterlaw08_FieldPlays_h5 (N : Nat) : Hd Bool := fun st K => (unS [(1, .v (.sl (.pair (.int .i64) (.pair (.int .u64) (.pair (.int .i64) (.pair (.int .i64) .unit)))))), (3, .box (.pair .bool (.pair .str (.pair (.int .i64) .unit)))), (0, .box (.pair .str (.pair (.int .i64) .unit))), (0, .v (.int .i64)), (0, .box (.pair .str (.pair (.int .i64) .unit))), (0, .v .bool)] 76 (restr [9, 5, 8, 6, 7, 1] 0 st)).bind fun x => porterlaw08_FieldPlays_g5 N x K

noncomputable def porterlaw08_FieldPlays_t5 (N : Nat) : Tab Bool := []

theorem porterlaw08_FieldPlays_ok5 {N : Nat} {c : Ctx} (hb : Base Go.Proofs.Try.prog (porterlaw08_FieldPlays_E N) c) : CodeOk Go.Proofs.Try.prog c (nodeAt porterlaw08_FieldPlays_body [0, 0, 1, 0, 0, 1, 0, 0, 1, 0, 1, 1, 1, 1, 1]) (porterlaw08_FieldPlays_h5 N) :=
  piece_ok (s := [(1, .v (.sl (.pair (.int .i64) (.pair (.int .u64) (.pair (.int .i64) (.pair (.int .i64) .unit)))))), (3, .box (.pair .bool (.pair .str (.pair (.int .i64) .unit)))), (0, .box (.pair .str (.pair (.int .i64) .unit))), (0, .v (.int .i64)), (0, .box (.pair .str (.pair (.int .i64) .unit))), (0, .v .bool)]) (m := 76) (g := porterlaw08_FieldPlays_g5 N) [9, 5, 8, 6, 7, 1] (evN_sound hb N (porterlaw08_FieldPlays_t5 N) porterlaw08_FieldPlays_L porterlaw08_FieldPlays_body TabOk.nil [0, 0, 1, 0, 0, 1, 0, 0, 1, 0, 1, 1, 1, 1, 1] _ rfl) (fun x K => by kernel_rfl)

noncomputable def porterlaw08_FieldPlays_p4 (N : Nat) (l : (List (Int × (Int × (Int × (Int × Unit)))))) (r_ : (Bool × ((List UInt8) × (Int × Unit)))) (x6 : ((List UInt8) × (Int × Unit))) (i : Int) (k0 : Bool → Option Bool) (k1 : (Bool × ((List UInt8) × (Int × Unit))) → ((List UInt8) × (Int × Unit)) → Option Bool) : Option Bool :=
  cond (Go.Lift.inR i (List.length l))
  ((porterlaw08_does N r_ x6 (List.getD l (Int.toNat i) ((0 : Int), ((0 : Int), ((0 : Int), ((0 : Int), ())))))).bind fun y =>
    porterlaw08_FieldPlays_p5 N l y.2.1 x6 i y.1.1 y.1.2.1
    (fun r_1 x59 => cond x59
      (k0 false)
      (k1 r_1 y.1.1)))
  (none)

noncomputable def porterlaw08_FieldPlays_g4 (N : Nat) (x : denS [(1, .v (.sl (.pair (.int .i64) (.pair (.int .u64) (.pair (.int .i64) (.pair (.int .i64) .unit)))))), (3, .box (.pair .bool (.pair .str (.pair (.int .i64) .unit)))), (0, .box (.pair .str (.pair (.int .i64) .unit))), (0, .v (.int .i64))]) (K : Ex → List A → Option Bool) : Option Bool :=
  porterlaw08_FieldPlays_p4 N x.1 x.2.1 x.2.2.1 x.2.2.2.1 (fun a0 => (K .ret (mkS [(4, .v .bool)] 81 (a0, ())))) (fun a1 a2 => (K .normal (mkS [(1, .v (.sl (.pair (.int .i64) (.pair (.int .u64) (.pair (.int .i64) (.pair (.int .i64) .unit)))))), (3, .box (.pair .bool (.pair .str (.pair (.int .i64) .unit)))), (0, .box (.pair .str (.pair (.int .i64) .unit))), (0, .v (.int .i64))] 78 (x.1, a1, a2, x.2.2.2.1, ()))))

noncomputable def porterlaw08_FieldPlays_h4 (N : Nat) : Hd Bool := fun st K => (unS [(1, .v (.sl (.pair (.int .i64) (.pair (.int .u64) (.pair (.int .i64) (.pair (.int .i64) .unit)))))), (3, .box (.pair .bool (.pair .str (.pair (.int .i64) .unit)))), (0, .box (.pair .str (.pair (.int .i64) .unit))), (0, .v (.int .i64))] 78 (restr [5, 6, 1, 7] 0 st)).bind fun x => porterlaw08_FieldPlays_g4 N x K

noncomputable def porterlaw08_FieldPlays_t4 (N : Nat) : Tab Bool := [([0, 0, 1, 0, 0, 1, 0, 0, 1, 0, 1, 1, 1, 1, 1], porterlaw08_FieldPlays_h5 N)]

theorem porterlaw08_FieldPlays_ok4 {N : Nat} {c : Ctx} (hb : Base Go.Proofs.Try.prog (porterlaw08_FieldPlays_E N) c) : CodeOk Go.Proofs.Try.prog c (nodeAt porterlaw08_FieldPlays_body [0, 1, 0, 0, 1, 0, 1, 1, 1, 1, 1]) (porterlaw08_FieldPlays_h4 N) :=
  piece_ok (s := [(1, .v (.sl (.pair (.int .i64) (.pair (.int .u64) (.pair (.int .i64) (.pair (.int .i64) .unit)))))), (3, .box (.pair .bool (.pair .str (.pair (.int .i64) .unit)))), (0, .box (.pair .str (.pair (.int .i64) .unit))), (0, .v (.int .i64))]) (m := 78) (g := porterlaw08_FieldPlays_g4 N) [5, 6, 1, 7] (evN_sound hb N (porterlaw08_FieldPlays_t4 N) porterlaw08_FieldPlays_L porterlaw08_FieldPlays_body (TabOk.cons (porterlaw08_FieldPlays_ok5 hb) TabOk.nil) [0, 1, 0, 0, 1, 0, 1, 1, 1, 1, 1] _ rfl) (fun x K => by kernel_rfl)

noncomputable def porterlaw08_FieldPlays_s3 (N : Nat) (l : (List (Int × (Int × (Int × (Int × Unit)))))) (r_ : (Bool × ((List UInt8) × (Int × Unit)))) (x6 : ((List UInt8) × (Int × Unit))) (i : Int) (rec : (Bool × ((List UInt8) × (Int × Unit))) → ((List UInt8) × (Int × Unit)) → Int → Option Bool) (k0 : Bool → Option Bool) (k1 : Option Bool) : Option Bool :=
  cond (decide (i < (((List.length l) : Nat) : Int)))
  (porterlaw08_FieldPlays_p4 N l r_ x6 i
    (fun x4 => k0 x4)
    (fun r_1 x61 => rec r_1 x61 (Go.IntKind.wrap Go.IntKind.i64 (i + (1 : Int)))))
  (k1)

noncomputable def porterlaw08_FieldPlays_p3 (N : Nat) (l : (List (Int × (Int × (Int × (Int × Unit)))))) (r_ : (Bool × ((List UInt8) × (Int × Unit)))) (x6 : ((List UInt8) × (Int × Unit))) (i : Int) (k0 : Bool → Option Bool) (k1 : Option Bool) : Option Bool :=
  iter (fun (v : ((Bool × ((List UInt8) × (Int × Unit))) × ((List UInt8) × (Int × Unit)) × Int)) r => porterlaw08_FieldPlays_s3 N l v.1 v.2.1 v.2.2 (fun r_ x6 i => (r (r_, x6, i))) k0 k1) N (r_, x6, i)

noncomputable def porterlaw08_FieldPlays_g3 (N : Nat) (i : (List (Int × (Int × (Int × (Int × Unit)))))) (v : ((Bool × ((List UInt8) × (Int × Unit))) × ((List UInt8) × (Int × Unit)) × Int)) (r : ((Bool × ((List UInt8) × (Int × Unit))) × ((List UInt8) × (Int × Unit)) × Int) → Option Bool) (K : Ex → List A → Option Bool) : Option Bool :=
  porterlaw08_FieldPlays_s3 N i v.1 v.2.1 v.2.2 (fun r_ x6 i => (r (r_, x6, i))) (fun a0 => (K .ret (mkS [(4, .v .bool)] 81 (a0, ())))) (K (.exit 0) (mkS [] 86 ()))

noncomputable def porterlaw08_FieldPlays_h3 (N : Nat) : Hd Bool := fun st K => (unS [(1, .v (.sl (.pair (.int .i64) (.pair (.int .u64) (.pair (.int .i64) (.pair (.int .i64) .unit)))))), (3, .box (.pair .bool (.pair .str (.pair (.int .i64) .unit)))), (0, .box (.pair .str (.pair (.int .i64) .unit))), (0, .v (.int .i64))] 78 (restr [7, 1, 5, 6] 0 st)).bind fun x => iter (fun v r => porterlaw08_FieldPlays_g3 N ((fun x => x.1) x) v r K) N ((fun x => (x.2.1, x.2.2.1, x.2.2.2.1)) x)

noncomputable def porterlaw08_FieldPlays_t3 (N : Nat) : Tab Bool := [([0, 1, 0, 0, 1, 0, 1, 1, 1, 1, 1], porterlaw08_FieldPlays_h4 N)]

theorem porterlaw08_FieldPlays_ok3 {N : Nat} {c : Ctx} (hb : Base Go.Proofs.Try.prog (porterlaw08_FieldPlays_E N) c) : CodeOk Go.Proofs.Try.prog c (nodeAt porterlaw08_FieldPlays_body [0, 1, 0, 1, 1, 1, 1, 1]) (porterlaw08_FieldPlays_h3 N) :=
  loop_ok (s := [(1, .v (.sl (.pair (.int .i64) (.pair (.int .u64) (.pair (.int .i64) (.pair (.int .i64) .unit)))))), (3, .box (.pair .bool (.pair .str (.pair (.int .i64) .unit)))), (0, .box (.pair .str (.pair (.int .i64) .unit))), (0, .v (.int .i64))]) (m := 78) (porterlaw08_FieldPlays_g3 N) [7, 1, 5, 6] N (fun x => x.1) (fun x => (x.2.1, x.2.2.1, x.2.2.2.1)) (fun i v => (i, v.1, v.2.1, v.2.2, ())) (fun _ => rfl) (evN_sound hb N (porterlaw08_FieldPlays_t3 N) porterlaw08_FieldPlays_L porterlaw08_FieldPlays_body (TabOk.cons (porterlaw08_FieldPlays_ok4 hb) TabOk.nil) [0, 0, 1, 0, 1, 1, 1, 1, 1] _ rfl) (fun i v r K => by kernel_rfl)

noncomputable def porterlaw08_FieldPlays (N : Nat) (s : (List UInt8)) (l : (List (Int × (Int × (Int × (Int × Unit)))))) : Option Bool :=
  porterlaw08_FieldPlays_p1 N s l
  (fun x4 => some x4)
  (porterlaw08_FieldPlays_p3 N l (true, (s, ((0 : Int), ()))) (s, ((0 : Int), ())) (0 : Int)
    (fun x41 => some x41)
    ((porterlaw08_works N).bind fun y =>
      some y))

noncomputable def porterlaw08_FieldPlays_t (N : Nat) : Tab Bool := [([0, 1], porterlaw08_FieldPlays_h1 N), ([0, 1, 0, 1, 1, 1, 1, 1], porterlaw08_FieldPlays_h3 N)]

theorem porterlaw08_FieldPlays_link (N : Nat) (x : denS [(0, .v .str), (0, .v (.sl (.pair (.int .i64) (.pair (.int .u64) (.pair (.int .i64) (.pair (.int .i64) .unit))))))]) : evFX (porterlaw08_FieldPlays_E N) N (porterlaw08_FieldPlays_t N) porterlaw08_FieldPlays_L Go.Proofs.Try.f3 (mkS [(0, .v .str), (0, .v (.sl (.pair (.int .i64) (.pair (.int .u64) (.pair (.int .i64) (.pair (.int .i64) .unit))))))] 0 x) (kRes (.v .bool) 2) = porterlaw08_FieldPlays N x.1 x.2.1 := by kernel_rfl

noncomputable def porterlaw08_FieldPlays_res (N : Nat) : List A → Res := resOf [(0, .v .str), (0, .v (.sl (.pair (.int .i64) (.pair (.int .u64) (.pair (.int .i64) (.pair (.int .i64) .unit))))))] (fun x => porterlaw08_FieldPlays N x.1 x.2.1) (oRes (.v .bool) 2)

theorem porterlaw08_FieldPlays_ct (N : Nat) : Contract Go.Proofs.Try.prog noGlob 3 (porterlaw08_FieldPlays_res N) :=
  Contract.of (E := porterlaw08_FieldPlays_E N) (H := porterlaw08_FieldPlays_t N) (L := porterlaw08_FieldPlays_L) (N := N) (body := porterlaw08_FieldPlays_body) (K := (kRes (.v .bool) 2)) (porterlaw08_FieldPlays_Eok N) Go.Proofs.Try.func3 (by kernel_rfl) (by decide) (fun _ hb => (TabOk.cons (porterlaw08_FieldPlays_ok1 hb) (TabOk.cons (porterlaw08_FieldPlays_ok3 hb) TabOk.nil))) (fun x y h => by rw [porterlaw08_FieldPlays_link]; exact h) (kRes_ok (s := (.v .bool)) (m := 2))

abbrev porterref08_Text_R : Type := (List UInt8)

noncomputable def porterref08_Text_body : Code := (Go.Proofs.Try.f16.body).getD .skip

noncomputable def porterref08_Text_L : List (List Nat × List Nat) := [([0], [0]), ([0, 1], [2]), ([1, 1], [2])]

noncomputable def porterref08_Text_E (N : Nat) : Env := mkEnv tys noGlob [(18, porterref07_Put_res N)] [] [] [] false [] []

theorem porterref08_Text_Eok (N : Nat) : EnvOk Go.Proofs.Try.prog (porterref08_Text_E N) := mkEnv_ok mixed tys_ok (FnsOk.cons (porterref07_Put_ct N) (FnsOk.nil)) (ItsOk.nil)

noncomputable def porterref08_Text (N : Nat) (s : (List UInt8)) : Option (List UInt8) :=
  (porterref07_Put N (Go.IntKind.wrap Go.IntKind.u64 (((List.length s) : Nat) : Int))).bind fun y =>
  cond (decide (((List.length y) + (List.length s)) ≤ 9223372036854775807))
  (some (y ++ s))
  (none)

noncomputable def porterref08_Text_t (N : Nat) : Tab (List UInt8) := []

theorem porterref08_Text_link (N : Nat) (x : denS [(0, .v .str)]) : evFX (porterref08_Text_E N) N (porterref08_Text_t N) porterref08_Text_L Go.Proofs.Try.f16 (mkS [(0, .v .str)] 0 x) (kRes (.v .str) 1) = porterref08_Text N x.1 := by kernel_rfl

noncomputable def porterref08_Text_res (N : Nat) : List A → Res := resOf [(0, .v .str)] (fun x => porterref08_Text N x.1) (oRes (.v .str) 1)

theorem porterref08_Text_ct (N : Nat) : Contract Go.Proofs.Try.prog noGlob 16 (porterref08_Text_res N) :=
  Contract.of (E := porterref08_Text_E N) (H := porterref08_Text_t N) (L := porterref08_Text_L) (N := N) (body := porterref08_Text_body) (K := (kRes (.v .str) 1)) (porterref08_Text_Eok N) Go.Proofs.Try.func16 (by kernel_rfl) (by decide) (fun _ hb => TabOk.nil) (fun x y h => by rw [porterref08_Text_link]; exact h) (kRes_ok (s := (.v .str)) (m := 1))

abbrev porterlaw08_FieldBack_R : Type := Bool

noncomputable def porterlaw08_FieldBack_body : Code := (Go.Proofs.Try.f4.body).getD .skip

noncomputable def porterlaw08_FieldBack_L : List (List Nat × List Nat) := [([0], [0, 1]), ([0, 0, 1], [18, 0, 1]), ([1, 0, 1], [0, 1]), ([0, 0, 1, 0, 1], [4]), ([1, 0, 1, 0, 1], [4]), ([0, 1, 1], [0, 5, 1]), ([0, 0, 1, 1, 1], [6, 0, 5, 1]), ([0, 1, 0, 1, 1, 1], [6, 0, 5, 1]), ([0, 0, 0, 0, 1, 0, 1, 1, 1], [23, 0, 6, 5, 1]), ([1, 0, 0, 0, 1, 0, 1, 1, 1], [0, 6, 5, 1]), ([1, 1, 0, 0, 0, 1, 0, 1, 1, 1], [1, 5, 0]), ([0, 0, 0, 0, 1, 0, 0, 1, 0, 1, 1, 1], [31, 0, 6, 5, 1]), ([1, 0, 0, 0, 1, 0, 0, 1, 0, 1, 1, 1], [0, 6, 5, 1]), ([0, 0, 1, 0, 0, 0, 1, 0, 0, 1, 0, 1, 1, 1], [4]), ([1, 0, 1, 0, 0, 0, 1, 0, 0, 1, 0, 1, 1, 1], [4]), ([0, 0, 1, 0, 0, 1, 0, 0, 1, 0, 1, 1, 1], [43, 5, 0, 6, 1]), ([1, 0, 1, 0, 0, 1, 0, 0, 1, 0, 1, 1, 1], [5, 0, 6, 1]), ([0, 0, 1, 0, 1, 0, 0, 1, 0, 0, 1, 0, 1, 1, 1], [4]), ([1, 0, 1, 0, 1, 0, 0, 1, 0, 0, 1, 0, 1, 1, 1], [4]), ([1, 1, 0, 0, 1, 0, 0, 1, 0, 1, 1, 1], [6, 0, 5, 1]), ([0, 1, 0, 0, 1, 0, 1, 1, 1], [6, 0, 5, 1]), ([1, 1, 0, 0, 1, 0, 1, 1, 1], [6, 0, 5, 1]), ([1, 0, 1, 1, 1], [1, 5, 0]), ([0, 0, 1, 1, 1, 1], [7, 1, 5, 0]), ([0, 1, 0, 1, 1, 1, 1], [7, 1, 5, 0]), ([0, 0, 0, 0, 1, 0, 1, 1, 1, 1], [54, 1, 7, 5, 0]), ([1, 0, 0, 0, 1, 0, 1, 1, 1, 1], [1, 7, 5, 0]), ([1, 1, 0, 0, 0, 1, 0, 1, 1, 1, 1], [5, 0, 1]), ([0, 0, 0, 0, 1, 0, 0, 1, 0, 1, 1, 1, 1], [67, 5, 1, 7, 0]), ([1, 0, 0, 0, 1, 0, 0, 1, 0, 1, 1, 1, 1], [5, 1, 7, 0]), ([0, 0, 1, 0, 0, 0, 1, 0, 0, 1, 0, 1, 1, 1, 1], [4]), ([1, 0, 1, 0, 0, 0, 1, 0, 0, 1, 0, 1, 1, 1, 1], [4]), ([1, 0, 0, 1, 0, 0, 1, 0, 1, 1, 1, 1], [7, 1, 5, 0]), ([0, 1, 0, 0, 1, 0, 1, 1, 1, 1], [7, 1, 5, 0]), ([1, 1, 0, 0, 1, 0, 1, 1, 1, 1], [7, 1, 5, 0]), ([1, 0, 1, 1, 1, 1], [5, 0, 1]), ([0, 1, 1, 1, 1, 1], [8, 0, 1]), ([0, 0, 1, 1, 1, 1, 1, 1], [79, 0, 8, 1]), ([1, 0, 1, 1, 1, 1, 1, 1], [0, 8, 1]), ([0, 0, 1, 0, 1, 1, 1, 1, 1, 1], [4]), ([1, 0, 1, 0, 1, 1, 1, 1, 1, 1], [4]), ([0, 0, 1, 1, 1, 1, 1, 1, 1], [9, 0, 8, 1]), ([0, 1, 0, 1, 1, 1, 1, 1, 1, 1], [9, 0, 8, 1]), ([0, 0, 0, 0, 1, 0, 1, 1, 1, 1, 1, 1, 1], [83, 8, 0, 9, 1]), ([1, 0, 0, 0, 1, 0, 1, 1, 1, 1, 1, 1, 1], [8, 0, 9, 1]), ([1, 1, 0, 0, 0, 1, 0, 1, 1, 1, 1, 1, 1, 1], [1, 8]), ([0, 0, 0, 1, 0, 0, 1, 0, 1, 1, 1, 1, 1, 1, 1], [92, 9, 0, 8, 1]), ([1, 0, 0, 1, 0, 0, 1, 0, 1, 1, 1, 1, 1, 1, 1], [9, 0, 8, 1]), ([0, 0, 1, 0, 0, 1, 0, 0, 1, 0, 1, 1, 1, 1, 1, 1, 1], [4]), ([1, 0, 1, 0, 0, 1, 0, 0, 1, 0, 1, 1, 1, 1, 1, 1, 1], [4]), ([0, 1, 0, 0, 1, 0, 1, 1, 1, 1, 1, 1, 1], [9, 0, 8, 1]), ([1, 1, 0, 0, 1, 0, 1, 1, 1, 1, 1, 1, 1], [9, 0, 8, 1]), ([1, 0, 1, 1, 1, 1, 1, 1, 1], [1, 8]), ([0, 0, 1, 1, 1, 1, 1, 1, 1, 1], [10, 1, 8]), ([0, 1, 0, 1, 1, 1, 1, 1, 1, 1, 1], [10, 1, 8]), ([0, 0, 0, 0, 1, 0, 1, 1, 1, 1, 1, 1, 1, 1], [96, 8, 1, 10]), ([1, 0, 0, 0, 1, 0, 1, 1, 1, 1, 1, 1, 1, 1], [8, 1, 10]), ([1, 1, 0, 0, 0, 1, 0, 1, 1, 1, 1, 1, 1, 1, 1], [8]), ([0, 0, 0, 1, 0, 0, 1, 0, 1, 1, 1, 1, 1, 1, 1, 1], [105, 10, 1, 8]), ([1, 0, 0, 1, 0, 0, 1, 0, 1, 1, 1, 1, 1, 1, 1, 1], [10, 1, 8]), ([0, 0, 1, 0, 0, 1, 0, 0, 1, 0, 1, 1, 1, 1, 1, 1, 1, 1], [4]), ([1, 0, 1, 0, 0, 1, 0, 0, 1, 0, 1, 1, 1, 1, 1, 1, 1, 1], [4]), ([0, 1, 0, 0, 1, 0, 1, 1, 1, 1, 1, 1, 1, 1], [10, 1, 8]), ([1, 1, 0, 0, 1, 0, 1, 1, 1, 1, 1, 1, 1, 1], [10, 1, 8]), ([1, 0, 1, 1, 1, 1, 1, 1, 1, 1], [8]), ([0, 1, 1, 1, 1, 1, 1, 1, 1, 1], [4]), ([1, 1, 1, 1, 1, 1, 1, 1, 1, 1], [4])]

noncomputable def porterlaw08_FieldBack_E (N : Nat) : Env := mkEnv tys noGlob [(16, porterref08_Text_res N), (12, field_Reader_Num_res N), (18, porterref07_Put_res N), (6, porterlaw08_works_res N), (17, field_Num_res N), (13, field_Reader_End_nil_all N), (19, field_Reader_Byte_res N), (9, field_Reader_Left_nil_all N), (15, field_Text_res N), (14, field_Reader_Text_res N), (7, field_New_res N)] [] [] [] false [] []

theorem porterlaw08_FieldBack_Eok (N : Nat) : EnvOk Go.Proofs.Try.prog (porterlaw08_FieldBack_E N) := mkEnv_ok mixed tys_ok (FnsOk.cons (porterref08_Text_ct N) (FnsOk.cons (field_Reader_Num_ct N) (FnsOk.cons (porterref07_Put_ct N) (FnsOk.cons (porterlaw08_works_ct N) (FnsOk.cons (field_Num_ct N) (FnsOk.cons (field_Reader_End_nil_allct N) (FnsOk.cons (field_Reader_Byte_ct N) (FnsOk.cons (field_Reader_Left_nil_allct N) (FnsOk.cons (field_Text_ct N) (FnsOk.cons (field_Reader_Text_ct N) (FnsOk.cons (field_New_ct N) (FnsOk.nil)))))))))))) (ItsOk.nil)

noncomputable def porterlaw08_FieldBack_p2 (N : Nat) (l : (List (List UInt8))) (n : (List Int)) (k0 : Bool → Option Bool) : Option Bool :=
  cond (decide ((12 : Int) < (((List.length l) : Nat) : Int)))
  (k0 true)
  (k0 (decide ((12 : Int) < (((List.length n) : Nat) : Int))))

noncomputable def porterlaw08_FieldBack_g2 (N : Nat) (x : denS [(0, .v (.sl .str)), (0, .v (.sl (.int .u64)))]) (K : Ex → List A → Option Bool) : Option Bool :=
  porterlaw08_FieldBack_p2 N x.1 x.2.1 (fun a2 => (K .normal (mkS [(0, .v (.sl .str)), (0, .v (.sl (.int .u64))), (16, .v .bool)] 103 (x.1, x.2.1, a2, ()))))

noncomputable def porterlaw08_FieldBack_h2 (N : Nat) : Hd Bool := fun st K => (unS [(0, .v (.sl .str)), (0, .v (.sl (.int .u64)))] 120 (restr [0, 1] 0 st)).bind fun x => porterlaw08_FieldBack_g2 N x K

noncomputable def porterlaw08_FieldBack_t2 (N : Nat) : Tab Bool := []

theorem porterlaw08_FieldBack_ok2 {N : Nat} {c : Ctx} (hb : Base Go.Proofs.Try.prog (porterlaw08_FieldBack_E N) c) : CodeOk Go.Proofs.Try.prog c (nodeAt porterlaw08_FieldBack_body [0, 0, 1]) (porterlaw08_FieldBack_h2 N) :=
  piece_ok (s := [(0, .v (.sl .str)), (0, .v (.sl (.int .u64)))]) (m := 120) (g := porterlaw08_FieldBack_g2 N) [0, 1] (evN_sound hb N (porterlaw08_FieldBack_t2 N) porterlaw08_FieldBack_L porterlaw08_FieldBack_body TabOk.nil [0, 0, 1] _ rfl) (fun x K => by kernel_rfl)

noncomputable def porterlaw08_FieldBack_p1 (N : Nat) (l : (List (List UInt8))) (n : (List Int)) (k0 : Bool → Option Bool) (k1 : Option Bool) : Option Bool :=
  porterlaw08_FieldBack_p2 N l n
  (fun x18 => cond x18
    ((porterlaw08_works N).bind fun y =>
      k0 y)
    (k1))

noncomputable def porterlaw08_FieldBack_g1 (N : Nat) (x : denS [(0, .v (.sl .str)), (0, .v (.sl (.int .u64)))]) (K : Ex → List A → Option Bool) : Option Bool :=
  porterlaw08_FieldBack_p1 N x.1 x.2.1 (fun a0 => (K .ret (mkS [(4, .v .bool)] 117 (a0, ())))) (K .normal (mkS [(0, .v (.sl .str)), (0, .v (.sl (.int .u64)))] 120 (x.1, x.2.1, ())))

noncomputable def porterlaw08_FieldBack_h1 (N : Nat) : Hd Bool := fun st K => (unS [(0, .v (.sl .str)), (0, .v (.sl (.int .u64)))] 120 (restr [0, 1] 0 st)).bind fun x => porterlaw08_FieldBack_g1 N x K

noncomputable def porterlaw08_FieldBack_t1 (N : Nat) : Tab Bool := [([0, 0, 1], porterlaw08_FieldBack_h2 N)]

theorem porterlaw08_FieldBack_ok1 {N : Nat} {c : Ctx} (hb : Base Go.Proofs.Try.prog (porterlaw08_FieldBack_E N) c) : CodeOk Go.Proofs.Try.prog c (nodeAt porterlaw08_FieldBack_body [0, 1]) (porterlaw08_FieldBack_h1 N) :=
  piece_ok (s := [(0, .v (.sl .str)), (0, .v (.sl (.int .u64)))]) (m := 120) (g := porterlaw08_FieldBack_g1 N) [0, 1] (evN_sound hb N (porterlaw08_FieldBack_t1 N) porterlaw08_FieldBack_L porterlaw08_FieldBack_body (TabOk.cons (porterlaw08_FieldBack_ok2 hb) TabOk.nil) [0, 1] _ rfl) (fun x K => by kernel_rfl)

noncomputable def porterlaw08_FieldBack_s3 (N : Nat) (l : (List (List UInt8))) (n : (List Int)) (s : (List UInt8)) (i : Int) (rec : (List UInt8) → Int → Option Bool) (k0 : Bool → Option Bool) (k1 : (List UInt8) → Option Bool) : Option Bool :=
  cond (decide (i < (((List.length l) : Nat) : Int)))
  (cond (Go.Lift.inR i (List.length l))
    (cond (decide ((200 : Int) < (((List.length (List.getD l (Int.toNat i) ([] : List UInt8))) : Nat) : Int)))
      ((porterlaw08_works N).bind fun y =>
        k0 y)
      (cond (Go.Lift.inR i (List.length l))
        ((field_Text N (List.getD l (Int.toNat i) ([] : List UInt8))).bind fun y1 =>
          cond (Go.Lift.inR i (List.length l))
          ((porterref08_Text N (List.getD l (Int.toNat i) ([] : List UInt8))).bind fun y2 =>
            cond (!(y1 == y2))
            (k0 false)
            (cond (Go.Lift.inR i (List.length l))
              ((field_Text N (List.getD l (Int.toNat i) ([] : List UInt8))).bind fun y3 =>
                cond (decide (((List.length s) + (List.length y3)) ≤ 9223372036854775807))
                (rec (s ++ y3) (Go.IntKind.wrap Go.IntKind.i64 (i + (1 : Int))))
                (none))
              (none)))
          (none))
        (none)))
    (none))
  (k1 s)

noncomputable def porterlaw08_FieldBack_p3 (N : Nat) (l : (List (List UInt8))) (n : (List Int)) (s : (List UInt8)) (i : Int) (k0 : Bool → Option Bool) (k1 : (List UInt8) → Option Bool) : Option Bool :=
  iter (fun (v : ((List UInt8) × Int)) r => porterlaw08_FieldBack_s3 N l n v.1 v.2 (fun s i => (r (s, i))) k0 k1) N (s, i)

noncomputable def porterlaw08_FieldBack_g3 (N : Nat) (i : ((List (List UInt8)) × (List Int))) (v : ((List UInt8) × Int)) (r : ((List UInt8) × Int) → Option Bool) (K : Ex → List A → Option Bool) : Option Bool :=
  porterlaw08_FieldBack_s3 N i.1 i.2 v.1 v.2 (fun s i => (r (s, i))) (fun a0 => (K .ret (mkS [(4, .v .bool)] 117 (a0, ())))) (fun a2 => (K (.exit 0) (mkS [(0, .v (.sl .str)), (0, .v (.sl (.int .u64))), (3, .v .str)] 116 (i.1, i.2, a2, ()))))

noncomputable def porterlaw08_FieldBack_h3 (N : Nat) : Hd Bool := fun st K => (unS [(0, .v (.sl .str)), (0, .v (.sl (.int .u64))), (3, .v .str), (0, .v (.int .i64))] 115 (restr [6, 0, 5, 1] 0 st)).bind fun x => iter (fun v r => porterlaw08_FieldBack_g3 N ((fun x => (x.1, x.2.1)) x) v r K) N ((fun x => (x.2.2.1, x.2.2.2.1)) x)

noncomputable def porterlaw08_FieldBack_t3 (N : Nat) : Tab Bool := []

theorem porterlaw08_FieldBack_ok3 {N : Nat} {c : Ctx} (hb : Base Go.Proofs.Try.prog (porterlaw08_FieldBack_E N) c) : CodeOk Go.Proofs.Try.prog c (nodeAt porterlaw08_FieldBack_body [0, 1, 0, 1, 1, 1]) (porterlaw08_FieldBack_h3 N) :=
  loop_ok (s := [(0, .v (.sl .str)), (0, .v (.sl (.int .u64))), (3, .v .str), (0, .v (.int .i64))]) (m := 115) (porterlaw08_FieldBack_g3 N) [6, 0, 5, 1] N (fun x => (x.1, x.2.1)) (fun x => (x.2.2.1, x.2.2.2.1)) (fun i v => (i.1, i.2, v.1, v.2, ())) (fun _ => rfl) (evN_sound hb N (porterlaw08_FieldBack_t3 N) porterlaw08_FieldBack_L porterlaw08_FieldBack_body TabOk.nil [0, 0, 1, 0, 1, 1, 1] _ rfl) (fun i v r K => by kernel_rfl)

noncomputable def porterlaw08_FieldBack_s4 (N : Nat) (l : (List (List UInt8))) (n : (List Int)) (s : (List UInt8)) (i : Int) (rec : (List UInt8) → Int → Option Bool) (k0 : Bool → Option Bool) (k1 : (List UInt8) → Option Bool) : Option Bool :=
  cond (decide (i < (((List.length n) : Nat) : Int)))
  (cond (Go.Lift.inR i (List.length n))
    ((field_Num N (List.getD n (Int.toNat i) (0 : Int))).bind fun y =>
      cond (Go.Lift.inR i (List.length n))
      ((porterref07_Put N (List.getD n (Int.toNat i) (0 : Int))).bind fun y1 =>
        cond (!(y == y1))
        (k0 false)
        (cond (Go.Lift.inR i (List.length n))
          ((field_Num N (List.getD n (Int.toNat i) (0 : Int))).bind fun y2 =>
            cond (decide (((List.length s) + (List.length y2)) ≤ 9223372036854775807))
            (rec (s ++ y2) (Go.IntKind.wrap Go.IntKind.i64 (i + (1 : Int))))
            (none))
          (none)))
      (none))
    (none))
  (k1 s)

noncomputable def porterlaw08_FieldBack_p4 (N : Nat) (l : (List (List UInt8))) (n : (List Int)) (s : (List UInt8)) (i : Int) (k0 : Bool → Option Bool) (k1 : (List UInt8) → Option Bool) : Option Bool :=
  iter (fun (v : ((List UInt8) × Int)) r => porterlaw08_FieldBack_s4 N l n v.1 v.2 (fun s i => (r (s, i))) k0 k1) N (s, i)

noncomputable def porterlaw08_FieldBack_g4 (N : Nat) (i : ((List (List UInt8)) × (List Int))) (v : ((List UInt8) × Int)) (r : ((List UInt8) × Int) → Option Bool) (K : Ex → List A → Option Bool) : Option Bool :=
  porterlaw08_FieldBack_s4 N i.1 i.2 v.1 v.2 (fun s i => (r (s, i))) (fun a0 => (K .ret (mkS [(4, .v .bool)] 117 (a0, ())))) (fun a2 => (K (.exit 2) (mkS [(0, .v (.sl .str)), (0, .v (.sl (.int .u64))), (3, .v .str)] 116 (i.1, i.2, a2, ()))))

noncomputable def porterlaw08_FieldBack_h4 (N : Nat) : Hd Bool := fun st K => (unS [(0, .v (.sl .str)), (0, .v (.sl (.int .u64))), (3, .v .str), (1, .v (.int .i64))] 114 (restr [7, 1, 5, 0] 0 st)).bind fun x => iter (fun v r => porterlaw08_FieldBack_g4 N ((fun x => (x.1, x.2.1)) x) v r K) N ((fun x => (x.2.2.1, x.2.2.2.1)) x)

noncomputable def porterlaw08_FieldBack_t4 (N : Nat) : Tab Bool := []

theorem porterlaw08_FieldBack_ok4 {N : Nat} {c : Ctx} (hb : Base Go.Proofs.Try.prog (porterlaw08_FieldBack_E N) c) : CodeOk Go.Proofs.Try.prog c (nodeAt porterlaw08_FieldBack_body [0, 1, 0, 1, 1, 1, 1]) (porterlaw08_FieldBack_h4 N) :=
  loop_ok (s := [(0, .v (.sl .str)), (0, .v (.sl (.int .u64))), (3, .v .str), (1, .v (.int .i64))]) (m := 114) (porterlaw08_FieldBack_g4 N) [7, 1, 5, 0] N (fun x => (x.1, x.2.1)) (fun x => (x.2.2.1, x.2.2.2.1)) (fun i v => (i.1, i.2, v.1, v.2, ())) (fun _ => rfl) (evN_sound hb N (porterlaw08_FieldBack_t4 N) porterlaw08_FieldBack_L porterlaw08_FieldBack_body TabOk.nil [0, 0, 1, 0, 1, 1, 1, 1] _ rfl) (fun i v r K => by kernel_rfl)

noncomputable def porterlaw08_FieldBack_s5 (N : Nat) (l : (List (List UInt8))) (n : (List Int)) (r_ : (Bool × ((List UInt8) × (Int × Unit)))) (i : Int) (rec : (Bool × ((List UInt8) × (Int × Unit))) → Int → Option Bool) (k0 : Bool → Option Bool) (k1 : (Bool × ((List UInt8) × (Int × Unit))) → Option Bool) : Option Bool :=
  cond (decide (i < (((List.length l) : Nat) : Int)))
  ((field_Reader_Text N r_ (200 : Int)).bind fun y =>
    cond (Go.Lift.inR i (List.length l))
    (cond (!(y.1 == (List.getD l (Int.toNat i) ([] : List UInt8))))
      (k0 false)
      (rec y.2.1 (Go.IntKind.wrap Go.IntKind.i64 (i + (1 : Int)))))
    (none))
  (k1 r_)

noncomputable def porterlaw08_FieldBack_p5 (N : Nat) (l : (List (List UInt8))) (n : (List Int)) (r_ : (Bool × ((List UInt8) × (Int × Unit)))) (i : Int) (k0 : Bool → Option Bool) (k1 : (Bool × ((List UInt8) × (Int × Unit))) → Option Bool) : Option Bool :=
  iter (fun (v : ((Bool × ((List UInt8) × (Int × Unit))) × Int)) r => porterlaw08_FieldBack_s5 N l n v.1 v.2 (fun r_ i => (r (r_, i))) k0 k1) N (r_, i)

noncomputable def porterlaw08_FieldBack_g5 (N : Nat) (i : ((List (List UInt8)) × (List Int))) (v : ((Bool × ((List UInt8) × (Int × Unit))) × Int)) (r : ((Bool × ((List UInt8) × (Int × Unit))) × Int) → Option Bool) (K : Ex → List A → Option Bool) : Option Bool :=
  porterlaw08_FieldBack_s5 N i.1 i.2 v.1 v.2 (fun r_ i => (r (r_, i))) (fun a0 => (K .ret (mkS [(4, .v .bool)] 117 (a0, ())))) (fun a1 => (K (.exit 4) (mkS [(1, .v (.sl (.int .u64))), (6, .box (.pair .bool (.pair .str (.pair (.int .i64) .unit))))] 113 (i.2, a1, ()))))

noncomputable def porterlaw08_FieldBack_h5 (N : Nat) : Hd Bool := fun st K => (unS [(0, .v (.sl .str)), (0, .v (.sl (.int .u64))), (6, .box (.pair .bool (.pair .str (.pair (.int .i64) .unit)))), (0, .v (.int .i64))] 112 (restr [9, 0, 8, 1] 0 st)).bind fun x => iter (fun v r => porterlaw08_FieldBack_g5 N ((fun x => (x.1, x.2.1)) x) v r K) N ((fun x => (x.2.2.1, x.2.2.2.1)) x)

noncomputable def porterlaw08_FieldBack_t5 (N : Nat) : Tab Bool := []

theorem porterlaw08_FieldBack_ok5 {N : Nat} {c : Ctx} (hb : Base Go.Proofs.Try.prog (porterlaw08_FieldBack_E N) c) : CodeOk Go.Proofs.Try.prog c (nodeAt porterlaw08_FieldBack_body [0, 1, 0, 1, 1, 1, 1, 1, 1, 1]) (porterlaw08_FieldBack_h5 N) :=
  loop_ok (s := [(0, .v (.sl .str)), (0, .v (.sl (.int .u64))), (6, .box (.pair .bool (.pair .str (.pair (.int .i64) .unit)))), (0, .v (.int .i64))]) (m := 112) (porterlaw08_FieldBack_g5 N) [9, 0, 8, 1] N (fun x => (x.1, x.2.1)) (fun x => (x.2.2.1, x.2.2.2.1)) (fun i v => (i.1, i.2, v.1, v.2, ())) (fun _ => rfl) (evN_sound hb N (porterlaw08_FieldBack_t5 N) porterlaw08_FieldBack_L porterlaw08_FieldBack_body TabOk.nil [0, 0, 1, 0, 1, 1, 1, 1, 1, 1, 1] _ rfl) (fun i v r K => by kernel_rfl)

noncomputable def porterlaw08_FieldBack_s6 (N : Nat) (n : (List Int)) (r_ : (Bool × ((List UInt8) × (Int × Unit)))) (i : Int) (rec : (Bool × ((List UInt8) × (Int × Unit))) → Int → Option Bool) (k0 : Bool → Option Bool) (k1 : (Bool × ((List UInt8) × (Int × Unit))) → Option Bool) : Option Bool :=
  cond (decide (i < (((List.length n) : Nat) : Int)))
  ((field_Reader_Num N r_ (18446744073709551615 : Int)).bind fun y =>
    cond (Go.Lift.inR i (List.length n))
    (cond (y.1 != (List.getD n (Int.toNat i) (0 : Int)))
      (k0 false)
      (rec y.2.1 (Go.IntKind.wrap Go.IntKind.i64 (i + (1 : Int)))))
    (none))
  (k1 r_)

noncomputable def porterlaw08_FieldBack_p6 (N : Nat) (n : (List Int)) (r_ : (Bool × ((List UInt8) × (Int × Unit)))) (i : Int) (k0 : Bool → Option Bool) (k1 : (Bool × ((List UInt8) × (Int × Unit))) → Option Bool) : Option Bool :=
  iter (fun (v : ((Bool × ((List UInt8) × (Int × Unit))) × Int)) r => porterlaw08_FieldBack_s6 N n v.1 v.2 (fun r_ i => (r (r_, i))) k0 k1) N (r_, i)

noncomputable def porterlaw08_FieldBack_g6 (N : Nat) (i : (List Int)) (v : ((Bool × ((List UInt8) × (Int × Unit))) × Int)) (r : ((Bool × ((List UInt8) × (Int × Unit))) × Int) → Option Bool) (K : Ex → List A → Option Bool) : Option Bool :=
  porterlaw08_FieldBack_s6 N i v.1 v.2 (fun r_ i => (r (r_, i))) (fun a0 => (K .ret (mkS [(4, .v .bool)] 117 (a0, ())))) (fun a0 => (K (.exit 6) (mkS [(8, .box (.pair .bool (.pair .str (.pair (.int .i64) .unit))))] 113 (a0, ()))))

noncomputable def porterlaw08_FieldBack_h6 (N : Nat) : Hd Bool := fun st K => (unS [(1, .v (.sl (.int .u64))), (6, .box (.pair .bool (.pair .str (.pair (.int .i64) .unit)))), (1, .v (.int .i64))] 111 (restr [10, 1, 8] 0 st)).bind fun x => iter (fun v r => porterlaw08_FieldBack_g6 N ((fun x => x.1) x) v r K) N ((fun x => (x.2.1, x.2.2.1)) x)

noncomputable def porterlaw08_FieldBack_t6 (N : Nat) : Tab Bool := []

theorem porterlaw08_FieldBack_ok6 {N : Nat} {c : Ctx} (hb : Base Go.Proofs.Try.prog (porterlaw08_FieldBack_E N) c) : CodeOk Go.Proofs.Try.prog c (nodeAt porterlaw08_FieldBack_body [0, 1, 0, 1, 1, 1, 1, 1, 1, 1, 1]) (porterlaw08_FieldBack_h6 N) :=
  loop_ok (s := [(1, .v (.sl (.int .u64))), (6, .box (.pair .bool (.pair .str (.pair (.int .i64) .unit)))), (1, .v (.int .i64))]) (m := 111) (porterlaw08_FieldBack_g6 N) [10, 1, 8] N (fun x => x.1) (fun x => (x.2.1, x.2.2.1)) (fun i v => (i, v.1, v.2, ())) (fun _ => rfl) (evN_sound hb N (porterlaw08_FieldBack_t6 N) porterlaw08_FieldBack_L porterlaw08_FieldBack_body TabOk.nil [0, 0, 1, 0, 1, 1, 1, 1, 1, 1, 1, 1] _ rfl) (fun i v r K => by kernel_rfl)

noncomputable def porterlaw08_FieldBack (N : Nat) (l : (List (List UInt8))) (n : (List Int)) : Option Bool :=
  porterlaw08_FieldBack_p1 N l n
  (fun x4 => some x4)
  (porterlaw08_FieldBack_p3 N l n ([] : List UInt8) (0 : Int)
    (fun x41 => some x41)
    (fun s => porterlaw08_FieldBack_p4 N l n s (0 : Int)
      (fun x42 => some x42)
      (fun s1 => cond (decide (((List.length s1) + 1) ≤ 9223372036854775807))
        (porterlaw08_FieldBack_p5 N l n (true, ((s1 ++ ([(120 : UInt8)] : List UInt8)), ((0 : Int), ()))) (0 : Int)
          (fun x43 => some x43)
          (fun r_ => porterlaw08_FieldBack_p6 N n r_ (0 : Int)
            (fun x44 => some x44)
            (fun r_1 => cond ((((List.length r_1.2.1) : Nat) : Int) == (1 : Int))
              ((field_Reader_Byte N r_1).bind fun y =>
                cond (y.1 == (120 : Int))
                ((field_Reader_End N y.2.1).bind fun y1 =>
                  cond (y1.1 == (0 : Int))
                  ((porterlaw08_works N).bind fun y2 =>
                    some y2)
                  (some false))
                (some false))
              (some false))))
        (none))))

noncomputable def porterlaw08_FieldBack_t (N : Nat) : Tab Bool := [([0, 1], porterlaw08_FieldBack_h1 N), ([0, 1, 0, 1, 1, 1], porterlaw08_FieldBack_h3 N), ([0, 1, 0, 1, 1, 1, 1], porterlaw08_FieldBack_h4 N), ([0, 1, 0, 1, 1, 1, 1, 1, 1, 1], porterlaw08_FieldBack_h5 N), ([0, 1, 0, 1, 1, 1, 1, 1, 1, 1, 1], porterlaw08_FieldBack_h6 N)]

theorem porterlaw08_FieldBack_link (N : Nat) (x : denS [(0, .v (.sl .str)), (0, .v (.sl (.int .u64)))]) : evFX (porterlaw08_FieldBack_E N) N (porterlaw08_FieldBack_t N) porterlaw08_FieldBack_L Go.Proofs.Try.f4 (mkS [(0, .v (.sl .str)), (0, .v (.sl (.int .u64)))] 0 x) (kRes (.v .bool) 2) = porterlaw08_FieldBack N x.1 x.2.1 := by kernel_rfl

noncomputable def porterlaw08_FieldBack_res (N : Nat) : List A → Res := resOf [(0, .v (.sl .str)), (0, .v (.sl (.int .u64)))] (fun x => porterlaw08_FieldBack N x.1 x.2.1) (oRes (.v .bool) 2)

theorem porterlaw08_FieldBack_ct (N : Nat) : Contract Go.Proofs.Try.prog noGlob 4 (porterlaw08_FieldBack_res N) :=
  Contract.of (E := porterlaw08_FieldBack_E N) (H := porterlaw08_FieldBack_t N) (L := porterlaw08_FieldBack_L) (N := N) (body := porterlaw08_FieldBack_body) (K := (kRes (.v .bool) 2)) (porterlaw08_FieldBack_Eok N) Go.Proofs.Try.func4 (by kernel_rfl) (by decide) (fun _ hb => (TabOk.cons (porterlaw08_FieldBack_ok1 hb) (TabOk.cons (porterlaw08_FieldBack_ok3 hb) (TabOk.cons (porterlaw08_FieldBack_ok4 hb) (TabOk.cons (porterlaw08_FieldBack_ok5 hb) (TabOk.cons (porterlaw08_FieldBack_ok6 hb) TabOk.nil)))))) (fun x y h => by rw [porterlaw08_FieldBack_link]; exact h) (kRes_ok (s := (.v .bool)) (m := 2))

abbrev porterlaw08_FieldStays_R : Type := Bool

noncomputable def porterlaw08_FieldStays_body : Code := (Go.Proofs.Try.f5.body).getD .skip

noncomputable def porterlaw08_FieldStays_L : List (List Nat × List Nat) := [([0], [0, 2, 1]), ([0, 0, 1], [20, 0, 1, 2]), ([1, 0, 1], [0, 1, 2]), ([0, 0, 1, 0, 1], [6]), ([1, 0, 1, 0, 1], [6]), ([0, 1, 1], [7, 1, 2]), ([0, 0, 1, 1, 1], [25, 7, 1, 2]), ([1, 0, 1, 1, 1], [7, 1, 2]), ([0, 0, 1, 0, 1, 1, 1], [6]), ([1, 0, 1, 0, 1, 1, 1], [6]), ([0, 1, 1, 1, 1], [2, 7, 1]), ([0, 0, 1, 1, 1, 1, 1], [8, 2, 7, 1]), ([0, 1, 0, 1, 1, 1, 1, 1], [8, 2, 7, 1]), ([0, 0, 0, 0, 1, 0, 1, 1, 1, 1, 1], [32, 7, 2, 8, 1]), ([1, 0, 0, 0, 1, 0, 1, 1, 1, 1, 1], [7, 2, 8, 1]), ([1, 1, 0, 0, 0, 1, 0, 1, 1, 1, 1, 1], [7, 1]), ([0, 0, 0, 1, 0, 0, 1, 0, 1, 1, 1, 1, 1], [7, 2, 8, 1]), ([0, 1, 0, 0, 1, 0, 0, 1, 0, 1, 1, 1, 1, 1], [81, 8, 2, 7, 1]), ([1, 1, 0, 0, 1, 0, 0, 1, 0, 1, 1, 1, 1, 1], [8, 2, 7, 1]), ([0, 0, 1, 1, 0, 0, 1, 0, 0, 1, 0, 1, 1, 1, 1, 1], [6]), ([1, 0, 1, 1, 0, 0, 1, 0, 0, 1, 0, 1, 1, 1, 1, 1], [6]), ([0, 1, 0, 0, 1, 0, 1, 1, 1, 1, 1], [8, 2, 7, 1]), ([1, 1, 0, 0, 1, 0, 1, 1, 1, 1, 1], [8, 2, 7, 1]), ([1, 0, 1, 1, 1, 1, 1], [7, 1]), ([0, 1, 1, 1, 1, 1, 1], [6]), ([1, 1, 1, 1, 1, 1, 1], [6])]

noncomputable def porterlaw08_FieldStays_E (N : Nat) : Env := mkEnv tys noGlob [(12, field_Reader_Num_res N), (6, porterlaw08_works_res N), (13, field_Reader_End_nil_all N), (10, field_Reader_Err_nil_all N), (19, field_Reader_Byte_res N), (9, field_Reader_Left_nil_all N), (14, field_Reader_Text_res N), (11, field_Reader_Fail_nil_all N), (7, field_New_res N)] [] [] [] false [] []

theorem porterlaw08_FieldStays_Eok (N : Nat) : EnvOk Go.Proofs.Try.prog (porterlaw08_FieldStays_E N) := mkEnv_ok mixed tys_ok (FnsOk.cons (field_Reader_Num_ct N) (FnsOk.cons (porterlaw08_works_ct N) (FnsOk.cons (field_Reader_End_nil_allct N) (FnsOk.cons (field_Reader_Err_nil_allct N) (FnsOk.cons (field_Reader_Byte_ct N) (FnsOk.cons (field_Reader_Left_nil_allct N) (FnsOk.cons (field_Reader_Text_ct N) (FnsOk.cons (field_Reader_Fail_nil_allct N) (FnsOk.cons (field_New_ct N) (FnsOk.nil)))))))))) (ItsOk.nil)

noncomputable def porterlaw08_FieldStays_p2 (N : Nat) (s : (List UInt8)) (e : Int) (l : (List (Int × (Int × (Int × (Int × Unit)))))) (k0 : Bool → Option Bool) : Option Bool :=
  cond (decide ((500 : Int) < (((List.length s) : Nat) : Int)))
  (k0 true)
  (cond (decide ((40 : Int) < (((List.length l) : Nat) : Int)))
    (k0 true)
    (k0 (e == (0 : Int))))

noncomputable def porterlaw08_FieldStays_g2 (N : Nat) (x : denS [(0, .v .str), (0, .v (.int .i64)), (0, .v (.sl (.pair (.int .i64) (.pair (.int .u64) (.pair (.int .i64) (.pair (.int .i64) .unit))))))]) (K : Ex → List A → Option Bool) : Option Bool :=
  porterlaw08_FieldStays_p2 N x.1 x.2.1 x.2.2.1 (fun a3 => (K .normal (mkS [(0, .v .str), (0, .v (.int .i64)), (0, .v (.sl (.pair (.int .i64) (.pair (.int .u64) (.pair (.int .i64) (.pair (.int .i64) .unit)))))), (17, .v .bool)] 68 (x.1, x.2.1, x.2.2.1, a3, ()))))

noncomputable def porterlaw08_FieldStays_h2 (N : Nat) : Hd Bool := fun st K => (unS [(0, .v .str), (0, .v (.int .i64)), (0, .v (.sl (.pair (.int .i64) (.pair (.int .u64) (.pair (.int .i64) (.pair (.int .i64) .unit))))))] 86 (restr [0, 2, 1] 0 st)).bind fun x => porterlaw08_FieldStays_g2 N x K

noncomputable def porterlaw08_FieldStays_t2 (N : Nat) : Tab Bool := []

theorem porterlaw08_FieldStays_ok2 {N : Nat} {c : Ctx} (hb : Base Go.Proofs.Try.prog (porterlaw08_FieldStays_E N) c) : CodeOk Go.Proofs.Try.prog c (nodeAt porterlaw08_FieldStays_body [0, 0, 1]) (porterlaw08_FieldStays_h2 N) :=
  piece_ok (s := [(0, .v .str), (0, .v (.int .i64)), (0, .v (.sl (.pair (.int .i64) (.pair (.int .u64) (.pair (.int .i64) (.pair (.int .i64) .unit))))))]) (m := 86) (g := porterlaw08_FieldStays_g2 N) [0, 2, 1] (evN_sound hb N (porterlaw08_FieldStays_t2 N) porterlaw08_FieldStays_L porterlaw08_FieldStays_body TabOk.nil [0, 0, 1] _ rfl) (fun x K => by kernel_rfl)

noncomputable def porterlaw08_FieldStays_p1 (N : Nat) (s : (List UInt8)) (e : Int) (l : (List (Int × (Int × (Int × (Int × Unit)))))) (k0 : Bool → Option Bool) (k1 : Option Bool) : Option Bool :=
  porterlaw08_FieldStays_p2 N s e l
  (fun x20 => cond x20
    ((porterlaw08_works N).bind fun y =>
      k0 y)
    (k1))

noncomputable def porterlaw08_FieldStays_g1 (N : Nat) (x : denS [(0, .v .str), (0, .v (.int .i64)), (0, .v (.sl (.pair (.int .i64) (.pair (.int .u64) (.pair (.int .i64) (.pair (.int .i64) .unit))))))]) (K : Ex → List A → Option Bool) : Option Bool :=
  porterlaw08_FieldStays_p1 N x.1 x.2.1 x.2.2.1 (fun a0 => (K .ret (mkS [(6, .v .bool)] 82 (a0, ())))) (K .normal (mkS [(0, .v .str), (0, .v (.int .i64)), (0, .v (.sl (.pair (.int .i64) (.pair (.int .u64) (.pair (.int .i64) (.pair (.int .i64) .unit))))))] 86 (x.1, x.2.1, x.2.2.1, ())))

noncomputable def porterlaw08_FieldStays_h1 (N : Nat) : Hd Bool := fun st K => (unS [(0, .v .str), (0, .v (.int .i64)), (0, .v (.sl (.pair (.int .i64) (.pair (.int .u64) (.pair (.int .i64) (.pair (.int .i64) .unit))))))] 86 (restr [0, 2, 1] 0 st)).bind fun x => porterlaw08_FieldStays_g1 N x K

noncomputable def porterlaw08_FieldStays_t1 (N : Nat) : Tab Bool := [([0, 0, 1], porterlaw08_FieldStays_h2 N)]

theorem porterlaw08_FieldStays_ok1 {N : Nat} {c : Ctx} (hb : Base Go.Proofs.Try.prog (porterlaw08_FieldStays_E N) c) : CodeOk Go.Proofs.Try.prog c (nodeAt porterlaw08_FieldStays_body [0, 1]) (porterlaw08_FieldStays_h1 N) :=
  piece_ok (s := [(0, .v .str), (0, .v (.int .i64)), (0, .v (.sl (.pair (.int .i64) (.pair (.int .u64) (.pair (.int .i64) (.pair (.int .i64) .unit))))))]) (m := 86) (g := porterlaw08_FieldStays_g1 N) [0, 2, 1] (evN_sound hb N (porterlaw08_FieldStays_t1 N) porterlaw08_FieldStays_L porterlaw08_FieldStays_body (TabOk.cons (porterlaw08_FieldStays_ok2 hb) TabOk.nil) [0, 1] _ rfl) (fun x K => by kernel_rfl)

noncomputable def porterlaw08_FieldStays_p5 (N : Nat) (e : Int) (l : (List (Int × (Int × (Int × (Int × Unit)))))) (r_ : (Bool × ((List UInt8) × (Int × Unit)))) (i : Int) (k0 : (Bool × ((List UInt8) × (Int × Unit))) → Bool → Option Bool) : Option Bool :=
  (field_Reader_Byte N r_).bind fun y =>
  cond (y.1 != (0 : Int))
  (k0 y.2.1 true)
  (cond (Go.Lift.inR i (List.length l))
    ((field_Reader_Num N y.2.1 (List.getD l (Int.toNat i) ((0 : Int), ((0 : Int), ((0 : Int), ((0 : Int), ()))))).2.1).bind fun y1 =>
      cond (y1.1 != (0 : Int))
      (k0 y1.2.1 true)
      (cond (Go.Lift.inR i (List.length l))
        ((field_Reader_Text N y1.2.1 (List.getD l (Int.toNat i) ((0 : Int), ((0 : Int), ((0 : Int), ((0 : Int), ()))))).2.2.1).bind fun y2 =>
          cond (!(y2.1 == ([] : List UInt8)))
          (k0 y2.2.1 true)
          (cond ((((List.length y2.2.1.2.1) : Nat) : Int) != (0 : Int))
            (k0 y2.2.1 true)
            ((field_Reader_End N y2.2.1).bind fun y3 =>
              cond (y3.1 != e)
              (k0 y3.2.1 true)
              ((field_Reader_Err N y3.2.1).bind fun y4 =>
                k0 y4.2.1 (y4.1 != e)))))
        (none)))
    (none))

noncomputable def porterlaw08_FieldStays_g5 (N : Nat) (x : denS [(1, .v (.int .i64)), (0, .v (.sl (.pair (.int .i64) (.pair (.int .u64) (.pair (.int .i64) (.pair (.int .i64) .unit)))))), (4, .box (.pair .bool (.pair .str (.pair (.int .i64) .unit)))), (0, .v (.int .i64))]) (K : Ex → List A → Option Bool) : Option Bool :=
  porterlaw08_FieldStays_p5 N x.1 x.2.1 x.2.2.1 x.2.2.2.1 (fun a2 a4 => (K .normal (mkS [(1, .v (.int .i64)), (0, .v (.sl (.pair (.int .i64) (.pair (.int .u64) (.pair (.int .i64) (.pair (.int .i64) .unit)))))), (4, .box (.pair .bool (.pair .str (.pair (.int .i64) .unit)))), (0, .v (.int .i64)), (72, .v .bool)] 7 (x.1, x.2.1, a2, x.2.2.2.1, a4, ()))))

noncomputable def porterlaw08_FieldStays_h5 (N : Nat) : Hd Bool := fun st K => (unS [(1, .v (.int .i64)), (0, .v (.sl (.pair (.int .i64) (.pair (.int .u64) (.pair (.int .i64) (.pair (.int .i64) .unit)))))), (4, .box (.pair .bool (.pair .str (.pair (.int .i64) .unit)))), (0, .v (.int .i64))] 80 (restr [7, 2, 8, 1] 0 st)).bind fun x => porterlaw08_FieldStays_g5 N x K

noncomputable def porterlaw08_FieldStays_t5 (N : Nat) : Tab Bool := []

theorem porterlaw08_FieldStays_ok5 {N : Nat} {c : Ctx} (hb : Base Go.Proofs.Try.prog (porterlaw08_FieldStays_E N) c) : CodeOk Go.Proofs.Try.prog c (nodeAt porterlaw08_FieldStays_body [0, 1, 0, 0, 1, 0, 0, 1, 0, 1, 1, 1, 1, 1]) (porterlaw08_FieldStays_h5 N) :=
  piece_ok (s := [(1, .v (.int .i64)), (0, .v (.sl (.pair (.int .i64) (.pair (.int .u64) (.pair (.int .i64) (.pair (.int .i64) .unit)))))), (4, .box (.pair .bool (.pair .str (.pair (.int .i64) .unit)))), (0, .v (.int .i64))]) (m := 80) (g := porterlaw08_FieldStays_g5 N) [7, 2, 8, 1] (evN_sound hb N (porterlaw08_FieldStays_t5 N) porterlaw08_FieldStays_L porterlaw08_FieldStays_body TabOk.nil [0, 1, 0, 0, 1, 0, 0, 1, 0, 1, 1, 1, 1, 1] _ rfl) (fun x K => by kernel_rfl)

noncomputable def porterlaw08_FieldStays_p4 (N : Nat) (e : Int) (l : (List (Int × (Int × (Int × (Int × Unit)))))) (r_ : (Bool × ((List UInt8) × (Int × Unit)))) (i : Int) (k0 : Bool → Option Bool) (k1 : (Bool × ((List UInt8) × (Int × Unit))) → Option Bool) : Option Bool :=
  cond (Go.Lift.inR i (List.length l))
  ((field_Reader_Fail N r_ (List.getD l (Int.toNat i) ((0 : Int), ((0 : Int), ((0 : Int), ((0 : Int), ()))))).2.2.2.1).bind fun y =>
    porterlaw08_FieldStays_p5 N e l y.2.1 i
    (fun r_1 x81 => cond x81
      (k0 false)
      (k1 r_1)))
  (none)

noncomputable def porterlaw08_FieldStays_g4 (N : Nat) (x : denS [(1, .v (.int .i64)), (0, .v (.sl (.pair (.int .i64) (.pair (.int .u64) (.pair (.int .i64) (.pair (.int .i64) .unit)))))), (4, .box (.pair .bool (.pair .str (.pair (.int .i64) .unit)))), (0, .v (.int .i64))]) (K : Ex → List A → Option Bool) : Option Bool :=
  porterlaw08_FieldStays_p4 N x.1 x.2.1 x.2.2.1 x.2.2.2.1 (fun a0 => (K .ret (mkS [(6, .v .bool)] 82 (a0, ())))) (fun a2 => (K .normal (mkS [(1, .v (.int .i64)), (0, .v (.sl (.pair (.int .i64) (.pair (.int .u64) (.pair (.int .i64) (.pair (.int .i64) .unit)))))), (4, .box (.pair .bool (.pair .str (.pair (.int .i64) .unit)))), (0, .v (.int .i64))] 80 (x.1, x.2.1, a2, x.2.2.2.1, ()))))

noncomputable def porterlaw08_FieldStays_h4 (N : Nat) : Hd Bool := fun st K => (unS [(1, .v (.int .i64)), (0, .v (.sl (.pair (.int .i64) (.pair (.int .u64) (.pair (.int .i64) (.pair (.int .i64) .unit)))))), (4, .box (.pair .bool (.pair .str (.pair (.int .i64) .unit)))), (0, .v (.int .i64))] 80 (restr [7, 2, 8, 1] 0 st)).bind fun x => porterlaw08_FieldStays_g4 N x K

noncomputable def porterlaw08_FieldStays_t4 (N : Nat) : Tab Bool := [([0, 1, 0, 0, 1, 0, 0, 1, 0, 1, 1, 1, 1, 1], porterlaw08_FieldStays_h5 N)]

theorem porterlaw08_FieldStays_ok4 {N : Nat} {c : Ctx} (hb : Base Go.Proofs.Try.prog (porterlaw08_FieldStays_E N) c) : CodeOk Go.Proofs.Try.prog c (nodeAt porterlaw08_FieldStays_body [0, 1, 0, 0, 1, 0, 1, 1, 1, 1, 1]) (porterlaw08_FieldStays_h4 N) :=
  piece_ok (s := [(1, .v (.int .i64)), (0, .v (.sl (.pair (.int .i64) (.pair (.int .u64) (.pair (.int .i64) (.pair (.int .i64) .unit)))))), (4, .box (.pair .bool (.pair .str (.pair (.int .i64) .unit)))), (0, .v (.int .i64))]) (m := 80) (g := porterlaw08_FieldStays_g4 N) [7, 2, 8, 1] (evN_sound hb N (porterlaw08_FieldStays_t4 N) porterlaw08_FieldStays_L porterlaw08_FieldStays_body (TabOk.cons (porterlaw08_FieldStays_ok5 hb) TabOk.nil) [0, 1, 0, 0, 1, 0, 1, 1, 1, 1, 1] _ rfl) (fun x K => by kernel_rfl)

noncomputable def porterlaw08_FieldStays_s3 (N : Nat) (e : Int) (l : (List (Int × (Int × (Int × (Int × Unit)))))) (r_ : (Bool × ((List UInt8) × (Int × Unit)))) (i : Int) (rec : (Bool × ((List UInt8) × (Int × Unit))) → Int → Option Bool) (k0 : Bool → Option Bool) (k1 : (Bool × ((List UInt8) × (Int × Unit))) → Option Bool) : Option Bool :=
  cond (decide (i < (((List.length l) : Nat) : Int)))
  (porterlaw08_FieldStays_p4 N e l r_ i
    (fun x6 => k0 x6)
    (fun r_1 => rec r_1 (Go.IntKind.wrap Go.IntKind.i64 (i + (1 : Int)))))
  (k1 r_)

noncomputable def porterlaw08_FieldStays_p3 (N : Nat) (e : Int) (l : (List (Int × (Int × (Int × (Int × Unit)))))) (r_ : (Bool × ((List UInt8) × (Int × Unit)))) (i : Int) (k0 : Bool → Option Bool) (k1 : (Bool × ((List UInt8) × (Int × Unit))) → Option Bool) : Option Bool :=
  iter (fun (v : ((Bool × ((List UInt8) × (Int × Unit))) × Int)) r => porterlaw08_FieldStays_s3 N e l v.1 v.2 (fun r_ i => (r (r_, i))) k0 k1) N (r_, i)

noncomputable def porterlaw08_FieldStays_g3 (N : Nat) (i : (Int × (List (Int × (Int × (Int × (Int × Unit))))))) (v : ((Bool × ((List UInt8) × (Int × Unit))) × Int)) (r : ((Bool × ((List UInt8) × (Int × Unit))) × Int) → Option Bool) (K : Ex → List A → Option Bool) : Option Bool :=
  porterlaw08_FieldStays_s3 N i.1 i.2 v.1 v.2 (fun r_ i => (r (r_, i))) (fun a0 => (K .ret (mkS [(6, .v .bool)] 82 (a0, ())))) (fun a1 => (K (.exit 0) (mkS [(1, .v (.int .i64)), (5, .box (.pair .bool (.pair .str (.pair (.int .i64) .unit))))] 81 (i.1, a1, ()))))

noncomputable def porterlaw08_FieldStays_h3 (N : Nat) : Hd Bool := fun st K => (unS [(1, .v (.int .i64)), (0, .v (.sl (.pair (.int .i64) (.pair (.int .u64) (.pair (.int .i64) (.pair (.int .i64) .unit)))))), (4, .box (.pair .bool (.pair .str (.pair (.int .i64) .unit)))), (0, .v (.int .i64))] 80 (restr [8, 2, 7, 1] 0 st)).bind fun x => iter (fun v r => porterlaw08_FieldStays_g3 N ((fun x => (x.1, x.2.1)) x) v r K) N ((fun x => (x.2.2.1, x.2.2.2.1)) x)

noncomputable def porterlaw08_FieldStays_t3 (N : Nat) : Tab Bool := [([0, 1, 0, 0, 1, 0, 1, 1, 1, 1, 1], porterlaw08_FieldStays_h4 N)]

theorem porterlaw08_FieldStays_ok3 {N : Nat} {c : Ctx} (hb : Base Go.Proofs.Try.prog (porterlaw08_FieldStays_E N) c) : CodeOk Go.Proofs.Try.prog c (nodeAt porterlaw08_FieldStays_body [0, 1, 0, 1, 1, 1, 1, 1]) (porterlaw08_FieldStays_h3 N) :=
  loop_ok (s := [(1, .v (.int .i64)), (0, .v (.sl (.pair (.int .i64) (.pair (.int .u64) (.pair (.int .i64) (.pair (.int .i64) .unit)))))), (4, .box (.pair .bool (.pair .str (.pair (.int .i64) .unit)))), (0, .v (.int .i64))]) (m := 80) (porterlaw08_FieldStays_g3 N) [8, 2, 7, 1] N (fun x => (x.1, x.2.1)) (fun x => (x.2.2.1, x.2.2.2.1)) (fun i v => (i.1, i.2, v.1, v.2, ())) (fun _ => rfl) (evN_sound hb N (porterlaw08_FieldStays_t3 N) porterlaw08_FieldStays_L porterlaw08_FieldStays_body (TabOk.cons (porterlaw08_FieldStays_ok4 hb) TabOk.nil) [0, 0, 1, 0, 1, 1, 1, 1, 1] _ rfl) (fun i v r K => by kernel_rfl)

noncomputable def porterlaw08_FieldStays (N : Nat) (s : (List UInt8)) (e : Int) (l : (List (Int × (Int × (Int × (Int × Unit)))))) : Option Bool :=
  porterlaw08_FieldStays_p1 N s e l
  (fun x6 => some x6)
  ((field_Reader_Fail N (true, (s, ((0 : Int), ()))) e).bind fun y =>
    porterlaw08_FieldStays_p3 N e l y.2.1 (0 : Int)
    (fun x61 => some x61)
    (fun r_ => (field_Reader_Err N r_).bind fun y1 =>
      cond (y1.1 == e)
      ((porterlaw08_works N).bind fun y2 =>
        some y2)
      (some false)))

noncomputable def porterlaw08_FieldStays_t (N : Nat) : Tab Bool := [([0, 1], porterlaw08_FieldStays_h1 N), ([0, 1, 0, 1, 1, 1, 1, 1], porterlaw08_FieldStays_h3 N)]

theorem porterlaw08_FieldStays_link (N : Nat) (x : denS [(0, .v .str), (0, .v (.int .i64)), (0, .v (.sl (.pair (.int .i64) (.pair (.int .u64) (.pair (.int .i64) (.pair (.int .i64) .unit))))))]) : evFX (porterlaw08_FieldStays_E N) N (porterlaw08_FieldStays_t N) porterlaw08_FieldStays_L Go.Proofs.Try.f5 (mkS [(0, .v .str), (0, .v (.int .i64)), (0, .v (.sl (.pair (.int .i64) (.pair (.int .u64) (.pair (.int .i64) (.pair (.int .i64) .unit))))))] 0 x) (kRes (.v .bool) 3) = porterlaw08_FieldStays N x.1 x.2.1 x.2.2.1 := by kernel_rfl

noncomputable def porterlaw08_FieldStays_res (N : Nat) : List A → Res := resOf [(0, .v .str), (0, .v (.int .i64)), (0, .v (.sl (.pair (.int .i64) (.pair (.int .u64) (.pair (.int .i64) (.pair (.int .i64) .unit))))))] (fun x => porterlaw08_FieldStays N x.1 x.2.1 x.2.2.1) (oRes (.v .bool) 3)

theorem porterlaw08_FieldStays_ct (N : Nat) : Contract Go.Proofs.Try.prog noGlob 5 (porterlaw08_FieldStays_res N) :=
  Contract.of (E := porterlaw08_FieldStays_E N) (H := porterlaw08_FieldStays_t N) (L := porterlaw08_FieldStays_L) (N := N) (body := porterlaw08_FieldStays_body) (K := (kRes (.v .bool) 3)) (porterlaw08_FieldStays_Eok N) Go.Proofs.Try.func5 (by kernel_rfl) (by decide) (fun _ hb => (TabOk.cons (porterlaw08_FieldStays_ok1 hb) (TabOk.cons (porterlaw08_FieldStays_ok3 hb) TabOk.nil))) (fun x y h => by rw [porterlaw08_FieldStays_link]; exact h) (kRes_ok (s := (.v .bool)) (m := 3))

end Go.Proofs.YtjknlcknfnfgbaaLg
