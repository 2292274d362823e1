/- The functions of the seat, as plain functions, and what their calls do. Printed by a program of mine; checked here. -/
import Derived.Test.YtlhfamaflkbkjaaLgFnRt1
import Derived.Test.YtlhfamaflkbkjaaLgFnRt2
import Derived.Test.YtlhfamaflkbkjaaLgFnRt3
import Derived.WalkKit
import Derived.Tactics
import Derived.Tactics2
import Derived.Defers
import Derived.Lib.Hide
import Derived.Below
import Derived.Recover
import Derived.Orders
import Derived.WalkSmall
import Derived.LoopN
set_option linter.all false
set_option maxRecDepth 100000
namespace Go.Proofs.YtlhfamaflkbkjaaLg
open Go Go.Lift

theorem ends_of_fine {w w' : World} {S : Hp} {b : Nat} {x x' : RdrT.den} {rest : List A} {vals : List Value} {ob : Nat → List Nat} {rA : A} {rV : Value} {outs : List A}
    (hrest : ∀ y ∈ rest, isBoxA y = false) (hv0 : vals[0]? = some (.pointer (some ⟨b, 0, none⟩))) (hob : ob 0 = [b]) (hob' : ∀ i, i ≠ 0 → ob i = []) (houts : outs[0]? = some (.box RdrT x'))
    (hF : Fine w S b x' w') (hr : ∀ S', ARel (hp w') S' (fun _ => undef) rA rV []) (hrr : rA.refs = []) : Lift.Ends w S (.box RdrT x :: rest) vals ob rA outs (.returned rV) w' := by
  obtain ⟨S', h1, h2, h3, h4, h5, E, fr, h6, h7⟩ := hF
  have hmem : ∀ i k, k ∈ ob i → k = b := fun i k hk => by
    by_cases hi : i = 0
    · subst hi; rw [hob] at hk; exact List.mem_singleton.1 hk
    · rw [hob' i hi] at hk; cases hk
  refine ⟨rV, S', [], ob, rfl, ⟨h1.size, fun k hk hn => h1.same k hk (fun e => hn ⟨0, by rw [hob, e]; exact List.mem_singleton.2 rfl⟩), h1.tape, h1.os, h1.output⟩, h2, h4, fun k hk => ?_, ⟨hr S', hrr⟩, (fun k hk => by cases hk), .nil, ?_, ?_, ?_, ?_, fun _ h => h⟩
  · rcases h3 k hk with h | h
    · exact .inl h
    · exact .inr (.inr h)
  · intro i y hy hbx
    match i with
    | 0 =>
      cases hy
      exact ⟨_, _, houts, hv0, rfl, by rw [hob]; exact rdr_shut h6 h7⟩
    | i + 1 =>
      have := hrest y (List.mem_of_getElem? hy)
      rw [hbx] at this
      cases this
  · intro i k hk
    refine ⟨.inl ⟨i, hk⟩, ?_, fun h => by cases h⟩
    rw [hmem i k hk]; exact h5
  · intro i j k hi hj
    by_cases h0 : i = 0
    · by_cases h1 : j = 0
      · omega
      · rw [hob' j h1] at hj; cases hj
    · rw [hob' i h0] at hi; cases hi
  · intro i
    by_cases h0 : i = 0
    · subst h0; rw [hob]; exact List.nodup_cons.2 ⟨by simp, List.nodup_nil⟩
    · rw [hob' i h0]; exact .nil

theorem args_one {w : World} {S : Hp} {x : RdrT.den} {vals : List Value} {ob : Nat → List Nat} (hS : Lift.Sub S (hp w)) (har : ArgsRel (hp w) S [.box RdrT x] vals ob) :
    ∃ b, vals = [.pointer (some ⟨b, 0, none⟩)] ∧ ob 0 = [b] ∧ (∀ i, i ≠ 0 → ob i = []) ∧ Rdr w S b x := by
  obtain ⟨⟨v0, hv0, hA0⟩, _⟩ := har.rel 0 _ rfl
  obtain ⟨b, E, fr, ho, hv, hc, hf⟩ := rdr_open hA0
  have hlen := har.len
  have hvals : vals = [v0] := by
    match vals, hlen with
    | [a], _ => cases hv0; rfl
  subst hv
  exact ⟨b, hvals, ho, fun i hi => har.out i (by simp; omega), hS, har.hid 0 b (by rw [ho]; exact List.mem_singleton.2 rfl), E, fr, hc, hf⟩

theorem args_two {w : World} {S : Hp} {x : RdrT.den} {k : IntKind} {n : Int} {vals : List Value} {ob : Nat → List Nat} (hS : Lift.Sub S (hp w)) (har : ArgsRel (hp w) S [.box RdrT x, .v (.int k) n] vals ob) :
    ∃ b, vals = [.pointer (some ⟨b, 0, none⟩), .int k n] ∧ ob 0 = [b] ∧ (∀ i, i ≠ 0 → ob i = []) ∧ Rdr w S b x := by
  obtain ⟨⟨v0, hv0, hA0⟩, _⟩ := har.rel 0 _ rfl
  obtain ⟨⟨v1, hv1, hA1⟩, _⟩ := har.rel 1 _ rfl
  obtain ⟨b, E, fr, ho, hv, hc, hf⟩ := rdr_open hA0
  have hlen := har.len
  have hvals : vals = [v0, v1] := by
    match vals, hlen with
    | [a, c], _ => cases hv0; cases hv1; rfl
  have e1 := VR.int_inv hA1.1
  subst e1
  subst hv
  refine ⟨b, hvals, ho, fun i hi => ?_, hS, har.hid 0 b (by rw [ho]; exact List.mem_singleton.2 rfl), E, fr, hc, hf⟩
  match i with
  | 0 => exact absurd rfl hi
  | 1 => exact hA1.2
  | i + 2 => exact har.out _ (by simp)

noncomputable def field_Reader_Byte_res (N : Nat) : List A → Res := resOf [(0, .box (.pair .bool (.pair .str (.pair (.int .i64) .unit))))] (fun x => field_Reader_Byte N x.1) (oResB (.v (.int .u8)) [(0, .box (.pair .bool (.pair .str (.pair (.int .i64) .unit))))] 0)

theorem field_Reader_Byte_ct (N : Nat) : Contract Try.prog noGlob 19 (field_Reader_Byte_res N) := by
  refine Contract.hand ⟨_, Try.func19, by kernel_rfl, by decide⟩ ?_
  intro w S vals ob x y har hS hg hy
  obtain ⟨x, u⟩ := x
  cases u
  obtain ⟨b, rfl, ho, ho', hR⟩ := args_one hS har
  have fin : ∀ (n : Int) (x' : RdrT.den), y = (n, (x', ())) → Calls Try.prog 19 #[.pointer (some ⟨b, 0, none⟩)] w (fun r w' => r = .returned (.int .u8 n) ∧ Fine w S b x' w') →
      Calls Try.prog 19 [Value.pointer (some ⟨b, 0, none⟩)].toArray w fun e w' => Lift.Ends w S (mkS [(0, .box RdrT)] 0 (x, ())) [.pointer (some ⟨b, 0, none⟩)] ob (oResB (.v (.int .u8)) [(0, .box RdrT)] 0 y).1 (oResB (.v (.int .u8)) [(0, .box RdrT)] 0 y).2 e w' := by
    rintro n x' rfl hc
    refine hc.mono ?_
    rintro r w' ⟨rfl, hF⟩
    exact ends_of_fine (rest := []) (fun _ h => by cases h) rfl ho ho' rfl hF (fun S' => ⟨VR.int, rfl⟩) rfl
  have hy' : field_Reader_Byte N x = some y := hy
  unfold field_Reader_Byte at hy'
  cases hr : (x.1 && (x.2.2.1 == 0)) with
  | false =>
    rw [hr] at hy'
    cases hy'
    exact fin _ _ rfl (byte_off N hR hr)
  | true =>
    rw [hr] at hy'
    by_cases hle : 1 ≤ Go.IntKind.wrap .u64 (x.2.1.length : Int)
    · rw [decide_eq_true hle] at hy'
      cases hy'
      obtain ⟨m, s, e, u⟩ := x
      cases u
      cases s with
      | nil => exact absurd (show 1 ≤ Go.IntKind.wrap .u64 (0 : Int) from hle) (by decide)
      | cons a l => exact fin _ _ rfl (byte_on N hR hr hle)
    · rw [decide_eq_false hle] at hy'
      cases hy'
      refine fin _ _ rfl ?_
      have e : failS x 1 = (x.1, [], 1, ()) := by
        unfold failS
        rw [hr]
        rfl
      rw [← e]
      exact byte_end N hR hr hle

noncomputable def field_Reader_Num (N : Nat) (x : RdrT.den) (most : Int) : Option (Int × (RdrT.den × Unit)) :=
  cond (x.1 && (x.2.2.1 == 0))
  ((varint_Take N x.2.1).bind fun y =>
    cond (decide (y.2.2.1 = 0))
    (cond (decide (y.1 ≤ most))
      (cond (decide (0 ≤ y.2.1 ∧ y.2.1 ≤ x.2.1.length))
        (some (y.1, ((x.1, x.2.1.drop y.2.1.toNat, x.2.2.1, ()), ())))
        none)
      (some (0, ((x.1, [], 3, ()), ()))))
    (some (0, ((x.1, [], y.2.2.1, ()), ()))))
  (some (0, (x, ())))

theorem failS_on {x : RdrT.den} {e : Int} (hr : (x.1 && (x.2.2.1 == 0)) = true) (he : e ≠ 0) : failS x e = (x.1, [], e, ()) := by
  unfold failS
  rw [hr, bne_iff_ne.2 he]
  rfl

theorem num_call (N : Nat) {w : World} {S : Hp} {b : Nat} {x : RdrT.den} {most n : Int} {x' : RdrT.den} (h : Rdr w S b x) (hy : field_Reader_Num N x most = some (n, (x', ()))) :
    Calls Try.prog 39 #[.pointer (some ⟨b, 0, none⟩), .int .u64 most] w fun r w' => r = .returned (.int .u64 n) ∧ Fine w S b x' w' := by
  unfold field_Reader_Num at hy
  cases hr : (x.1 && (x.2.2.1 == 0)) with
  | false =>
    rw [hr] at hy
    cases hy
    exact num_off N h hr
  | true =>
    rw [hr] at hy
    cases ht : varint_Take N x.2.1 with
    | none => rw [ht] at hy; cases hy
    | some y =>
      rw [ht, Option.bind_some] at hy
      by_cases he : y.2.2.1 = 0
      · rw [decide_eq_true he] at hy
        by_cases hm : y.1 ≤ most
        · rw [decide_eq_true hm] at hy
          by_cases hu : 0 ≤ y.2.1 ∧ y.2.1 ≤ x.2.1.length
          · rw [decide_eq_true hu] at hy
            cases hy
            exact num_on N h hr (fun w1 S1 h1 => number_fine N h1 ht he hm hu.1 hu.2)
          · rw [decide_eq_false hu] at hy
            cases hy
        · rw [decide_eq_false hm] at hy
          cases hy
          rw [← failS_on hr (by decide : (3 : Int) ≠ 0)]
          exact num_stop N h hr (fun w1 S1 h1 => number_much N h1 ht he hm)
      · rw [decide_eq_false he] at hy
        cases hy
        rw [← failS_on hr he]
        exact num_stop N h hr (fun w1 S1 h1 => number_bad N h1 ht he)

noncomputable def field_Reader_Num_box (N : Nat) : List A → Res := resOf [(0, .box (.pair .bool (.pair .str (.pair (.int .i64) .unit)))), (0, .v (.int .u64))] (fun x => field_Reader_Num N x.1 x.2.1) (oResB (.v (.int .u64)) [(0, .box (.pair .bool (.pair .str (.pair (.int .i64) .unit))))] 1)

theorem field_Reader_Num_box_ct (N : Nat) : Contract Try.prog noGlob 39 (field_Reader_Num_box N) := by
  refine Contract.hand ⟨_, Try.func39, by kernel_rfl, by decide⟩ ?_
  intro w S vals ob x y har hS hg hy
  obtain ⟨x, most, u⟩ := x
  cases u
  obtain ⟨n, x', u⟩ := y
  cases u
  obtain ⟨b, rfl, ho, ho', hR⟩ := args_two hS har
  refine (num_call N hR hy).mono ?_
  rintro r w' ⟨rfl, hF⟩
  exact ends_of_fine (rest := [.v (.int .u64) most]) (fun _ h => by rw [List.mem_singleton.1 h]; rfl) rfl ho ho' rfl hF (fun S' => ⟨VR.int, rfl⟩) rfl

theorem reads_none (N : Nat) {w : World} {S : Hp} (hS : Lift.Sub S (hp w)) :
    Calls Try.prog 35 #[.pointer none] w fun r w' => r = .returned (.bool false) ∧
      ∃ S', WF w (fun _ => False) w' ∧ Lift.Sub S S' ∧ Lift.Sub S' (hp w') ∧ ∀ k, S' k ≠ none → S k ≠ none ∨ w.heap.size ≤ k := by
  have h := (field_Reader_reads_nil_ct N).2 w S [.v .opq (.pointer none)] [.pointer none] (fun _ => []) ⟨rfl, fun i x hx => ?_, fun _ _ => rfl, (fun i j b hb => by cases hb), fun _ => .nil, (fun i b hb => by cases hb)⟩ hS (glob_none S) false rfl
  · refine h.mono ?_
    rintro r w' ⟨v, S', o, ob', rfl, hwf, h3, h4, h5, ⟨⟨hv, _⟩, _⟩, _⟩
    refine ⟨by rw [VR.bool_inv hv], S', ⟨hwf.size, fun k hk _ => hwf.same k hk (by rintro ⟨i, hi⟩; cases hi), hwf.tape, hwf.os, hwf.output⟩, h3, h4, fun b hb => ?_⟩
    rcases h5 b hb with h | ⟨i, hi⟩ | h
    · exact .inl h
    · cases hi
    · exact .inr h
  · match i with
    | 0 => cases hx; exact ⟨⟨_, rfl, VR.of_one rfl ⟨rfl, rfl⟩, rfl⟩, rfl⟩
    | i + 1 => cases hx

theorem num_nil (N : Nat) {w : World} {S : Hp} {most : Int} (hS : Lift.Sub S (hp w)) :
    Calls Try.prog 39 #[.pointer none, .int .u64 most] w fun r w' => r = .returned (.int .u64 0) ∧
      ∃ S', WF w (fun _ => False) w' ∧ Lift.Sub S S' ∧ Lift.Sub S' (hp w') ∧ ∀ k, S' k ≠ none → S k ≠ none ∨ w.heap.size ≤ k := by
  have hmf : ∀ (fn : Fn) (first cap : Array Value) (w : World), (Instr.makeFunc fn first cap).run Try.prog w = .ok (.func fn first cap) w := fun _ _ _ _ => rfl
  have hA := alloc_cell w (.pointer none) 41
  have hh : (w.alloc (.cells #[.pointer none] 41)).heap = w.heap.push (.cells #[.pointer none] 41 (0, 0)) := rfl
  have hk : ∀ k, k < w.heap.size → (w.alloc (.cells #[.pointer none] 41)).heap[k]? = w.heap[k]? := fun k hk => by
    rw [hh, Array.getElem?_push, if_neg (by omega)]
  have hz : (w.alloc (.cells #[.pointer none] 41)).heap.size = w.heap.size + 1 := by rw [hh, Array.size_push]
  have hS1 : Lift.Sub S (hp (w.alloc (.cells #[.pointer none] 41))) := fun k o ho => by
    have := hS k o ho
    simp only [hp] at this ⊢
    rw [hk k (Array.getElem?_eq_some_iff.1 this).1]
    exact this
  have hcr := reads_none N hS1
  clear hh
  go_enter_defers Try.func39, Try.ntmps39
  go_wp2_with (go_at_call 35; refine hcr.mono ?_; rintro r w2 ⟨rfl, hF2⟩; have HM := Go.Lib.hid hF2; clear hcr hF2)
  obtain ⟨S2, g1, g2, g3, g4⟩ := HM.out
  have hc2 : w2.cell? ⟨w.heap.size, 0, none⟩ = some (.pointer none) := by
    have := g1.same w.heap.size (by rw [hz]; omega) (fun h => h)
    simp only [World.cell?] at hA ⊢
    rw [this]; exact hA
  refine leaves_cons (f := 46) (args := #[.pointer (some ⟨w.heap.size, 0, none⟩)]) (by simp) (by simp [go_sem]) ?_
  refine (rdN_idle hc2).mono ?_
  rintro r u w3 ⟨⟨v, rfl⟩, rfl, rfl⟩
  refine ⟨_, ?_, rfl, S2, ⟨?_, fun k h1 _ => ?_, ?_, ?_, ?_⟩, g2, g3, fun k hk => ?_⟩
  · simp [results, Try.results39, go_sem]
  · have := g1.size
    rw [hz] at this
    exact Nat.le_of_succ_le this
  · have := g1.same k (by rw [hz]; omega) (fun h => h)
    exact this.trans (hk k h1)
  · exact g1.tape
  · exact g1.os
  · exact g1.output
  · rcases g4 k hk with h | h
    · exact .inl h
    · rw [hz] at h; exact .inr (by omega)

noncomputable def field_Reader_Num_res (N : Nat) : List A → Res := resAlt [(0, .nilp), (0, .v (.int .u64))] (fun _ => some 0) (oRes (.v (.int .u64)) 2) (field_Reader_Num_box N)

theorem field_Reader_Num_ct (N : Nat) : Contract Try.prog noGlob 39 (field_Reader_Num_res N) := by
  refine Contract.alt (Contract.hand ⟨_, Try.func39, by kernel_rfl, by decide⟩ ?_) (field_Reader_Num_box_ct N)
  intro w S vals ob x y har hS hg hy
  obtain ⟨p, most, u⟩ := x
  cases p
  cases u
  cases hy
  obtain ⟨⟨v0, hv0, hA0, ho0⟩, _⟩ := har.rel 0 _ rfl
  obtain ⟨⟨v1, hv1, hA1, ho1⟩, _⟩ := har.rel 1 _ rfl
  have hvals : vals = [v0, v1] := by
    match vals, har.len with
    | [a, c], _ => cases hv0; cases hv1; rfl
  have e0 := VR.opq_inv hA0
  have e1 := VR.int_inv hA1
  subst e0
  subst e1
  subst hvals
  have hnone : ∀ i, ob i = [] := fun i => by
    match i with
    | 0 => exact ho0
    | 1 => exact ho1
    | i + 2 => exact har.out _ (by simp [mkS, deads])
  refine (num_nil N hS).mono ?_
  rintro r w' ⟨rfl, S', h1, h2, h3, h4⟩
  refine ⟨_, S', [], ob, rfl, ⟨h1.size, fun k hk _ => h1.same k hk (fun h => h), h1.tape, h1.os, h1.output⟩, h2, h3, fun k hk => ?_, ⟨⟨VR.int, rfl⟩, rfl⟩, (fun k hk => by cases hk), .nil, ?_, ?_, har.inj, har.nd, fun _ h => h⟩
  · rcases h4 k hk with h | h
    · exact .inl h
    · exact .inr (.inr h)
  · intro i y hy hbx
    match i with
    | 0 => cases hy; cases hbx
    | 1 => cases hy; cases hbx
    | i + 2 => simp [mkS, deads] at hy
  · intro i k hk
    rw [hnone i] at hk
    cases hk

theorem wrap_len (n : Nat) : Go.IntKind.wrap .u64 (n : Int) ≤ n := by
  have e : Go.IntKind.wrap .u64 (n : Int) = (n : Int) % 18446744073709551616 := rfl
  rw [e]
  omega

theorem take_fine {w : World} {S : Hp} {b : Nat} {x : RdrT.den} (h : Rdr w S b x) {n : Int} (hn : 0 ≤ n) (hle : n ≤ Go.IntKind.wrap .u64 (x.2.1.length : Int)) :
    Calls Try.prog 36 #[.pointer (some ⟨b, 0, none⟩), .int .u64 n] w fun r w' => r = .returned (.string ⟨⟨x.2.1.take n.toNat⟩⟩) ∧ Fine w S b (x.1, x.2.1.drop n.toNat, x.2.2.1, ()) w' := by
  obtain ⟨c1, z1⟩ := rdr_cells h
  refine (take_walk c1 z1 hn hle (Int.le_trans hle (wrap_len _))).mono ?_
  rintro r w' ⟨rfl, rfl⟩
  exact ⟨rfl, fine_set h _⟩

theorem take_bad {w : World} {S : Hp} {b : Nat} {x : RdrT.den} (h : Rdr w S b x) {n : Int} (hle : ¬ n ≤ Go.IntKind.wrap .u64 (x.2.1.length : Int)) :
    Calls Try.prog 36 #[.pointer (some ⟨b, 0, none⟩), .int .u64 n] w fun r w' => r = .panicked [{ v := .iface 25 (.int .i64 1), recovered := false }] ∧ Fine w S b x w' := by
  obtain ⟨c1, z1⟩ := rdr_cells h
  refine (take_stop c1 z1 hle).mono ?_
  rintro r w' ⟨rfl, rfl⟩
  exact ⟨rfl, fine_refl h⟩

noncomputable def field_Reader_Text (N : Nat) (x : RdrT.den) (most : Int) : Option (List UInt8 × (RdrT.den × Unit)) :=
  cond (x.1 && (x.2.2.1 == 0))
  ((varint_Take N x.2.1).bind fun y =>
    cond (decide (y.2.2.1 = 0))
    (cond (decide (y.1 ≤ Go.IntKind.wrap .u64 (if most < 0 then 0 else most)))
      (cond (decide (0 ≤ y.1 ∧ 0 ≤ y.2.1 ∧ y.2.1 ≤ x.2.1.length))
        (cond (decide (y.1 ≤ Go.IntKind.wrap .u64 ((x.2.1.drop y.2.1.toNat).length : Int)))
          (some ((x.2.1.drop y.2.1.toNat).take y.1.toNat, ((x.1, (x.2.1.drop y.2.1.toNat).drop y.1.toNat, x.2.2.1, ()), ())))
          (some ([], ((x.1, [], 1, ()), ()))))
        none)
      (some ([], ((x.1, [], 3, ()), ()))))
    (some ([], ((x.1, [], y.2.2.1, ()), ()))))
  (some ([], (x, ())))

theorem text_call (N : Nat) {w : World} {S : Hp} {b : Nat} {x : RdrT.den} {most : Int} {s : List UInt8} {x' : RdrT.den} (h : Rdr w S b x) (hy : field_Reader_Text N x most = some (s, (x', ()))) :
    Calls Try.prog 21 #[.pointer (some ⟨b, 0, none⟩), .int .i64 most] w fun r w' => r = .returned (.string ⟨⟨s⟩⟩) ∧ Fine w S b x' w' := by
  unfold field_Reader_Text at hy
  cases hr : (x.1 && (x.2.2.1 == 0)) with
  | false =>
    rw [hr] at hy
    cases hy
    exact text_off N h hr
  | true =>
    rw [hr] at hy
    cases ht : varint_Take N x.2.1 with
    | none => rw [ht] at hy; cases hy
    | some y =>
      rw [ht, Option.bind_some] at hy
      by_cases he : y.2.2.1 = 0
      · rw [decide_eq_true he] at hy
        by_cases hm : y.1 ≤ Go.IntKind.wrap .u64 (if most < 0 then 0 else most)
        · rw [decide_eq_true hm] at hy
          by_cases hu : 0 ≤ y.1 ∧ 0 ≤ y.2.1 ∧ y.2.1 ≤ x.2.1.length
          · rw [decide_eq_true hu] at hy
            by_cases hl : y.1 ≤ Go.IntKind.wrap .u64 ((x.2.1.drop y.2.1.toNat).length : Int)
            · rw [decide_eq_true hl] at hy
              cases hy
              exact text_on N h rfl hr (fun w1 S1 h1 => number_fine N h1 ht he hm hu.2.1 hu.2.2) (fun w1 S1 h1 => take_fine h1 hu.1 hl)
            · rw [decide_eq_false hl] at hy
              cases hy
              have e := failS_on (x := (x.1, x.2.1.drop y.2.1.toNat, x.2.2.1, ())) (e := 1) hr (by decide)
              have k := text_end N h rfl hr (fun w1 S1 h1 => number_fine N h1 ht he hm hu.2.1 hu.2.2) (fun w1 S1 h1 => take_bad h1 hl)
              rw [e] at k
              exact k
          · rw [decide_eq_false hu] at hy
            cases hy
        · rw [decide_eq_false hm] at hy
          cases hy
          rw [← failS_on hr (by decide : (3 : Int) ≠ 0)]
          exact text_stop N h rfl hr (fun w1 S1 h1 => number_much N h1 ht he hm)
      · rw [decide_eq_false he] at hy
        cases hy
        rw [← failS_on hr he]
        exact text_stop N h rfl hr (fun w1 S1 h1 => number_bad N h1 ht he)

noncomputable def field_Reader_Text_res (N : Nat) : List A → Res := resOf [(0, .box (.pair .bool (.pair .str (.pair (.int .i64) .unit)))), (0, .v (.int .i64))] (fun x => field_Reader_Text N x.1 x.2.1) (oResB (.v .str) [(0, .box (.pair .bool (.pair .str (.pair (.int .i64) .unit))))] 1)

theorem field_Reader_Text_ct (N : Nat) : Contract Try.prog noGlob 21 (field_Reader_Text_res N) := by
  refine Contract.hand ⟨_, Try.func21, by kernel_rfl, by decide⟩ ?_
  intro w S vals ob x y har hS hg hy
  obtain ⟨x, most, u⟩ := x
  cases u
  obtain ⟨s, x', u⟩ := y
  cases u
  obtain ⟨b, rfl, ho, ho', hR⟩ := args_two hS har
  refine (text_call N hR hy).mono ?_
  rintro r w' ⟨rfl, hF⟩
  exact ends_of_fine (rest := [.v (.int .i64) most]) (fun _ h => by rw [List.mem_singleton.1 h]; rfl) rfl ho ho' rfl hF (fun S' => ⟨VR.str, rfl⟩) rfl

abbrev field_New_R : Type := (Bool × ((List UInt8) × (Int × Unit)))

noncomputable def field_New_body : Code := (Go.Proofs.Try.f18.body).getD .skip

noncomputable def field_New_L : List (List Nat × List Nat) := [([0], [0]), ([0, 1], [2]), ([1, 1], [2])]

noncomputable def field_New_E (N : Nat) : Env := mkEnv tys noGlob [] [] [] [] false [] []

theorem field_New_Eok (N : Nat) : EnvOk Go.Proofs.Try.prog (field_New_E N) := mkEnv_ok mixed tys_ok (FnsOk.nil) (ItsOk.nil)

noncomputable def field_New (N : Nat) (s : (List UInt8)) : Option (Bool × ((List UInt8) × (Int × Unit))) :=
  some (true, (s, ((0 : Int), ())))

noncomputable def field_New_t (N : Nat) : Tab (Bool × ((List UInt8) × (Int × Unit))) := []

theorem field_New_link (N : Nat) (x : denS [(0, .v .str)]) : evFX (field_New_E N) N (field_New_t N) field_New_L Go.Proofs.Try.f18 (mkS [(0, .v .str)] 0 x) (kRes (.box (.pair .bool (.pair .str (.pair (.int .i64) .unit)))) 1) = field_New N x.1 := by kernel_rfl

noncomputable def field_New_res (N : Nat) : List A → Res := resOf [(0, .v .str)] (fun x => field_New N x.1) (oRes (.box (.pair .bool (.pair .str (.pair (.int .i64) .unit)))) 1)

theorem field_New_ct (N : Nat) : Contract Go.Proofs.Try.prog noGlob 18 (field_New_res N) :=
  Contract.of (E := field_New_E N) (H := field_New_t N) (L := field_New_L) (N := N) (body := field_New_body) (K := (kRes (.box (.pair .bool (.pair .str (.pair (.int .i64) .unit)))) 1)) (field_New_Eok N) Go.Proofs.Try.func18 (by kernel_rfl) (by decide) (fun _ hb => TabOk.nil) (fun x y h => by rw [field_New_link]; exact h) (kRes_ok (s := (.box (.pair .bool (.pair .str (.pair (.int .i64) .unit))))) (m := 1))

abbrev name_digit_R : Type := Bool

noncomputable def name_digit_body : Code := (Go.Proofs.Try.f43.body).getD .skip

noncomputable def name_digit_L : List (List Nat × List Nat) := [([0], [0]), ([0, 1], [2]), ([1, 1], [2])]

noncomputable def name_digit_E (N : Nat) : Env := mkEnv tys noGlob [] [] [] [] false [] []

theorem name_digit_Eok (N : Nat) : EnvOk Go.Proofs.Try.prog (name_digit_E N) := mkEnv_ok mixed tys_ok (FnsOk.nil) (ItsOk.nil)

noncomputable def name_digit (N : Nat) (c : Int) : Option Bool :=
  cond (decide ((48 : Int) ≤ c))
  (some (decide (c ≤ (57 : Int))))
  (some false)

noncomputable def name_digit_t (N : Nat) : Tab Bool := []

theorem name_digit_link (N : Nat) (x : denS [(0, .v (.int .i32))]) : evFX (name_digit_E N) N (name_digit_t N) name_digit_L Go.Proofs.Try.f43 (mkS [(0, .v (.int .i32))] 0 x) (kRes (.v .bool) 1) = name_digit N x.1 := by kernel_rfl

noncomputable def name_digit_res (N : Nat) : List A → Res := resOf [(0, .v (.int .i32))] (fun x => name_digit N x.1) (oRes (.v .bool) 1)

theorem name_digit_ct (N : Nat) : Contract Go.Proofs.Try.prog noGlob 43 (name_digit_res N) :=
  Contract.of (E := name_digit_E N) (H := name_digit_t N) (L := name_digit_L) (N := N) (body := name_digit_body) (K := (kRes (.v .bool) 1)) (name_digit_Eok N) Go.Proofs.Try.func43 (by kernel_rfl) (by decide) (fun _ hb => TabOk.nil) (fun x y h => by rw [name_digit_link]; exact h) (kRes_ok (s := (.v .bool)) (m := 1))

abbrev name_wordRune_R : Type := Bool

noncomputable def name_wordRune_body : Code := (Go.Proofs.Try.f30.body).getD .skip

noncomputable def name_wordRune_L : List (List Nat × List Nat) := [([0], [0, 1]), ([0, 1], [5, 0, 1]), ([0, 1, 1], [4]), ([1, 1, 1], [4])]

noncomputable def name_wordRune_E (N : Nat) : Env := mkEnv tys noGlob [(43, name_digit_res N)] [] [] [] false [] []

theorem name_wordRune_Eok (N : Nat) : EnvOk Go.Proofs.Try.prog (name_wordRune_E N) := mkEnv_ok mixed tys_ok (FnsOk.cons (name_digit_ct N) (FnsOk.nil)) (ItsOk.nil)

noncomputable def name_wordRune_p1 (N : Nat) (c : Int) (first : Bool) (k0 : Bool → Option Bool) : Option Bool :=
  cond (decide ((97 : Int) ≤ c))
  (k0 (decide (c ≤ (122 : Int))))
  (k0 false)

noncomputable def name_wordRune_g1 (N : Nat) (x : denS [(0, .v (.int .i32)), (0, .v .bool)]) (K : Ex → List A → Option Bool) : Option Bool :=
  name_wordRune_p1 N x.1 x.2.1 (fun a2 => (K .normal (mkS [(0, .v (.int .i32)), (0, .v .bool), (3, .v .bool)] 19 (x.1, x.2.1, a2, ()))))

noncomputable def name_wordRune_h1 (N : Nat) : Hd Bool := fun st K => (unS [(0, .v (.int .i32)), (0, .v .bool)] 23 (restr [0, 1] 0 st)).bind fun x => name_wordRune_g1 N x K

noncomputable def name_wordRune_t1 (N : Nat) : Tab Bool := []

theorem name_wordRune_ok1 {N : Nat} {c : Ctx} (hb : Base Go.Proofs.Try.prog (name_wordRune_E N) c) : CodeOk Go.Proofs.Try.prog c (nodeAt name_wordRune_body [0, 1]) (name_wordRune_h1 N) :=
  piece_ok (s := [(0, .v (.int .i32)), (0, .v .bool)]) (m := 23) (g := name_wordRune_g1 N) [0, 1] (evN_sound hb N (name_wordRune_t1 N) name_wordRune_L name_wordRune_body TabOk.nil [0, 1] _ rfl) (fun x K => by kernel_rfl)

noncomputable def name_wordRune (N : Nat) (c : Int) (first : Bool) : Option Bool :=
  name_wordRune_p1 N c first
  (fun letter => cond letter
    (some true)
    ((name_digit N c).bind fun y =>
      cond y
      (some (!first))
      (cond (c == (45 : Int))
        (some (!first))
        (some false))))

noncomputable def name_wordRune_t (N : Nat) : Tab Bool := [([0, 1], name_wordRune_h1 N)]

theorem name_wordRune_link (N : Nat) (x : denS [(0, .v (.int .i32)), (0, .v .bool)]) : evFX (name_wordRune_E N) N (name_wordRune_t N) name_wordRune_L Go.Proofs.Try.f30 (mkS [(0, .v (.int .i32)), (0, .v .bool)] 0 x) (kRes (.v .bool) 2) = name_wordRune N x.1 x.2.1 := by kernel_rfl

noncomputable def name_wordRune_res (N : Nat) : List A → Res := resOf [(0, .v (.int .i32)), (0, .v .bool)] (fun x => name_wordRune N x.1 x.2.1) (oRes (.v .bool) 2)

theorem name_wordRune_ct (N : Nat) : Contract Go.Proofs.Try.prog noGlob 30 (name_wordRune_res N) :=
  Contract.of (E := name_wordRune_E N) (H := name_wordRune_t N) (L := name_wordRune_L) (N := N) (body := name_wordRune_body) (K := (kRes (.v .bool) 2)) (name_wordRune_Eok N) Go.Proofs.Try.func30 (by kernel_rfl) (by decide) (fun _ hb => (TabOk.cons (name_wordRune_ok1 hb) TabOk.nil)) (fun x y h => by rw [name_wordRune_link]; exact h) (kRes_ok (s := (.v .bool)) (m := 2))

abbrev name_all_word_R : Type := Bool

noncomputable def name_all_word_body : Code := (Go.Proofs.Try.f29.body).getD .skip

noncomputable def name_all_word_L : List (List Nat × List Nat) := [([0], [0, 1]), ([0, 0, 1], [13, 0, 1]), ([1, 0, 1], [0, 1]), ([0, 0, 1, 0, 1], [4]), ([1, 0, 1, 0, 1], [4]), ([0, 0, 1, 1], [15, 1]), ([0, 1, 0, 1, 1], [15, 1]), ([0, 0, 0, 1, 0, 1, 1], [17, 16, 1, 15]), ([0, 1, 0, 0, 1, 0, 1, 1], [16, 1, 15]), ([1, 0, 1, 0, 0, 1, 0, 1, 1], []), ([0, 0, 1, 1, 0, 0, 1, 0, 1, 1], [1, 6, 5, 15]), ([0, 1, 0, 1, 1, 0, 0, 1, 0, 1, 1], [25, 15, 1]), ([1, 1, 0, 1, 1, 0, 0, 1, 0, 1, 1], [15, 1]), ([0, 0, 1, 1, 0, 1, 1, 0, 0, 1, 0, 1, 1], [4]), ([1, 0, 1, 1, 0, 1, 1, 0, 0, 1, 0, 1, 1], [4]), ([1, 1, 0, 0, 1, 0, 1, 1], [15, 1]), ([1, 0, 1, 1], []), ([0, 1, 1, 1], [4]), ([1, 1, 1, 1], [4])]

noncomputable def name_all_word_E (N : Nat) : Env := mkEnv tys noGlob [(30, name_wordRune_res N)] [] [] [] false [] []

theorem name_all_word_Eok (N : Nat) : EnvOk Go.Proofs.Try.prog (name_all_word_E N) := mkEnv_ok mixed tys_ok (FnsOk.cons (name_wordRune_ct N) (FnsOk.nil)) (ItsOk.nil)

noncomputable def name_all_word_p2 (N : Nat) (s : (List UInt8)) (k0 : Bool → Option Bool) : Option Bool :=
  cond (s == ([] : List UInt8))
  (k0 true)
  (k0 (decide ((32 : Int) < (((List.length s) : Nat) : Int))))

noncomputable def name_all_word_g2 (N : Nat) (x : denS [(0, .v .str), (0, .fnc 30)]) (K : Ex → List A → Option Bool) : Option Bool :=
  name_all_word_p2 N x.1 (fun a1 => (K .normal (mkS [(0, .v .str), (0, .fnc 30), (11, .v .bool)] 12 (x.1, (), a1, ()))))

noncomputable def name_all_word_h2 (N : Nat) : Hd Bool := fun st K => (unS [(0, .v .str), (0, .fnc 30)] 24 (restr [0, 1] 0 st)).bind fun x => name_all_word_g2 N x K

noncomputable def name_all_word_t2 (N : Nat) : Tab Bool := []

theorem name_all_word_ok2 {N : Nat} {c : Ctx} (hb : Base Go.Proofs.Try.prog (name_all_word_E N) c) : CodeOk Go.Proofs.Try.prog c (nodeAt name_all_word_body [0, 0, 1]) (name_all_word_h2 N) :=
  piece_ok (s := [(0, .v .str), (0, .fnc 30)]) (m := 24) (g := name_all_word_g2 N) [0, 1] (evN_sound hb N (name_all_word_t2 N) name_all_word_L name_all_word_body TabOk.nil [0, 0, 1] _ rfl) (fun x K => by kernel_rfl)

noncomputable def name_all_word_p1 (N : Nat) (s : (List UInt8)) (k0 : Bool → Option Bool) (k1 : Option Bool) : Option Bool :=
  name_all_word_p2 N s
  (fun x13 => cond x13
    (k0 false)
    (k1))

noncomputable def name_all_word_g1 (N : Nat) (x : denS [(0, .v .str), (0, .fnc 30)]) (K : Ex → List A → Option Bool) : Option Bool :=
  name_all_word_p1 N x.1 (fun a0 => (K .ret (mkS [(4, .v .bool)] 21 (a0, ())))) (K .normal (mkS [(0, .v .str), (0, .fnc 30)] 24 (x.1, (), ())))

noncomputable def name_all_word_h1 (N : Nat) : Hd Bool := fun st K => (unS [(0, .v .str), (0, .fnc 30)] 24 (restr [0, 1] 0 st)).bind fun x => name_all_word_g1 N x K

noncomputable def name_all_word_t1 (N : Nat) : Tab Bool := [([0, 0, 1], name_all_word_h2 N)]

theorem name_all_word_ok1 {N : Nat} {c : Ctx} (hb : Base Go.Proofs.Try.prog (name_all_word_E N) c) : CodeOk Go.Proofs.Try.prog c (nodeAt name_all_word_body [0, 1]) (name_all_word_h1 N) :=
  piece_ok (s := [(0, .v .str), (0, .fnc 30)]) (m := 24) (g := name_all_word_g1 N) [0, 1] (evN_sound hb N (name_all_word_t1 N) name_all_word_L name_all_word_body (TabOk.cons (name_all_word_ok2 hb) TabOk.nil) [0, 1] _ rfl) (fun x K => by kernel_rfl)

noncomputable def name_all_word_s3 (N : Nat) (x15 : (List UInt8 × Nat)) (rec : (List UInt8 × Nat) → Option Bool) (k0 : Bool → Option Bool) (k1 : Option Bool) : Option Bool :=
  cond (decide (x15.2 < (List.length x15.1)))
  ((name_wordRune N (((Go.Lift.runeAt x15.1 x15.2).1 : Nat) : Int) (((x15.2 : Nat) : Int) == (0 : Int))).bind fun y =>
    cond (!y)
    (k0 false)
    (rec (x15.1, (x15.2 + (Go.Lift.runeAt x15.1 x15.2).2))))
  (k1)

noncomputable def name_all_word_p3 (N : Nat) (x15 : (List UInt8 × Nat)) (k0 : Bool → Option Bool) (k1 : Option Bool) : Option Bool :=
  iter (fun (v : (List UInt8 × Nat)) r => name_all_word_s3 N v (fun x15 => (r x15)) k0 k1) N x15

noncomputable def name_all_word_g3 (N : Nat) (i : Unit) (v : (List UInt8 × Nat)) (r : (List UInt8 × Nat) → Option Bool) (K : Ex → List A → Option Bool) : Option Bool :=
  name_all_word_s3 N v (fun x15 => (r x15)) (fun a0 => (K .ret (mkS [(4, .v .bool)] 21 (a0, ())))) (K (.exit 0) (mkS [] 26 ()))

noncomputable def name_all_word_h3 (N : Nat) : Hd Bool := fun st K => (unS [(1, .fnc 30), (13, .iter)] 10 (restr [15, 1] 0 st)).bind fun x => iter (fun v r => name_all_word_g3 N ((fun x => ()) x) v r K) N ((fun x => x.2.1) x)

noncomputable def name_all_word_t3 (N : Nat) : Tab Bool := []

theorem name_all_word_ok3 {N : Nat} {c : Ctx} (hb : Base Go.Proofs.Try.prog (name_all_word_E N) c) : CodeOk Go.Proofs.Try.prog c (nodeAt name_all_word_body [0, 1, 0, 1, 1]) (name_all_word_h3 N) :=
  loop_ok (s := [(1, .fnc 30), (13, .iter)]) (m := 10) (name_all_word_g3 N) [15, 1] N (fun x => ()) (fun x => x.2.1) (fun i v => ((), v, ())) (fun _ => rfl) (evN_sound hb N (name_all_word_t3 N) name_all_word_L name_all_word_body TabOk.nil [0, 0, 1, 0, 1, 1] _ rfl) (fun i v r K => by kernel_rfl)

noncomputable def name_all_word (N : Nat) (s : (List UInt8)) : Option Bool :=
  name_all_word_p1 N s
  (fun x4 => some x4)
  (name_all_word_p3 N (s, 0)
    (fun x41 => some x41)
    (some true))

noncomputable def name_all_word_t (N : Nat) : Tab Bool := [([0, 1], name_all_word_h1 N), ([0, 1, 0, 1, 1], name_all_word_h3 N)]

theorem name_all_word_link (N : Nat) (x : denS [(0, .v .str), (0, .fnc 30)]) : evFX (name_all_word_E N) N (name_all_word_t N) name_all_word_L Go.Proofs.Try.f29 (mkS [(0, .v .str), (0, .fnc 30)] 0 x) (kRes (.v .bool) 2) = name_all_word N x.1 := by kernel_rfl

noncomputable def name_all_word_res (N : Nat) : List A → Res := resOf [(0, .v .str), (0, .fnc 30)] (fun x => name_all_word N x.1) (oRes (.v .bool) 2)

theorem name_all_word_ct (N : Nat) : Contract Go.Proofs.Try.prog noGlob 29 (name_all_word_res N) :=
  Contract.of (E := name_all_word_E N) (H := name_all_word_t N) (L := name_all_word_L) (N := N) (body := name_all_word_body) (K := (kRes (.v .bool) 2)) (name_all_word_Eok N) Go.Proofs.Try.func29 (by kernel_rfl) (by decide) (fun _ hb => (TabOk.cons (name_all_word_ok1 hb) (TabOk.cons (name_all_word_ok3 hb) TabOk.nil))) (fun x y h => by rw [name_all_word_link]; exact h) (kRes_ok (s := (.v .bool)) (m := 2))

abbrev name_Word_R : Type := Bool

noncomputable def name_Word_body : Code := (Go.Proofs.Try.f10.body).getD .skip

noncomputable def name_Word_L : List (List Nat × List Nat) := [([0], [0]), ([0, 1], [2]), ([1, 1], [2])]

noncomputable def name_Word_E (N : Nat) : Env := mkEnv tys noGlob [(29, name_all_word_res N), (30, name_wordRune_res N)] [] [] [] false [] []

theorem name_Word_Eok (N : Nat) : EnvOk Go.Proofs.Try.prog (name_Word_E N) := mkEnv_ok mixed tys_ok (FnsOk.cons (name_all_word_ct N) (FnsOk.cons (name_wordRune_ct N) (FnsOk.nil))) (ItsOk.nil)

noncomputable def name_Word (N : Nat) (s : (List UInt8)) : Option Bool :=
  (name_all_word N s).bind fun y =>
  some y

noncomputable def name_Word_t (N : Nat) : Tab Bool := []

theorem name_Word_link (N : Nat) (x : denS [(0, .v .str)]) : evFX (name_Word_E N) N (name_Word_t N) name_Word_L Go.Proofs.Try.f10 (mkS [(0, .v .str)] 0 x) (kRes (.v .bool) 1) = name_Word N x.1 := by kernel_rfl

noncomputable def name_Word_res (N : Nat) : List A → Res := resOf [(0, .v .str)] (fun x => name_Word N x.1) (oRes (.v .bool) 1)

theorem name_Word_ct (N : Nat) : Contract Go.Proofs.Try.prog noGlob 10 (name_Word_res N) :=
  Contract.of (E := name_Word_E N) (H := name_Word_t N) (L := name_Word_L) (N := N) (body := name_Word_body) (K := (kRes (.v .bool) 1)) (name_Word_Eok N) Go.Proofs.Try.func10 (by kernel_rfl) (by decide) (fun _ hb => TabOk.nil) (fun x y h => by rw [name_Word_link]; exact h) (kRes_ok (s := (.v .bool)) (m := 1))

abbrev varint_Size_R : Type := Int

noncomputable def varint_Size_body : Code := (Go.Proofs.Try.f44.body).getD .skip

noncomputable def varint_Size_L : List (List Nat × List Nat) := [([0], [0]), ([0, 1], [0, 3]), ([0, 0, 1, 1], [0, 3]), ([0, 1, 0, 1, 1], [0, 3]), ([0, 0, 0, 0, 1, 0, 1, 1], [7, 3, 0]), ([1, 0, 0, 0, 1, 0, 1, 1], [3, 0]), ([1, 1, 0, 0, 0, 1, 0, 1, 1], [3]), ([0, 0, 1, 0, 0, 1, 0, 1, 1], [0, 3]), ([0, 1, 0, 0, 1, 0, 1, 1], [0, 3]), ([1, 1, 0, 0, 1, 0, 1, 1], [0, 3]), ([1, 0, 1, 1], [3]), ([0, 1, 1, 1], [2]), ([1, 1, 1, 1], [2])]

noncomputable def varint_Size_E (N : Nat) : Env := mkEnv tys noGlob [] [] [] [] false [] []

theorem varint_Size_Eok (N : Nat) : EnvOk Go.Proofs.Try.prog (varint_Size_E N) := mkEnv_ok mixed tys_ok (FnsOk.nil) (ItsOk.nil)

noncomputable def varint_Size_s1 (N : Nat) (n : Int) (size : Int) (rec : Int → Int → Option Int) (k0 : Int → Option Int) : Option Int :=
  cond (n != (0 : Int))
  (rec (Go.Lift.shrI Go.IntKind.u64 n (7 : Int)) (Go.IntKind.wrap Go.IntKind.i64 (size + (1 : Int))))
  (k0 size)

noncomputable def varint_Size_p1 (N : Nat) (n : Int) (size : Int) (k0 : Int → Option Int) : Option Int :=
  iter (fun (v : (Int × Int)) r => varint_Size_s1 N v.1 v.2 (fun n size => (r (n, size))) k0) N (n, size)

noncomputable def varint_Size_g1 (N : Nat) (i : Unit) (v : (Int × Int)) (r : (Int × Int) → Option Int) (K : Ex → List A → Option Int) : Option Int :=
  varint_Size_s1 N v.1 v.2 (fun n size => (r (n, size))) (fun a0 => (K (.exit 0) (mkS [(3, .v (.int .i64))] 9 (a0, ()))))

noncomputable def varint_Size_h1 (N : Nat) : Hd Int := fun st K => (unS [(0, .v (.int .u64)), (2, .v (.int .i64))] 9 (restr [0, 3] 0 st)).bind fun x => iter (fun v r => varint_Size_g1 N ((fun x => ()) x) v r K) N ((fun x => (x.1, x.2.1)) x)

noncomputable def varint_Size_t1 (N : Nat) : Tab Int := []

theorem varint_Size_ok1 {N : Nat} {c : Ctx} (hb : Base Go.Proofs.Try.prog (varint_Size_E N) c) : CodeOk Go.Proofs.Try.prog c (nodeAt varint_Size_body [0, 1, 0, 1, 1]) (varint_Size_h1 N) :=
  loop_ok (s := [(0, .v (.int .u64)), (2, .v (.int .i64))]) (m := 9) (varint_Size_g1 N) [0, 3] N (fun x => ()) (fun x => (x.1, x.2.1)) (fun i v => (v.1, v.2, ())) (fun _ => rfl) (evN_sound hb N (varint_Size_t1 N) varint_Size_L varint_Size_body TabOk.nil [0, 0, 1, 0, 1, 1] _ rfl) (fun i v r K => by kernel_rfl)

noncomputable def varint_Size (N : Nat) (n : Int) : Option Int :=
  varint_Size_p1 N (Go.Lift.shrI Go.IntKind.u64 n (7 : Int)) (1 : Int)
  (fun size => some size)

noncomputable def varint_Size_t (N : Nat) : Tab Int := [([0, 1, 0, 1, 1], varint_Size_h1 N)]

theorem varint_Size_link (N : Nat) (x : denS [(0, .v (.int .u64))]) : evFX (varint_Size_E N) N (varint_Size_t N) varint_Size_L Go.Proofs.Try.f44 (mkS [(0, .v (.int .u64))] 0 x) (kRes (.v (.int .i64)) 1) = varint_Size N x.1 := by kernel_rfl

noncomputable def varint_Size_res (N : Nat) : List A → Res := resOf [(0, .v (.int .u64))] (fun x => varint_Size N x.1) (oRes (.v (.int .i64)) 1)

theorem varint_Size_ct (N : Nat) : Contract Go.Proofs.Try.prog noGlob 44 (varint_Size_res N) :=
  Contract.of (E := varint_Size_E N) (H := varint_Size_t N) (L := varint_Size_L) (N := N) (body := varint_Size_body) (K := (kRes (.v (.int .i64)) 1)) (varint_Size_Eok N) Go.Proofs.Try.func44 (by kernel_rfl) (by decide) (fun _ hb => (TabOk.cons (varint_Size_ok1 hb) TabOk.nil)) (fun x y h => by rw [varint_Size_link]; exact h) (kRes_ok (s := (.v (.int .i64))) (m := 1))

abbrev varint_Put_R : Type := (List UInt8)

noncomputable def varint_Put_body : Code := (Go.Proofs.Try.f32.body).getD .skip

noncomputable def varint_Put_L : List (List Nat × List Nat) := [([0], [0]), ([0, 1], [3, 0]), ([0, 1, 1], [3, 4, 0]), ([0, 0, 1, 1, 1], [11, 10, 4, 0, 3]), ([0, 1, 0, 1, 1, 1], [11, 10, 4, 0, 3]), ([0, 0, 0, 1, 0, 1, 1, 1], [12, 11, 4, 0, 10, 3]), ([0, 1, 0, 0, 1, 0, 1, 1, 1], [11, 4, 0, 10, 3]), ([1, 0, 1, 0, 0, 1, 0, 1, 1, 1], [4, 3]), ([0, 0, 0, 1, 1, 0, 0, 1, 0, 1, 1, 1], [4, 5, 0, 11, 10, 3]), ([0, 1, 0, 0, 1, 1, 0, 0, 1, 0, 1, 1, 1], [0, 11, 10, 4, 3]), ([1, 1, 0, 0, 1, 1, 0, 0, 1, 0, 1, 1, 1], [11, 10, 4, 0, 3]), ([0, 1, 1, 0, 0, 1, 0, 1, 1, 1], [11, 10, 4, 0, 3]), ([1, 1, 1, 0, 0, 1, 0, 1, 1, 1], [11, 10, 4, 0, 3]), ([1, 0, 1, 1, 1], [4, 3]), ([0, 1, 1, 1, 1], [4]), ([0, 1, 1, 1, 1, 1], [2]), ([1, 1, 1, 1, 1, 1], [2])]

noncomputable def varint_Put_E (N : Nat) : Env := mkEnv tys noGlob [(44, varint_Size_res N)] [(4, (.int .u8))] [] [] false [] []

theorem varint_Put_Eok (N : Nat) : EnvOk Go.Proofs.Try.prog (varint_Put_E N) := mkEnv_ok mixed tys_ok (FnsOk.cons (varint_Size_ct N) (FnsOk.nil)) (ItsOk.nil)

noncomputable def varint_Put_s1 (N : Nat) (size : Int) (x10 : Int) (n : Int) (out : (List Int)) (x11 : Int) (rec : Int → (List Int) → Int → Option (List UInt8)) (k0 : (List Int) → Option (List UInt8)) : Option (List UInt8) :=
  cond (decide (x11 < x10))
  (cond (Go.Lift.inR x11 (List.length out))
    (cond (decide ((Int.toNat x11) < (List.length out)))
      (rec (Go.Lift.shrI Go.IntKind.u64 n (7 : Int)) (List.set out (Int.toNat x11) (Go.Lift.bitsOp Go.BinOp.or Go.IntKind.u8 (Go.IntKind.wrap Go.IntKind.u8 n) (128 : Int))) (Go.IntKind.wrap Go.IntKind.i64 (x11 + (1 : Int))))
      (none))
    (none))
  (k0 out)

noncomputable def varint_Put_p1 (N : Nat) (n : Int) (size : Int) (out : (List Int)) (x10 : Int) (x11 : Int) (k0 : (List Int) → Option (List UInt8)) : Option (List UInt8) :=
  iter (fun (v : (Int × (List Int) × Int)) r => varint_Put_s1 N size x10 v.1 v.2.1 v.2.2 (fun n out x11 => (r (n, out, x11))) k0) N (n, out, x11)

noncomputable def varint_Put_g1 (N : Nat) (i : (Int × Int)) (v : (Int × (List Int) × Int)) (r : (Int × (List Int) × Int) → Option (List UInt8)) (K : Ex → List A → Option (List UInt8)) : Option (List UInt8) :=
  varint_Put_s1 N i.1 i.2 v.1 v.2.1 v.2.2 (fun n out x11 => (r (n, out, x11))) (fun a1 => (K (.exit 0) (mkS [(3, .v (.int .i64)), (0, .row (.int .u8))] 27 (i.1, a1, ()))))

noncomputable def varint_Put_h1 (N : Nat) : Hd (List UInt8) := fun st K => (unS [(0, .v (.int .u64)), (2, .v (.int .i64)), (0, .row (.int .u8)), (5, .v (.int .i64)), (0, .v (.int .i64))] 20 (restr [11, 10, 4, 0, 3] 0 st)).bind fun x => iter (fun v r => varint_Put_g1 N ((fun x => (x.2.1, x.2.2.2.1)) x) v r K) N ((fun x => (x.1, x.2.2.1, x.2.2.2.2.1)) x)

noncomputable def varint_Put_t1 (N : Nat) : Tab (List UInt8) := []

theorem varint_Put_ok1 {N : Nat} {c : Ctx} (hb : Base Go.Proofs.Try.prog (varint_Put_E N) c) : CodeOk Go.Proofs.Try.prog c (nodeAt varint_Put_body [0, 1, 0, 1, 1, 1]) (varint_Put_h1 N) :=
  loop_ok (s := [(0, .v (.int .u64)), (2, .v (.int .i64)), (0, .row (.int .u8)), (5, .v (.int .i64)), (0, .v (.int .i64))]) (m := 20) (varint_Put_g1 N) [11, 10, 4, 0, 3] N (fun x => (x.2.1, x.2.2.2.1)) (fun x => (x.1, x.2.2.1, x.2.2.2.2.1)) (fun i v => (v.1, i.1, v.2.1, i.2, v.2.2, ())) (fun _ => rfl) (evN_sound hb N (varint_Put_t1 N) varint_Put_L varint_Put_body TabOk.nil [0, 0, 1, 0, 1, 1, 1] _ rfl) (fun i v r K => by kernel_rfl)

noncomputable def varint_Put (N : Nat) (n : Int) : Option (List UInt8) :=
  (varint_Size N n).bind fun y =>
  cond (decide (((0 : Int) ≤ y) ∧ ((y ≤ y) ∧ (((y * (1 : Int)) ≤ (281474976710656 : Int)) ∧ (y ≤ (9223372036854775807 : Int))))))
  (varint_Put_p1 N n y (List.replicate (Int.toNat y) (0 : Int)) y (0 : Int)
    (fun out => cond (Go.Lift.inR (Go.IntKind.wrap Go.IntKind.i64 (y - (1 : Int))) (List.length out))
      (cond (decide ((Int.toNat (Go.IntKind.wrap Go.IntKind.i64 (y - (1 : Int)))) < (List.length out)))
        (cond (Go.Lift.inR (Go.IntKind.wrap Go.IntKind.i64 (y - (1 : Int))) (List.length out))
          (cond (decide ((Int.toNat (Go.IntKind.wrap Go.IntKind.i64 (y - (1 : Int)))) < (List.length out)))
            (some (Go.Lift.toStr (List.set out (Int.toNat (Go.IntKind.wrap Go.IntKind.i64 (y - (1 : Int)))) (Go.Lift.bitsOp Go.BinOp.andNot Go.IntKind.u8 (List.getD out (Int.toNat (Go.IntKind.wrap Go.IntKind.i64 (y - (1 : Int)))) (0 : Int)) (128 : Int)))))
            (none))
          (none))
        (none))
      (none)))
  (none)

noncomputable def varint_Put_t (N : Nat) : Tab (List UInt8) := [([0, 1, 0, 1, 1, 1], varint_Put_h1 N)]

theorem varint_Put_link (N : Nat) (x : denS [(0, .v (.int .u64))]) : evFX (varint_Put_E N) N (varint_Put_t N) varint_Put_L Go.Proofs.Try.f32 (mkS [(0, .v (.int .u64))] 0 x) (kRes (.v .str) 1) = varint_Put N x.1 := by kernel_rfl

noncomputable def varint_Put_res (N : Nat) : List A → Res := resOf [(0, .v (.int .u64))] (fun x => varint_Put N x.1) (oRes (.v .str) 1)

theorem varint_Put_ct (N : Nat) : Contract Go.Proofs.Try.prog noGlob 32 (varint_Put_res N) :=
  Contract.of (E := varint_Put_E N) (H := varint_Put_t N) (L := varint_Put_L) (N := N) (body := varint_Put_body) (K := (kRes (.v .str) 1)) (varint_Put_Eok N) Go.Proofs.Try.func32 (by kernel_rfl) (by decide) (fun _ hb => (TabOk.cons (varint_Put_ok1 hb) TabOk.nil)) (fun x y h => by rw [varint_Put_link]; exact h) (kRes_ok (s := (.v .str)) (m := 1))

abbrev field_Num_R : Type := (List UInt8)

noncomputable def field_Num_body : Code := (Go.Proofs.Try.f31.body).getD .skip

noncomputable def field_Num_L : List (List Nat × List Nat) := [([0], [0]), ([0, 1], [2]), ([1, 1], [2])]

noncomputable def field_Num_E (N : Nat) : Env := mkEnv tys noGlob [(32, varint_Put_res N)] [] [] [] false [] []

theorem field_Num_Eok (N : Nat) : EnvOk Go.Proofs.Try.prog (field_Num_E N) := mkEnv_ok mixed tys_ok (FnsOk.cons (varint_Put_ct N) (FnsOk.nil)) (ItsOk.nil)

noncomputable def field_Num (N : Nat) (n : Int) : Option (List UInt8) :=
  (varint_Put N n).bind fun y =>
  some y

noncomputable def field_Num_t (N : Nat) : Tab (List UInt8) := []

theorem field_Num_link (N : Nat) (x : denS [(0, .v (.int .u64))]) : evFX (field_Num_E N) N (field_Num_t N) field_Num_L Go.Proofs.Try.f31 (mkS [(0, .v (.int .u64))] 0 x) (kRes (.v .str) 1) = field_Num N x.1 := by kernel_rfl

noncomputable def field_Num_res (N : Nat) : List A → Res := resOf [(0, .v (.int .u64))] (fun x => field_Num N x.1) (oRes (.v .str) 1)

theorem field_Num_ct (N : Nat) : Contract Go.Proofs.Try.prog noGlob 31 (field_Num_res N) :=
  Contract.of (E := field_Num_E N) (H := field_Num_t N) (L := field_Num_L) (N := N) (body := field_Num_body) (K := (kRes (.v .str) 1)) (field_Num_Eok N) Go.Proofs.Try.func31 (by kernel_rfl) (by decide) (fun _ hb => TabOk.nil) (fun x y h => by rw [field_Num_link]; exact h) (kRes_ok (s := (.v .str)) (m := 1))

abbrev field_Text_R : Type := (List UInt8)

noncomputable def field_Text_body : Code := (Go.Proofs.Try.f12.body).getD .skip

noncomputable def field_Text_L : List (List Nat × List Nat) := [([0], [0]), ([0, 1], [2]), ([1, 1], [2])]

noncomputable def field_Text_E (N : Nat) : Env := mkEnv tys noGlob [(32, varint_Put_res N)] [] [] [] false [] []

theorem field_Text_Eok (N : Nat) : EnvOk Go.Proofs.Try.prog (field_Text_E N) := mkEnv_ok mixed tys_ok (FnsOk.cons (varint_Put_ct N) (FnsOk.nil)) (ItsOk.nil)

noncomputable def field_Text (N : Nat) (s : (List UInt8)) : Option (List UInt8) :=
  (varint_Put N (Go.IntKind.wrap Go.IntKind.u64 (((List.length s) : Nat) : Int))).bind fun y =>
  cond (decide (((List.length y) + (List.length s)) ≤ 9223372036854775807))
  (some (y ++ s))
  (none)

noncomputable def field_Text_t (N : Nat) : Tab (List UInt8) := []

theorem field_Text_link (N : Nat) (x : denS [(0, .v .str)]) : evFX (field_Text_E N) N (field_Text_t N) field_Text_L Go.Proofs.Try.f12 (mkS [(0, .v .str)] 0 x) (kRes (.v .str) 1) = field_Text N x.1 := by kernel_rfl

noncomputable def field_Text_res (N : Nat) : List A → Res := resOf [(0, .v .str)] (fun x => field_Text N x.1) (oRes (.v .str) 1)

theorem field_Text_ct (N : Nat) : Contract Go.Proofs.Try.prog noGlob 12 (field_Text_res N) :=
  Contract.of (E := field_Text_E N) (H := field_Text_t N) (L := field_Text_L) (N := N) (body := field_Text_body) (K := (kRes (.v .str) 1)) (field_Text_Eok N) Go.Proofs.Try.func12 (by kernel_rfl) (by decide) (fun _ hb => TabOk.nil) (fun x y h => by rw [field_Text_link]; exact h) (kRes_ok (s := (.v .str)) (m := 1))

/-- a world behind another one, in which nothing that was there has turned -/
def Calm (w : World) (S : Hp) (w' : World) : Prop := ∃ S', WF w (fun _ => False) w' ∧ Lift.Sub S S' ∧ Lift.Sub S' (hp w') ∧ ∀ k, S' k ≠ none → S k ≠ none ∨ w.heap.size ≤ k

theorem Calm.refl {w : World} {S : Hp} (h : Lift.Sub S (hp w)) : Calm w S w := ⟨S, WF.refl _ _, Lift.Sub.refl S, h, fun _ h => .inl h⟩

theorem Calm.cell {w w' : World} {S : Hp} {p : Addr} {v : Value} (h : Calm w S w') (hc : w.cell? p = some v) : w'.cell? p = some v := by
  obtain ⟨S', h1, _⟩ := h
  have hlt : p.block < w.heap.size := by
    cases hh : w.heap[p.block]? with
    | none => simp [World.cell?, hh] at hc
    | some o => exact (Array.getElem?_eq_some_iff.1 hh).1
  have := h1.same p.block hlt (fun h => h)
  simp only [World.cell?] at hc ⊢
  rw [this]
  exact hc

theorem Calm.next {w w1 w2 : World} {S : Hp} (h : Calm w S w1) (hk : ∀ S1, Lift.Sub S1 (hp w1) → Calm w1 S1 w2) : Calm w S w2 := by
  obtain ⟨S1, h1, h2, h3, h4⟩ := h
  obtain ⟨S2, k1, k2, k3, k4⟩ := hk S1 h3
  refine ⟨S2, h1.trans k1 (fun k hk => .inl hk), h2.trans k2, k3, fun k hk => ?_⟩
  rcases k4 k hk with h | h
  · exact h4 k h
  · exact .inr (Nat.le_trans h1.size h)

theorem calm_of {w w' : World} {S : Hp} {args : List A} {vals : List Value} {r : A} {outs : List A} {e : Ending}
    (h : Lift.Ends w S args vals (fun _ => []) r outs e w') : ∃ v o S', e = .returned v ∧ ARel (hp w') S' (fun _ => undef) r v o ∧ Calm w S w' := by
  obtain ⟨v, S', o, ob', rfl, hwf, hSS, hSw, hnew, ⟨hr, _⟩, _⟩ := h
  refine ⟨v, o, S', rfl, hr, S', ⟨hwf.size, fun k hk _ => hwf.same k hk (by rintro ⟨i, hi⟩; cases hi), hwf.tape, hwf.os, hwf.output⟩, hSS, hSw, fun k hk => ?_⟩
  rcases hnew k hk with h | ⟨i, hi⟩ | h
  · exact .inl h
  · cases hi
  · exact .inr h

theorem args_plain {w : World} {S : Hp} (l : List (A × Value)) (hl : ∀ p ∈ l, ARel (hp w) S (fun _ => undef) p.1 p.2 [] ∧ p.1.refs = []) :
    ArgsRel (hp w) S (l.map (·.1)) (l.map (·.2)) (fun _ => []) := by
  refine ⟨by simp, fun i y hy => ?_, fun _ _ => rfl, (fun i j b hb => by cases hb), fun _ => .nil, (fun i b hb => by cases hb)⟩
  simp only [List.getElem?_map] at hy ⊢
  cases hp : l[i]? with
  | none => rw [hp] at hy; cases hy
  | some p =>
    rw [hp] at hy
    cases hy
    have := hl p (List.mem_of_getElem? hp)
    exact ⟨⟨p.2, rfl, this.1⟩, this.2⟩

theorem num_bytes (N : Nat) {w : World} {S : Hp} (hS : Lift.Sub S (hp w)) {n : Int} {s : List UInt8} (hy : field_Num N n = some s) :
    Calls Try.prog 31 #[.int .u64 n] w fun r w' => r = .returned (.string ⟨⟨s⟩⟩) ∧ Calm w S w' := by
  refine ((field_Num_ct N).2 w S _ _ _ (args_plain [(.v (.int .u64) n, .int .u64 n)] (fun p hp => by rw [List.mem_singleton.1 hp]; exact ⟨⟨VR.int, rfl⟩, rfl⟩)) hS (glob_none S) _ hy).mono ?_
  intro e w' he
  obtain ⟨v, o, S', rfl, hr, hc⟩ := calm_of he
  exact ⟨by rw [VR.str_inv hr.1], hc⟩

theorem text_bytes (N : Nat) {w : World} {S : Hp} (hS : Lift.Sub S (hp w)) {t s : List UInt8} (hy : field_Text N t = some s) :
    Calls Try.prog 12 #[.string ⟨⟨t⟩⟩] w fun r w' => r = .returned (.string ⟨⟨s⟩⟩) ∧ Calm w S w' := by
  refine ((field_Text_ct N).2 w S _ _ _ (args_plain [(.v .str t, .string ⟨⟨t⟩⟩)] (fun p hp => by rw [List.mem_singleton.1 hp]; exact ⟨⟨VR.str, rfl⟩, rfl⟩)) hS (glob_none S) _ hy).mono ?_
  intro e w' he
  obtain ⟨v, o, S', rfl, hr, hc⟩ := calm_of he
  exact ⟨by rw [VR.str_inv hr.1], hc⟩

theorem word_bool (N : Nat) {w : World} {S : Hp} (hS : Lift.Sub S (hp w)) {t : List UInt8} {b : Bool} (hy : name_Word N t = some b) :
    Calls Try.prog 10 #[.string ⟨⟨t⟩⟩] w fun r w' => r = .returned (.bool b) ∧ Calm w S w' := by
  refine ((name_Word_ct N).2 w S _ _ _ (args_plain [(.v .str t, .string ⟨⟨t⟩⟩)] (fun p hp => by rw [List.mem_singleton.1 hp]; exact ⟨⟨VR.str, rfl⟩, rfl⟩)) hS (glob_none S) _ hy).mono ?_
  intro e w' he
  obtain ⟨v, o, S', rfl, hr, hc⟩ := calm_of he
  exact ⟨by rw [VR.bool_inv hr.1], hc⟩

theorem bytes_add (a b : List UInt8) : (⟨⟨a⟩⟩ : ByteArray) ++ ⟨⟨b⟩⟩ = ⟨⟨a ++ b⟩⟩ := by
  apply ByteArray.ext
  rw [ByteArray.data_append]
  apply Array.toList_inj.1
  simp

theorem puts_bad1 (N : Nat) {w : World} {S : Hp} {b c : Nat} {k e n : Int} (hS : Lift.Sub S (hp w))
    (c0 : w.cell? ⟨c, 0, none⟩ = some (.pointer (some ⟨b, 1, none⟩))) (c1 : w.cell? ⟨c, 1, none⟩ = some (.pointer (some ⟨b, 2, none⟩))) (c2 : w.cell? ⟨c, 2, none⟩ = some (.pointer (some ⟨b, 3, none⟩)))
    (b1 : w.cell? ⟨b, 1, none⟩ = some (.int .i64 k)) (b2 : w.cell? ⟨b, 2, none⟩ = some (.int .i64 e)) (b3 : w.cell? ⟨b, 3, none⟩ = some (.int .i64 n))
    (hk : k < 0 ∨ 1099511627776 < k) :
    Calls Try.prog 11 #[.slice (some ⟨c, 0, none⟩) 3 3] w fun r w' => r = .returned (.tuple #[.string ⟨⟨[]⟩⟩, .bool false]) ∧ Calm w S w' := by
  have HM := Go.Lib.hid (Calm.refl hS)
  go_enter Try.func11, Try.ntmps11
  go_wp2
  refine wp_loop_rounds 4 ?_
  rw [rounds_succ]
  rcases hk with hb | hb
  all_goals
    go_wp2
    first | go_ret | go_ret2
    exact ⟨rfl, HM.out⟩

theorem puts_bad2 (N : Nat) {w : World} {S : Hp} {b c : Nat} {k e n : Int} {a1 : List UInt8} (hS : Lift.Sub S (hp w))
    (c0 : w.cell? ⟨c, 0, none⟩ = some (.pointer (some ⟨b, 1, none⟩))) (c1 : w.cell? ⟨c, 1, none⟩ = some (.pointer (some ⟨b, 2, none⟩))) (c2 : w.cell? ⟨c, 2, none⟩ = some (.pointer (some ⟨b, 3, none⟩)))
    (b1 : w.cell? ⟨b, 1, none⟩ = some (.int .i64 k)) (b2 : w.cell? ⟨b, 2, none⟩ = some (.int .i64 e)) (b3 : w.cell? ⟨b, 3, none⟩ = some (.int .i64 n))
    (hk : 0 ≤ k) (hk' : k ≤ 1099511627776) (h1 : field_Num N k = some a1)
    (he : e < 0 ∨ 1099511627776 < e) (l1 : a1.length ≤ 9223372036854775807) :
    Calls Try.prog 11 #[.slice (some ⟨c, 0, none⟩) 3 3] w fun r w' => r = .returned (.tuple #[.string ⟨⟨[]⟩⟩, .bool false]) ∧ Calm w S w' := by
  have H1 : ∀ w1, Calm w S w1 → Calls Try.prog 31 #[.int .u64 k] w1 fun r w' => r = .returned (.string ⟨⟨a1⟩⟩) ∧ Calm w S w' := fun w1 ⟨S1, k1, k2, k3, k4⟩ =>
    (num_bytes N k3 h1).mono (by rintro r w' ⟨rfl, S2, l1, l2, l3, l4⟩; exact ⟨rfl, S2, k1.trans l1 (fun _ h => .inl h), k2.trans l2, l3, fun k hk => (l4 k hk).elim (k4 k) (fun h => .inr (Nat.le_trans k1.size h))⟩)
  have G1 := H1 w (Calm.refl hS)
  go_enter Try.func11, Try.ntmps11
  go_wp2
  refine wp_loop_rounds 4 ?_
  rw [rounds_succ]
  go_wp2_with (go_at_call 31; refine G1.mono ?_; rintro r w1 ⟨rfl, hq⟩; have q10 := hq.cell c0; have q11 := hq.cell c1; have q12 := hq.cell c2; have q13 := hq.cell b1; have q14 := hq.cell b2; have q15 := hq.cell b3; have HM := Go.Lib.hid hq; clear G1 hq)
  rw [rounds_succ]
  rcases he with hb | hb
  all_goals
    go_wp2
    first | go_ret | go_ret2
    exact ⟨rfl, HM.out⟩

theorem puts_bad3 (N : Nat) {w : World} {S : Hp} {b c : Nat} {k e n : Int} {a1 a2 : List UInt8} (hS : Lift.Sub S (hp w))
    (c0 : w.cell? ⟨c, 0, none⟩ = some (.pointer (some ⟨b, 1, none⟩))) (c1 : w.cell? ⟨c, 1, none⟩ = some (.pointer (some ⟨b, 2, none⟩))) (c2 : w.cell? ⟨c, 2, none⟩ = some (.pointer (some ⟨b, 3, none⟩)))
    (b1 : w.cell? ⟨b, 1, none⟩ = some (.int .i64 k)) (b2 : w.cell? ⟨b, 2, none⟩ = some (.int .i64 e)) (b3 : w.cell? ⟨b, 3, none⟩ = some (.int .i64 n))
    (hk : 0 ≤ k) (hk' : k ≤ 1099511627776) (h1 : field_Num N k = some a1)
    (he : 0 ≤ e) (he' : e ≤ 1099511627776) (h2 : field_Num N e = some a2)
    (hn : n < 0 ∨ 1099511627776 < n) (l1 : a1.length ≤ 9223372036854775807) (l2 : a1.length + a2.length ≤ 9223372036854775807) :
    Calls Try.prog 11 #[.slice (some ⟨c, 0, none⟩) 3 3] w fun r w' => r = .returned (.tuple #[.string ⟨⟨[]⟩⟩, .bool false]) ∧ Calm w S w' := by
  have H1 : ∀ w1, Calm w S w1 → Calls Try.prog 31 #[.int .u64 k] w1 fun r w' => r = .returned (.string ⟨⟨a1⟩⟩) ∧ Calm w S w' := fun w1 ⟨S1, k1, k2, k3, k4⟩ =>
    (num_bytes N k3 h1).mono (by rintro r w' ⟨rfl, S2, l1, l2, l3, l4⟩; exact ⟨rfl, S2, k1.trans l1 (fun _ h => .inl h), k2.trans l2, l3, fun k hk => (l4 k hk).elim (k4 k) (fun h => .inr (Nat.le_trans k1.size h))⟩)
  have H2 : ∀ w1, Calm w S w1 → Calls Try.prog 31 #[.int .u64 e] w1 fun r w' => r = .returned (.string ⟨⟨a2⟩⟩) ∧ Calm w S w' := fun w1 ⟨S1, k1, k2, k3, k4⟩ =>
    (num_bytes N k3 h2).mono (by rintro r w' ⟨rfl, S2, l1, l2, l3, l4⟩; exact ⟨rfl, S2, k1.trans l1 (fun _ h => .inl h), k2.trans l2, l3, fun k hk => (l4 k hk).elim (k4 k) (fun h => .inr (Nat.le_trans k1.size h))⟩)
  have G1 := H1 w (Calm.refl hS)
  go_enter Try.func11, Try.ntmps11
  go_wp2
  refine wp_loop_rounds 4 ?_
  rw [rounds_succ]
  go_wp2_with (go_at_call 31; refine G1.mono ?_; rintro r w1 ⟨rfl, hq⟩; have q10 := hq.cell c0; have q11 := hq.cell c1; have q12 := hq.cell c2; have q13 := hq.cell b1; have q14 := hq.cell b2; have q15 := hq.cell b3; have G2 := H2 w1 hq; have HM := Go.Lib.hid hq; clear G1 hq)
  rw [rounds_succ]
  go_wp2_with (go_at_call 31; refine G2.mono ?_; rintro r w2 ⟨rfl, hq⟩; have q20 := hq.cell c0; have q21 := hq.cell c1; have q22 := hq.cell c2; have q23 := hq.cell b1; have q24 := hq.cell b2; have q25 := hq.cell b3; clear HM; have HM := Go.Lib.hid hq; clear G2 hq)
  rw [rounds_succ]
  rcases hn with hb | hb
  all_goals
    go_wp2
    first | go_ret | go_ret2
    exact ⟨rfl, HM.out⟩

theorem puts_all (N : Nat) {w : World} {S : Hp} {b c : Nat} {k e n : Int} {a1 a2 a3 : List UInt8} (hS : Lift.Sub S (hp w))
    (c0 : w.cell? ⟨c, 0, none⟩ = some (.pointer (some ⟨b, 1, none⟩))) (c1 : w.cell? ⟨c, 1, none⟩ = some (.pointer (some ⟨b, 2, none⟩))) (c2 : w.cell? ⟨c, 2, none⟩ = some (.pointer (some ⟨b, 3, none⟩)))
    (b1 : w.cell? ⟨b, 1, none⟩ = some (.int .i64 k)) (b2 : w.cell? ⟨b, 2, none⟩ = some (.int .i64 e)) (b3 : w.cell? ⟨b, 3, none⟩ = some (.int .i64 n))
    (hk : 0 ≤ k) (hk' : k ≤ 1099511627776) (h1 : field_Num N k = some a1)
    (he : 0 ≤ e) (he' : e ≤ 1099511627776) (h2 : field_Num N e = some a2)
    (hn : 0 ≤ n) (hn' : n ≤ 1099511627776) (h3 : field_Num N n = some a3) (l1 : a1.length ≤ 9223372036854775807) (l2 : a1.length + a2.length ≤ 9223372036854775807) (l3 : a1.length + a2.length + a3.length ≤ 9223372036854775807) :
    Calls Try.prog 11 #[.slice (some ⟨c, 0, none⟩) 3 3] w fun r w' => r = .returned (.tuple #[.string ⟨⟨a1 ++ a2 ++ a3⟩⟩, .bool true]) ∧ Calm w S w' := by
  have H1 : ∀ w1, Calm w S w1 → Calls Try.prog 31 #[.int .u64 k] w1 fun r w' => r = .returned (.string ⟨⟨a1⟩⟩) ∧ Calm w S w' := fun w1 ⟨S1, k1, k2, k3, k4⟩ =>
    (num_bytes N k3 h1).mono (by rintro r w' ⟨rfl, S2, l1, l2, l3, l4⟩; exact ⟨rfl, S2, k1.trans l1 (fun _ h => .inl h), k2.trans l2, l3, fun k hk => (l4 k hk).elim (k4 k) (fun h => .inr (Nat.le_trans k1.size h))⟩)
  have H2 : ∀ w1, Calm w S w1 → Calls Try.prog 31 #[.int .u64 e] w1 fun r w' => r = .returned (.string ⟨⟨a2⟩⟩) ∧ Calm w S w' := fun w1 ⟨S1, k1, k2, k3, k4⟩ =>
    (num_bytes N k3 h2).mono (by rintro r w' ⟨rfl, S2, l1, l2, l3, l4⟩; exact ⟨rfl, S2, k1.trans l1 (fun _ h => .inl h), k2.trans l2, l3, fun k hk => (l4 k hk).elim (k4 k) (fun h => .inr (Nat.le_trans k1.size h))⟩)
  have H3 : ∀ w1, Calm w S w1 → Calls Try.prog 31 #[.int .u64 n] w1 fun r w' => r = .returned (.string ⟨⟨a3⟩⟩) ∧ Calm w S w' := fun w1 ⟨S1, k1, k2, k3, k4⟩ =>
    (num_bytes N k3 h3).mono (by rintro r w' ⟨rfl, S2, l1, l2, l3, l4⟩; exact ⟨rfl, S2, k1.trans l1 (fun _ h => .inl h), k2.trans l2, l3, fun k hk => (l4 k hk).elim (k4 k) (fun h => .inr (Nat.le_trans k1.size h))⟩)
  have G1 := H1 w (Calm.refl hS)
  go_enter Try.func11, Try.ntmps11
  go_wp2
  refine wp_loop_rounds 4 ?_
  rw [rounds_succ]
  go_wp2_with (go_at_call 31; refine G1.mono ?_; rintro r w1 ⟨rfl, hq⟩; have q10 := hq.cell c0; have q11 := hq.cell c1; have q12 := hq.cell c2; have q13 := hq.cell b1; have q14 := hq.cell b2; have q15 := hq.cell b3; have G2 := H2 w1 hq; have HM := Go.Lib.hid hq; clear G1 hq)
  rw [rounds_succ]
  go_wp2_with (go_at_call 31; refine G2.mono ?_; rintro r w2 ⟨rfl, hq⟩; have q20 := hq.cell c0; have q21 := hq.cell c1; have q22 := hq.cell c2; have q23 := hq.cell b1; have q24 := hq.cell b2; have q25 := hq.cell b3; have G3 := H3 w2 hq; clear HM; have HM := Go.Lib.hid hq; clear G2 hq)
  rw [rounds_succ]
  go_wp2_with (go_at_call 31; refine G3.mono ?_; rintro r w3 ⟨rfl, hq⟩; have q30 := hq.cell c0; have q31 := hq.cell c1; have q32 := hq.cell c2; have q33 := hq.cell b1; have q34 := hq.cell b2; have q35 := hq.cell b3; clear HM; have HM := Go.Lib.hid hq; clear G3 hq)
  rw [rounds_succ]
  go_wp2
  first | go_ret | go_ret2
  refine ⟨?_, HM.out⟩
  have z : (⟨#[]⟩ : ByteArray) = ⟨⟨[]⟩⟩ := rfl
  simp [z, bytes_add]

noncomputable def rootid_nums (N : Nat) : List Int → List UInt8 → Option (List UInt8 × Bool)
  | [], out => some (out, true)
  | n :: l, out => cond (decide (n < 0) || decide (1099511627776 < n)) (some ([], false))
    ((field_Num N n).bind fun a => cond (decide (out.length + a.length ≤ 9223372036854775807)) (rootid_nums N l (out ++ a)) none)

theorem nums_call (N : Nat) {w : World} {S : Hp} {b c : Nat} {k e n : Int} {out : List UInt8} {ok : Bool} (hS : Lift.Sub S (hp w))
    (c0 : w.cell? ⟨c, 0, none⟩ = some (.pointer (some ⟨b, 1, none⟩))) (c1 : w.cell? ⟨c, 1, none⟩ = some (.pointer (some ⟨b, 2, none⟩))) (c2 : w.cell? ⟨c, 2, none⟩ = some (.pointer (some ⟨b, 3, none⟩)))
    (b1 : w.cell? ⟨b, 1, none⟩ = some (.int .i64 k)) (b2 : w.cell? ⟨b, 2, none⟩ = some (.int .i64 e)) (b3 : w.cell? ⟨b, 3, none⟩ = some (.int .i64 n))
    (h : rootid_nums N [k, e, n] [] = some (out, ok)) :
    Calls Try.prog 11 #[.slice (some ⟨c, 0, none⟩) 3 3] w fun r w' => r = .returned (.tuple #[.string ⟨⟨out⟩⟩, .bool ok]) ∧ Calm w S w' := by
  have dec : ∀ x : Int, (decide (x < 0) || decide (1099511627776 < x)) = true → x < 0 ∨ 1099511627776 < x := fun x h => by
    rcases Bool.or_eq_true _ _ ▸ h with h | h
    · exact .inl (of_decide_eq_true h)
    · exact .inr (of_decide_eq_true h)
  have dec' : ∀ x : Int, (decide (x < 0) || decide (1099511627776 < x)) = false → 0 ≤ x ∧ x ≤ 1099511627776 := fun x h => by
    have := Bool.or_eq_false_iff.1 h
    have h1 := of_decide_eq_false this.1
    have h2 := of_decide_eq_false this.2
    exact ⟨by omega, by omega⟩
  unfold rootid_nums at h
  cases g1 : (decide (k < 0) || decide (1099511627776 < k)) with
  | true =>
    rw [g1] at h
    cases h
    exact puts_bad1 N hS c0 c1 c2 b1 b2 b3 (dec k g1)
  | false =>
    rw [g1, cond_false] at h
    cases h1 : field_Num N k with
    | none => rw [h1] at h; cases h
    | some a1 =>
    rw [h1, Option.bind_some] at h
    by_cases l1 : ([] : List UInt8).length + a1.length ≤ 9223372036854775807
    · rw [decide_eq_true l1, cond_true] at h
      rw [List.nil_append] at h
      rw [List.length_nil, Nat.zero_add] at l1
      unfold rootid_nums at h
      cases g2 : (decide (e < 0) || decide (1099511627776 < e)) with
      | true =>
        rw [g2] at h
        cases h
        exact puts_bad2 N hS c0 c1 c2 b1 b2 b3 (dec' k g1).1 (dec' k g1).2 h1 (dec e g2) l1
      | false =>
        rw [g2, cond_false] at h
        cases h2 : field_Num N e with
        | none => rw [h2] at h; cases h
        | some a2 =>
        rw [h2, Option.bind_some] at h
        by_cases l2 : a1.length + a2.length ≤ 9223372036854775807
        · rw [decide_eq_true l2, cond_true] at h
          unfold rootid_nums at h
          cases g3 : (decide (n < 0) || decide (1099511627776 < n)) with
          | true =>
            rw [g3] at h
            cases h
            exact puts_bad3 N hS c0 c1 c2 b1 b2 b3 (dec' k g1).1 (dec' k g1).2 h1 (dec' e g2).1 (dec' e g2).2 h2 (dec n g3) l1 l2
          | false =>
            rw [g3, cond_false] at h
            cases h3 : field_Num N n with
            | none => rw [h3] at h; cases h
            | some a3 =>
            rw [h3, Option.bind_some] at h
            by_cases l3 : (a1 ++ a2).length + a3.length ≤ 9223372036854775807
            · rw [decide_eq_true l3, cond_true] at h
              unfold rootid_nums at h
              cases h
              exact puts_all N hS c0 c1 c2 b1 b2 b3 (dec' k g1).1 (dec' k g1).2 h1 (dec' e g2).1 (dec' e g2).2 h2 (dec' n g3).1 (dec' n g3).2 h3 l1 l2 (by rw [List.length_append] at l3; exact l3)
            · rw [decide_eq_false l3] at h
              cases h
        · rw [decide_eq_false l2] at h
          cases h
    · rw [decide_eq_false l1] at h
      cases h

theorem calm_alloc {w : World} {S : Hp} (hS : Lift.Sub S (hp w)) (cs : Array Value) (E : Nat) : Calm w S (w.alloc (.cells cs E)) := by
  have hh : (w.alloc (.cells cs E)).heap = w.heap.push (.cells cs E (0, 0)) := rfl
  have hk : ∀ k, k < w.heap.size → (w.alloc (.cells cs E)).heap[k]? = w.heap[k]? := fun k hk => by
    rw [hh, Array.getElem?_push, if_neg (by omega)]
  refine ⟨S, ⟨?_, fun k h1 _ => hk k h1, rfl, rfl, rfl⟩, Lift.Sub.refl S, fun k o ho => ?_, fun _ h => .inl h⟩
  · rw [hh, Array.size_push]; omega
  · have := hS k o ho
    simp only [hp] at this ⊢
    rw [hk k (Array.getElem?_eq_some_iff.1 this).1]
    exact this

theorem alloc_at {w : World} {cs : Array Value} {E i : Nat} {v : Value} (h : cs[i]? = some v) : (w.alloc (.cells cs E)).cell? ⟨w.heap.size, i, none⟩ = some v := by
  have hh : (w.alloc (.cells cs E)).heap = w.heap.push (.cells cs E (0, 0)) := rfl
  simp [World.cell?, hh, h]

abbrev RootT : T := .pair .str (.pair (.int .i64) (.pair (.int .i64) (.pair (.int .i64) .unit)))

theorem put_word (N : Nat) {w : World} {S : Hp} {t : List UInt8} {k e n : Int} (hS : Lift.Sub S (hp w)) (hw : name_Word N t = some false) :
    Calls Try.prog 6 #[.agg #[.string ⟨⟨t⟩⟩, .int .i64 k, .int .i64 e, .int .i64 n]] w fun r w' => r = .returned (.tuple #[.string ⟨⟨[]⟩⟩, .int .i64 4]) ∧ Calm w S w' := by
  have hc := calm_alloc hS #[.string ⟨⟨t⟩⟩, .int .i64 k, .int .i64 e, .int .i64 n] 23
  have b0 : (w.alloc (.cells #[.string ⟨⟨t⟩⟩, .int .i64 k, .int .i64 e, .int .i64 n] 23)).cell? ⟨w.heap.size, 0, none⟩ = some (.string ⟨⟨t⟩⟩) := alloc_at rfl
  have HW : Calls Try.prog 10 #[.string ⟨⟨t⟩⟩] (w.alloc (.cells #[.string ⟨⟨t⟩⟩, .int .i64 k, .int .i64 e, .int .i64 n] 23)) fun r w' => r = .returned (.bool false) ∧ Calm w S w' := by
    obtain ⟨S1, g1, g2, g3, g4⟩ := hc
    refine (word_bool N g3 hw).mono ?_
    rintro r w' ⟨rfl, S2, l1, l2, l3, l4⟩
    exact ⟨rfl, S2, g1.trans l1 (fun _ h => .inl h), g2.trans l2, l3, fun k hk => (l4 k hk).elim (g4 k) (fun h => .inr (Nat.le_trans g1.size h))⟩
  clear hc
  go_enter Try.func6, Try.ntmps6
  go_wp2_with (go_at_call 10; refine HW.mono ?_; rintro r w2 ⟨rfl, hq⟩; have HM := Go.Lib.hid hq; clear HW hq)
  first | go_ret | go_ret2
  exact ⟨rfl, HM.out⟩

theorem put_on (N : Nat) {w : World} {S : Hp} {t out : List UInt8} {k e n : Int} {ok : Bool} (hS : Lift.Sub S (hp w)) (hw : name_Word N t = some true) (hn : rootid_nums N [k, e, n] [] = some (out, ok))
    {x : List UInt8} {f : Int} (hx : ok = false ∧ x = [] ∧ f = 3 ∨ ok = true ∧ f = 0 ∧ ∃ y, field_Text N t = some y ∧ x = [1] ++ y ++ out ∧ 1 + y.length ≤ 9223372036854775807 ∧ 1 + y.length + out.length ≤ 9223372036854775807) :
    Calls Try.prog 6 #[.agg #[.string ⟨⟨t⟩⟩, .int .i64 k, .int .i64 e, .int .i64 n]] w fun r w' => r = .returned (.tuple #[.string ⟨⟨x⟩⟩, .int .i64 f]) ∧ Calm w S w' := by
  have hc := calm_alloc hS #[.string ⟨⟨t⟩⟩, .int .i64 k, .int .i64 e, .int .i64 n] 23
  have b0 : (w.alloc (.cells #[.string ⟨⟨t⟩⟩, .int .i64 k, .int .i64 e, .int .i64 n] 23)).cell? ⟨w.heap.size, 0, none⟩ = some (.string ⟨⟨t⟩⟩) := alloc_at rfl
  have b1 : (w.alloc (.cells #[.string ⟨⟨t⟩⟩, .int .i64 k, .int .i64 e, .int .i64 n] 23)).cell? ⟨w.heap.size, 1, none⟩ = some (.int .i64 k) := alloc_at rfl
  have b2 : (w.alloc (.cells #[.string ⟨⟨t⟩⟩, .int .i64 k, .int .i64 e, .int .i64 n] 23)).cell? ⟨w.heap.size, 2, none⟩ = some (.int .i64 e) := alloc_at rfl
  have b3 : (w.alloc (.cells #[.string ⟨⟨t⟩⟩, .int .i64 k, .int .i64 e, .int .i64 n] 23)).cell? ⟨w.heap.size, 3, none⟩ = some (.int .i64 n) := alloc_at rfl
  obtain ⟨W, hW⟩ : ∃ W, W = w.alloc (.cells #[.string ⟨⟨t⟩⟩, .int .i64 k, .int .i64 e, .int .i64 n] 23) := ⟨_, rfl⟩
  rw [← hW] at hc b0 b1 b2 b3
  obtain ⟨S1, g1, g2, g3, g4⟩ := hc
  have back : ∀ w', Calm W S1 w' → Calm w S w' := fun w' ⟨S2, l1, l2, l3, l4⟩ => ⟨S2, g1.trans l1 (fun _ h => .inl h), g2.trans l2, l3, fun k hk => (l4 k hk).elim (g4 k) (fun h => .inr (Nat.le_trans g1.size h))⟩
  have HW := word_bool N g3 hw
  have HN : ∀ w2, Calm W S1 w2 → Calls Try.prog 11 #[.slice (some ⟨w2.heap.size, 0, none⟩) 3 3] (w2.alloc (.cells #[.pointer (some ⟨w.heap.size, 1, none⟩), .pointer (some ⟨w.heap.size, 2, none⟩), .pointer (some ⟨w.heap.size, 3, none⟩)] 35))
      fun r w' => r = .returned (.tuple #[.string ⟨⟨out⟩⟩, .bool ok]) ∧ Calm W S1 w' := fun w2 hq => by
    have hq' := hq
    obtain ⟨S2, l1, l2, l3, l4⟩ := hq
    have ha := calm_alloc l3 #[.pointer (some ⟨w.heap.size, 1, none⟩), .pointer (some ⟨w.heap.size, 2, none⟩), .pointer (some ⟨w.heap.size, 3, none⟩)] 35
    have hb : Calm W S1 (w2.alloc (.cells #[.pointer (some ⟨w.heap.size, 1, none⟩), .pointer (some ⟨w.heap.size, 2, none⟩), .pointer (some ⟨w.heap.size, 3, none⟩)] 35)) := by
      obtain ⟨S3, m1, m2, m3, m4⟩ := ha
      exact ⟨S3, l1.trans m1 (fun _ h => .inl h), l2.trans m2, m3, fun k hk => (m4 k hk).elim (l4 k) (fun h => .inr (Nat.le_trans l1.size h))⟩
    have hb' := hb
    obtain ⟨S3, m1, m2, m3, m4⟩ := hb
    refine (nums_call N m3 (alloc_at rfl) (alloc_at rfl) (alloc_at rfl) (hb'.cell b1) (hb'.cell b2) (hb'.cell b3) hn).mono ?_
    rintro r w' ⟨rfl, S4, n1, n2, n3, n4⟩
    exact ⟨rfl, S4, m1.trans n1 (fun _ h => .inl h), m2.trans n2, n3, fun k hk => (n4 k hk).elim (m4 k) (fun h => .inr (Nat.le_trans m1.size h))⟩
  have HC : ∀ w2, Calm W S1 w2 → w2.cell? ⟨w.heap.size, 0, none⟩ = some (.string ⟨⟨t⟩⟩) := fun w2 hq => hq.cell b0
  rcases hx with ⟨rfl, rfl, rfl⟩ | ⟨rfl, rfl, y, hy, rfl, q1, q2⟩
  · subst hW
    go_enter Try.func6, Try.ntmps6
    go_wp2_with (first
      | (go_at_call 10; refine HW.mono ?_; rintro r w2 ⟨rfl, hq⟩; have hn2 := HN w2 hq; clear HW HN hq)
      | (go_at_call 11; refine hn2.mono ?_; rintro r w3 ⟨rfl, hq3⟩; have HM := Go.Lib.hid hq3; clear hn2 hq3))
    first | go_ret | go_ret2
    exact ⟨rfl, back _ HM.out⟩
  · have HX : ∀ w2, Calm W S1 w2 → Calls Try.prog 12 #[.string ⟨⟨t⟩⟩] w2 fun r w' => r = .returned (.string ⟨⟨y⟩⟩) ∧ Calm W S1 w' := fun w2 ⟨S2, l1, l2, l3, l4⟩ => by
      refine (text_bytes N l3 hy).mono ?_
      rintro r w' ⟨rfl, S4, n1, n2, n3, n4⟩
      exact ⟨rfl, S4, l1.trans n1 (fun _ h => .inl h), l2.trans n2, n3, fun k hk => (n4 k hk).elim (l4 k) (fun h => .inr (Nat.le_trans l1.size h))⟩
    subst hW
    go_enter Try.func6, Try.ntmps6
    go_wp2_with (first
      | (go_at_call 10; refine HW.mono ?_; rintro r w2 ⟨rfl, hq⟩; have hn2 := HN w2 hq; clear HW HN hq)
      | (go_at_call 11; refine hn2.mono ?_; rintro r w3 ⟨rfl, hq3⟩; have hc3 := HC w3 hq3; have hx3 := HX w3 hq3; clear hn2 hq3 HX HC)
      | (go_at_call 12; refine hx3.mono ?_; rintro r w4 ⟨rfl, hq4⟩; have HM := Go.Lib.hid hq4; clear hx3 hq4))
    first | go_ret | go_ret2
    refine ⟨?_, back _ HM.out⟩
    have z : (⟨#[1]⟩ : ByteArray) = ⟨⟨[1]⟩⟩ := rfl
    simp [z, bytes_add]

/-- where rootid.Get stands: the reader's block, and blocks of its own -/
def St (w0 : World) (S0 : Hp) (w : World) (bf : Nat) (x : RdrT.den) (L : List (Nat × Array Value × Nat)) : Prop :=
  ∃ S, WF w0 (fun _ => False) w ∧ Lift.Sub S0 S ∧ (∀ k, S k ≠ none → S0 k ≠ none ∨ w0.heap.size ≤ k) ∧ Rdr w S bf x ∧ w0.heap.size ≤ bf ∧
    ∀ p ∈ L, S p.1 = none ∧ p.1 ≠ bf ∧ w0.heap.size ≤ p.1 ∧ w.heap[p.1]? = some (.cells p.2.1 p.2.2 (0, 0))

theorem St.lt {w0 w : World} {S0 : Hp} {bf : Nat} {x : RdrT.den} {L : List (Nat × Array Value × Nat)} (h : St w0 S0 w bf x L) : ∀ p ∈ L, p.1 < w.heap.size := by
  obtain ⟨S, _, _, _, _, _, hL⟩ := h
  exact fun p hp => (Array.getElem?_eq_some_iff.1 (hL p hp).2.2.2).1

theorem St.fine {w0 w : World} {S0 : Hp} {bf : Nat} {x x' : RdrT.den} {L : List (Nat × Array Value × Nat)} {f : FuncId} {args : Array Value} {Q : Ending → Prop} {P : Program} (h : St w0 S0 w bf x L)
    (hc : ∀ S, Rdr w S bf x → Calls P f args w fun r w' => Q r ∧ Fine w S bf x' w') : Calls P f args w fun r w' => Q r ∧ St w0 S0 w' bf x' L := by
  have hlt := h.lt
  obtain ⟨S, h1, h2, h3, h4, h5, hL⟩ := h
  refine (hc S h4).mono ?_
  rintro r w' ⟨hq, S', k1, k2, k3, k4⟩
  refine ⟨hq, S', ⟨Nat.le_trans h1.size k1.size, fun k hk _ => ?_, k1.tape.trans h1.tape, k1.os.trans h1.os, k1.output.trans h1.output⟩, h2.trans k2, fun k hk => ?_, k4, h5, fun p hp => ?_⟩
  · rw [k1.same k (Nat.lt_of_lt_of_le hk h1.size) (by omega)]
    exact h1.same k hk (fun h => h)
  · rcases k3 k hk with h | h
    · exact h3 k h
    · exact .inr (Nat.le_trans h1.size h)
  · obtain ⟨p1, p2, p3, p4⟩ := hL p hp
    have := hlt p hp
    refine ⟨?_, p2, p3, ?_⟩
    · cases hs : S' p.1 with
      | none => rfl
      | some o =>
        rcases k3 p.1 (by rw [hs]; simp) with h | h
        · exact absurd p1 h
        · omega
    · rw [k1.same p.1 this p2]; exact p4

theorem St.calm {w0 w : World} {S0 : Hp} {bf : Nat} {x : RdrT.den} {L : List (Nat × Array Value × Nat)} {f : FuncId} {args : Array Value} {Q : Ending → Prop} {P : Program} (h : St w0 S0 w bf x L)
    (hc : ∀ S, Lift.Sub S (hp w) → Calls P f args w fun r w' => Q r ∧ Calm w S w') : Calls P f args w fun r w' => Q r ∧ St w0 S0 w' bf x L :=
  St.fine h (fun S hR => (hc S hR.1).mono (by rintro r w' ⟨hq, S', k1, k2, k3, k4⟩; exact ⟨hq, fine_calm hR k1 k2 k3 k4⟩))

theorem St.alloc {w0 w : World} {S0 : Hp} {bf : Nat} {x : RdrT.den} {L : List (Nat × Array Value × Nat)} (h : St w0 S0 w bf x L) (cs : Array Value) (E : Nat) :
    St w0 S0 (w.alloc (.cells cs E)) bf x ((w.heap.size, cs, E) :: L) := by
  have hlt := h.lt
  obtain ⟨S, h1, h2, h3, h4, h5, hL⟩ := h
  have hb := rdr_lt h4
  have hh : (w.alloc (.cells cs E)).heap = w.heap.push (.cells cs E (0, 0)) := rfl
  have hk : ∀ k, k < w.heap.size → (w.alloc (.cells cs E)).heap[k]? = w.heap[k]? := fun k hk => by
    rw [hh, Array.getElem?_push, if_neg (by omega)]
  have hz := h1.size
  obtain ⟨a1, a2, E', fr, a3, a4⟩ := h4
  refine ⟨S, ⟨by rw [hh, Array.size_push]; omega, fun k h1' h2' => by rw [hk k (by omega)]; exact h1.same k h1' h2', h1.tape, h1.os, h1.output⟩, h2, h3, ⟨fun k o ho => ?_, a2, E', fr, ?_, a4⟩, h5, fun p hpm => ?_⟩
  · have := a1 k o ho
    simp only [hp] at this ⊢
    rw [hk k (Array.getElem?_eq_some_iff.1 this).1]
    exact this
  · rw [hk bf hb]; exact a3
  · rcases List.mem_cons.1 hpm with rfl | hpm
    · refine ⟨?_, by simp only; omega, h1.size, ?_⟩
      · cases hs : S w.heap.size with
        | none => rfl
        | some o =>
          have := a1 _ _ hs
          simp only [hp] at this
          have := (Array.getElem?_eq_some_iff.1 this).1
          omega
      · simp only
        rw [hh, Array.getElem?_push, if_pos rfl]
    · obtain ⟨p1, p2, p3, p4⟩ := hL p hpm
      exact ⟨p1, p2, p3, by rw [hk p.1 (hlt p hpm)]; exact p4⟩

theorem St.put {w0 w : World} {S0 : Hp} {bf : Nat} {x : RdrT.den} {p : Nat} {cs : Array Value} {E : Nat} {L : List (Nat × Array Value × Nat)} (h : St w0 S0 w bf x ((p, cs, E) :: L)) (hd : ∀ q ∈ L, q.1 ≠ p) {w' : World} {cs' : Array Value}
    (hw : w' = setObj' w p (.cells cs' E (0, 0))) : St w0 S0 w' bf x ((p, cs', E) :: L) := by
  have hlt := h.lt
  obtain ⟨S, h1, h2, h3, h4, h5, hL⟩ := h
  obtain ⟨q1, q2, q3, q4⟩ := hL (p, cs, E) (List.mem_cons_self ..)
  simp only at q1 q2 q3 q4
  have hne : ∀ k, k ≠ p → w'.heap[k]? = w.heap[k]? := fun k hk => by
    have := hp_setObj_ne (w := w) (o := .cells cs' E (0, 0)) hk
    rw [hw]; exact this
  have hsz : w'.heap.size = w.heap.size := by rw [hw]; simp [setObj']
  obtain ⟨a1, a2, E', fr, a3, a4⟩ := h4
  refine ⟨S, ⟨by rw [hsz]; exact h1.size, fun k h1' h2' => by rw [hne k (by omega)]; exact h1.same k h1' h2', by rw [hw]; exact h1.tape, by rw [hw]; exact h1.os, by rw [hw]; exact h1.output⟩, h2, h3, ⟨fun k o ho => ?_, a2, E', fr, ?_, a4⟩, h5, fun u hu => ?_⟩
  · have hk : k ≠ p := fun e => by rw [e, q1] at ho; cases ho
    have := a1 k o ho
    simp only [hp] at this ⊢
    rw [hne k hk]
    exact this
  · rw [hne bf (Ne.symm q2)]; exact a3
  · rcases List.mem_cons.1 hu with rfl | hu
    · refine ⟨q1, q2, q3, ?_⟩
      rw [hw]
      exact hp_setObj q4
    · obtain ⟨p1, p2, p3, p4⟩ := hL u (List.mem_cons_of_mem _ hu)
      exact ⟨p1, p2, p3, by rw [hne u.1 (hd u hu)]; exact p4⟩

theorem St.cell {w0 w : World} {S0 : Hp} {bf : Nat} {x : RdrT.den} {L : List (Nat × Array Value × Nat)} (h : St w0 S0 w bf x L) {p : Nat} {cs : Array Value} {E i : Nat} {v : Value} (hm : (p, cs, E) ∈ L) (hi : cs[i]? = some v) : w.cell? ⟨p, i, none⟩ = some v := by
  obtain ⟨S, _, _, _, _, _, hL⟩ := h
  have := (hL _ hm).2.2.2
  simp only at this
  simp [World.cell?, this, hi]

theorem St.free {w0 w : World} {S0 : Hp} {bf : Nat} {x : RdrT.den} {L : List (Nat × Array Value × Nat)} (h : St w0 S0 w bf x L) {p : Nat} {cs : Array Value} {E i : Nat} (hm : (p, cs, E) ∈ L) : w.frozen? ⟨p, i, none⟩ = false := by
  obtain ⟨S, _, _, _, _, _, hL⟩ := h
  have := (hL _ hm).2.2.2
  simp only at this
  simp [World.frozen?, this]

theorem St.swap {w0 w : World} {S0 : Hp} {bf : Nat} {x : RdrT.den} {L L' : List (Nat × Array Value × Nat)} (h : St w0 S0 w bf x L) (hm : ∀ p ∈ L', p ∈ L) : St w0 S0 w bf x L' := by
  obtain ⟨S, h1, h2, h3, h4, h5, hL⟩ := h
  exact ⟨S, h1, h2, h3, h4, h5, fun p hp => hL p (hm p hp)⟩

theorem St.setCell {w0 w : World} {S0 : Hp} {bf : Nat} {x : RdrT.den} {p : Nat} {cs : Array Value} {E : Nat} {L : List (Nat × Array Value × Nat)} (h : St w0 S0 w bf x ((p, cs, E) :: L)) (hd : ∀ q ∈ L, q.1 ≠ p) (i : Nat) (v : Value) :
    St w0 S0 (w.setCell ⟨p, i, none⟩ v) bf x ((p, cs.setIfInBounds i v, E) :: L) := by
  have hb : hp w p = some (.cells cs E (0, 0)) := by
    obtain ⟨S, _, _, _, _, _, hL⟩ := h
    exact (hL _ (List.mem_cons_self ..)).2.2.2
  exact h.put hd (setCell_eq v hb)

theorem num_step (N : Nat) {w0 w : World} {S0 : Hp} {bf : Nat} {x x' : RdrT.den} {L : List (Nat × Array Value × Nat)} {most v : Int} (h : St w0 S0 w bf x L) (hy : field_Reader_Num N x most = some (v, (x', ()))) :
    Calls Try.prog 39 #[.pointer (some ⟨bf, 0, none⟩), .int .u64 most] w fun r w' => r = .returned (.int .u64 v) ∧ St w0 S0 w' bf x' L :=
  h.fine (fun S hR => num_call N hR hy)

theorem text_step (N : Nat) {w0 w : World} {S0 : Hp} {bf : Nat} {x x' : RdrT.den} {L : List (Nat × Array Value × Nat)} {most : Int} {t : List UInt8} (h : St w0 S0 w bf x L) (hy : field_Reader_Text N x most = some (t, (x', ()))) :
    Calls Try.prog 21 #[.pointer (some ⟨bf, 0, none⟩), .int .i64 most] w fun r w' => r = .returned (.string ⟨⟨t⟩⟩) ∧ St w0 S0 w' bf x' L :=
  h.fine (fun S hR => text_call N hR hy)

theorem byte_step (N : Nat) {w0 w : World} {S0 : Hp} {bf : Nat} {x x' : RdrT.den} {L : List (Nat × Array Value × Nat)} {v : Int} (h : St w0 S0 w bf x L) (hy : field_Reader_Byte N x = some (v, (x', ()))) :
    Calls Try.prog 19 #[.pointer (some ⟨bf, 0, none⟩)] w fun r w' => r = .returned (.int .u8 v) ∧ St w0 S0 w' bf x' L :=
  h.fine (fun S hR => by
    refine ((field_Reader_Byte_ct N).2 w S _ _ _ (rdr_args hR [] (fun _ hp => by cases hp)) hR.1 (glob_none S) _ hy).mono ?_
    intro e w' he
    obtain ⟨u, o, S', rfl, hr, hf⟩ := fine_of rfl rfl obR_mem rfl he
    exact ⟨by rw [VR.int_inv hr.1], hf⟩)

theorem fail_step (N : Nat) {w0 w : World} {S0 : Hp} {bf : Nat} {x x' : RdrT.den} {L : List (Nat × Array Value × Nat)} {v : Int} (h : St w0 S0 w bf x L) (hy : field_Reader_Fail N x v = some ((), (x', ()))) :
    Calls Try.prog 20 #[.pointer (some ⟨bf, 0, none⟩), .int .i64 v] w fun r w' => (∃ u, r = .returned u) ∧ St w0 S0 w' bf x' L :=
  h.fine (fun S hR => by
    refine ((field_Reader_Fail_ct N).2 w S _ _ _ (rdr_args hR [(.v (.int .i64) v, .int .i64 v)] (fun p hp => by
      rw [List.mem_singleton.1 hp]; exact ⟨⟨VR.int, rfl⟩, rfl⟩)) hR.1 (glob_none S) _ hy).mono ?_
    intro e w' he
    obtain ⟨u, o, S', rfl, hr, hf⟩ := fine_of rfl rfl obR_mem rfl he
    exact ⟨⟨u, rfl⟩, hf⟩)

theorem end_step (N : Nat) {w0 w : World} {S0 : Hp} {bf : Nat} {x x' : RdrT.den} {L : List (Nat × Array Value × Nat)} {v : Int} (h : St w0 S0 w bf x L) (hy : field_Reader_End N x = some (v, (x', ()))) :
    Calls Try.prog 23 #[.pointer (some ⟨bf, 0, none⟩)] w fun r w' => r = .returned (.int .i64 v) ∧ St w0 S0 w' bf x' L :=
  h.fine (fun S hR => by
    refine ((field_Reader_End_ct N).2 w S _ _ _ (rdr_args hR [] (fun _ hp => by cases hp)) hR.1 (glob_none S) _ hy).mono ?_
    intro e w' he
    obtain ⟨u, o, S', rfl, hr, hf⟩ := fine_of rfl rfl obR_mem rfl he
    exact ⟨by rw [VR.int_inv hr.1], hf⟩)

theorem word_step (N : Nat) {w0 w : World} {S0 : Hp} {bf : Nat} {x : RdrT.den} {L : List (Nat × Array Value × Nat)} {t : List UInt8} {v : Bool} (h : St w0 S0 w bf x L) (hy : name_Word N t = some v) :
    Calls Try.prog 10 #[.string ⟨⟨t⟩⟩] w fun r w' => r = .returned (.bool v) ∧ St w0 S0 w' bf x L :=
  h.calm (fun S hS => word_bool N hS hy)

theorem new_step (N : Nat) {w0 w : World} {S0 : Hp} {q : Nat} {cs : Array Value} {E : Nat} {s : List UInt8} (hS0 : Lift.Sub S0 (hp w)) (h1 : WF w0 (fun _ => False) w) (hq : w0.heap.size ≤ q) (hn : S0 q = none) (hc : w.heap[q]? = some (.cells cs E (0, 0))) :
    Calls Try.prog 18 #[.string ⟨⟨s⟩⟩] w fun r w' => ∃ bf, r = .returned (.pointer (some ⟨bf, 0, none⟩)) ∧ St w0 S0 w' bf (true, (s, (0, ()))) [(q, cs, E)] := by
  refine ((field_New_ct N).2 w S0 _ _ _ (args_plain [(.v .str s, .string ⟨⟨s⟩⟩)] (fun p hp => by rw [List.mem_singleton.1 hp]; exact ⟨⟨VR.str, rfl⟩, rfl⟩)) hS0 (glob_none S0) (true, (s, (0, ()))) rfl).mono ?_
  intro e w' he
  obtain ⟨v, S', o, ob', rfl, hwf, k1, k2, k3, ⟨hr, _⟩, ho, _⟩ := he
  obtain ⟨bf, E', fr, ho', hv, hcell, hfr⟩ := rdr_open hr
  subst hv
  obtain ⟨o1, o2⟩ := ho bf (by rw [ho']; exact List.mem_singleton.2 rfl)
  have o2 : w.heap.size ≤ bf := by
    rcases o2 with ⟨i, hi⟩ | h
    · cases hi
    · exact h
  have hlt : q < w.heap.size := (Array.getElem?_eq_some_iff.1 hc).1
  refine ⟨bf, rfl, S', ⟨Nat.le_trans h1.size hwf.size, fun k hk _ => ?_, hwf.tape.trans h1.tape, hwf.os.trans h1.os, hwf.output.trans h1.output⟩, k1, fun k hk => ?_, ⟨k2, o1, E', fr, hcell, hfr⟩, Nat.le_trans h1.size o2, fun p hp => ?_⟩
  · rw [hwf.same k (Nat.lt_of_lt_of_le hk h1.size) (by rintro ⟨i, hi⟩; cases hi)]
    exact h1.same k hk (fun h => h)
  · rcases k3 k hk with h | ⟨i, hi⟩ | h
    · exact .inl h
    · cases hi
    · exact .inr (Nat.le_trans h1.size h)
  · rw [List.mem_singleton.1 hp]
    refine ⟨?_, by simp only; omega, hq, ?_⟩
    · cases hs : S' q with
      | none => rfl
      | some o =>
        rcases k3 q (by rw [hs]; simp) with h | ⟨i, hi⟩ | h
        · exact absurd hn h
        · cases hi
        · omega
    · simp only
      rw [hwf.same q hlt (by rintro ⟨i, hi⟩; cases hi)]
      exact hc

theorem gets_call (N : Nat) {w0 w : World} {S0 : Hp} {bf b c q : Nat} {x x1 x2 x3 : RdrT.den} {t : Value} {k0 e0 n0 v1 v2 v3 : Int} {Q : Array Value} {E E1 E2 : Nat} (hcb : c ≠ b) (hqb : q ≠ b)
    (h : St w0 S0 w bf x [(b, #[t, .int .i64 k0, .int .i64 e0, .int .i64 n0], E), (c, #[.pointer (some ⟨b, 1, none⟩), .pointer (some ⟨b, 2, none⟩), .pointer (some ⟨b, 3, none⟩)], E1), (q, Q, E2)])
    (h1 : field_Reader_Num N x 1099511627776 = some (v1, (x1, ()))) (h2 : field_Reader_Num N x1 1099511627776 = some (v2, (x2, ()))) (h3 : field_Reader_Num N x2 1099511627776 = some (v3, (x3, ()))) :
    Calls Try.prog 22 #[.pointer (some ⟨bf, 0, none⟩), .slice (some ⟨c, 0, none⟩) 3 3] w fun r w' => (∃ u, r = .returned u) ∧
      St w0 S0 w' bf x3 [(b, #[t, .int .i64 (Go.RowKit.wrap64 v1), .int .i64 (Go.RowKit.wrap64 v2), .int .i64 (Go.RowKit.wrap64 v3)], E), (c, #[.pointer (some ⟨b, 1, none⟩), .pointer (some ⟨b, 2, none⟩), .pointer (some ⟨b, 3, none⟩)], E1), (q, Q, E2)] := by
  have hd : ∀ p ∈ [((c, #[Value.pointer (some ⟨b, 1, none⟩), .pointer (some ⟨b, 2, none⟩), .pointer (some ⟨b, 3, none⟩)], E1) : Nat × Array Value × Nat), (q, Q, E2)], p.1 ≠ b := by
    intro p hp
    rcases List.mem_cons.1 hp with rfl | hp
    · exact hcb
    · rw [List.mem_singleton.1 hp]; exact hqb
  have c0 := h.cell (p := c) (i := 0) (List.mem_cons_of_mem _ (List.mem_cons_self ..)) rfl
  have H1 := num_step N h h1
  go_enter Try.func22, Try.ntmps22
  go_wp2
  refine wp_loop_rounds 4 ?_
  rw [rounds_succ]
  go_wp2_with (go_at_call 39; refine H1.mono ?_; rintro r w1 ⟨rfl, hs⟩; have o1 := hs.cell (p := b) (i := 1) (List.mem_cons_self ..) rfl; have o2 := hs.free (p := b) (i := 1) (List.mem_cons_self ..); have HM := Go.Lib.hid hs; clear H1 hs)
  obtain ⟨W1, hW1⟩ : ∃ W, W = w1.setCell ⟨b, 1, none⟩ (.int .i64 (Go.RowKit.wrap64 v1)) := ⟨_, rfl⟩
  rw [← hW1]
  have hs1 : St w0 S0 W1 bf x1 [(b, #[t, .int .i64 (Go.RowKit.wrap64 v1), .int .i64 e0, .int .i64 n0], E), (c, #[.pointer (some ⟨b, 1, none⟩), .pointer (some ⟨b, 2, none⟩), .pointer (some ⟨b, 3, none⟩)], E1), (q, Q, E2)] := by
    rw [hW1]
    exact HM.out.setCell hd 1 _
  clear o1 o2 HM hW1 c0
  have c1 := hs1.cell (p := c) (i := 1) (List.mem_cons_of_mem _ (List.mem_cons_self ..)) rfl
  have H2 := num_step N hs1 h2
  have KS := Go.Lib.hid hs1
  clear hs1
  rw [rounds_succ]
  go_wp2_with (go_at_call 39; refine H2.mono ?_; rintro r w2 ⟨rfl, hs⟩; have o1 := hs.cell (p := b) (i := 2) (List.mem_cons_self ..) rfl; have o2 := hs.free (p := b) (i := 2) (List.mem_cons_self ..); have HM := Go.Lib.hid hs; clear H2 hs KS)
  obtain ⟨W2, hW2⟩ : ∃ W, W = w2.setCell ⟨b, 2, none⟩ (.int .i64 (Go.RowKit.wrap64 v2)) := ⟨_, rfl⟩
  rw [← hW2]
  have hs2 : St w0 S0 W2 bf x2 [(b, #[t, .int .i64 (Go.RowKit.wrap64 v1), .int .i64 (Go.RowKit.wrap64 v2), .int .i64 n0], E), (c, #[.pointer (some ⟨b, 1, none⟩), .pointer (some ⟨b, 2, none⟩), .pointer (some ⟨b, 3, none⟩)], E1), (q, Q, E2)] := by
    rw [hW2]
    exact HM.out.setCell hd 2 _
  clear o1 o2 HM hW2 c1
  have c2 := hs2.cell (p := c) (i := 2) (List.mem_cons_of_mem _ (List.mem_cons_self ..)) rfl
  have H3 := num_step N hs2 h3
  have KS := Go.Lib.hid hs2
  clear hs2
  rw [rounds_succ]
  go_wp2_with (go_at_call 39; refine H3.mono ?_; rintro r w3 ⟨rfl, hs⟩; have o1 := hs.cell (p := b) (i := 3) (List.mem_cons_self ..) rfl; have o2 := hs.free (p := b) (i := 3) (List.mem_cons_self ..); have HM := Go.Lib.hid hs; clear H3 hs KS)
  obtain ⟨W3, hW3⟩ : ∃ W, W = w3.setCell ⟨b, 3, none⟩ (.int .i64 (Go.RowKit.wrap64 v3)) := ⟨_, rfl⟩
  rw [← hW3]
  have hs3 : St w0 S0 W3 bf x3 [(b, #[t, .int .i64 (Go.RowKit.wrap64 v1), .int .i64 (Go.RowKit.wrap64 v2), .int .i64 (Go.RowKit.wrap64 v3)], E), (c, #[.pointer (some ⟨b, 1, none⟩), .pointer (some ⟨b, 2, none⟩), .pointer (some ⟨b, 3, none⟩)], E1), (q, Q, E2)] := by
    rw [hW3]
    exact HM.out.setCell hd 3 _
  clear o1 o2 HM hW3 c2
  have KS := Go.Lib.hid hs3
  clear hs3
  rw [rounds_succ]
  go_wp2
  first | go_end0 | go_ret | go_ret2
  exact ⟨⟨_, rfl⟩, KS.out⟩

theorem St.toCalm {w0 w : World} {S0 : Hp} {bf : Nat} {x : RdrT.den} {L : List (Nat × Array Value × Nat)} (h : St w0 S0 w bf x L) : Calm w0 S0 w := by
  obtain ⟨S, h1, h2, h3, h4, h5, hL⟩ := h
  exact ⟨S, h1, h2, h4.1, h3⟩

theorem St.four {w0 w : World} {S0 : Hp} {bf : Nat} {x : RdrT.den} {L : List (Nat × Array Value × Nat)} {p : Nat} {cs : Array Value} {E : Nat} (h : St w0 S0 w bf x L) (hm : (p, cs, E) ∈ L) (a b c d : Value) :
    Calm w0 S0 ((((w.setCell ⟨p, 0, none⟩ a).setCell ⟨p, 1, none⟩ b).setCell ⟨p, 2, none⟩ c).setCell ⟨p, 3, none⟩ d) := by
  have f := h.swap (L' := [(p, cs, E)]) (by intro q hq; rw [List.mem_singleton.1 hq]; exact hm)
  have hd : ∀ q ∈ ([] : List (Nat × Array Value × Nat)), q.1 ≠ p := fun q hq => by cases hq
  exact ((((f.setCell hd 0 a).setCell hd 1 b).setCell hd 2 c).setCell hd 3 d).toCalm

set_option maxHeartbeats 4000000 in
theorem get_call (N : Nat) {w : World} {S : Hp} {s t : List UInt8} {x0 x1 x2 x3 x4 x5 x6 x7 : RdrT.den} {v n1 n2 n3 e : Int} {ok : Bool} (hS : Lift.Sub S (hp w)) (hB : field_Reader_Byte N (true, (s, (0, ()))) = some (v, (x0, ())))
    (hF : v = 1 ∧ x1 = x0 ∨ v ≠ 1 ∧ field_Reader_Fail N x0 2 = some ((), (x1, ()))) (hT : field_Reader_Text N x1 32 = some (t, (x2, ()))) (hW : name_Word N t = some ok)
    (hG : ok = true ∧ x3 = x2 ∨ ok = false ∧ field_Reader_Fail N x2 4 = some ((), (x3, ())))
    (h1 : field_Reader_Num N x3 1099511627776 = some (n1, (x4, ()))) (h2 : field_Reader_Num N x4 1099511627776 = some (n2, (x5, ()))) (h3 : field_Reader_Num N x5 1099511627776 = some (n3, (x6, ())))
    (hE : field_Reader_End N x6 = some (e, (x7, ()))) :
    Calls Try.prog 8 #[.string ⟨⟨s⟩⟩] w fun r w' => r = .returned (.tuple #[if e = 0 then .agg #[.string ⟨⟨t⟩⟩, .int .i64 (Go.RowKit.wrap64 n1), .int .i64 (Go.RowKit.wrap64 n2), .int .i64 (Go.RowKit.wrap64 n3)] else .agg #[.string ⟨#[]⟩, .int .i64 0, .int .i64 0, .int .i64 0], .int .i64 e]) ∧ Calm w S w' := by
  have hq : S w.heap.size = none := by
    cases hs : S w.heap.size with
    | none => rfl
    | some o =>
      have := hS _ _ hs
      simp only [hp] at this
      have := (Array.getElem?_eq_some_iff.1 this).1
      omega
  have hh : (w.alloc (.cells #[.string ⟨#[]⟩, .int .i64 0, .int .i64 0, .int .i64 0] 23)).heap = w.heap.push (.cells #[.string ⟨#[]⟩, .int .i64 0, .int .i64 0, .int .i64 0] 23 (0, 0)) := rfl
  have HN := new_step N (w0 := w) (S0 := S) (w := w.alloc (.cells #[.string ⟨#[]⟩, .int .i64 0, .int .i64 0, .int .i64 0] 23)) (s := s) (q := w.heap.size) (cs := #[.string ⟨#[]⟩, .int .i64 0, .int .i64 0, .int .i64 0]) (E := 23)
    (fun k o ho => by
      have := hS k o ho
      simp only [hp] at this ⊢
      rw [hh, Array.getElem?_push, if_neg (by have := (Array.getElem?_eq_some_iff.1 this).1; omega)]
      exact this)
    ⟨by rw [hh, Array.size_push]; omega, fun k hk _ => by rw [hh, Array.getElem?_push, if_neg (by omega)], rfl, rfl, rfl⟩ (Nat.le_refl _) hq (by rw [hh, Array.getElem?_push, if_pos rfl])
  clear hh
  obtain ⟨rfl, rfl⟩ | ⟨hv, hF⟩ := hF
  · obtain ⟨rfl, rfl⟩ | ⟨rfl, hG⟩ := hG
    · by_cases he : e = 0
      · subst he
        rw [if_pos rfl]
        go_enter Try.func8, Try.ntmps8
        go_wp2_with (first
          | (go_at_call 18; refine HN.mono ?_; rintro r w1 ⟨bf, rfl, hs1⟩; have HB := byte_step N hs1 hB; clear HN hs1)
          | (go_at_call 19; refine HB.mono ?_; rintro r w2 ⟨rfl, hs2⟩; have HT := text_step N hs2 hT; clear HB hs2)
          | (go_at_call 21; refine HT.mono ?_; rintro r w3 ⟨rfl, hs3⟩; have hqb := Nat.ne_of_lt (hs3.lt _ (List.mem_cons_self ..)); have HWd := word_step N (hs3.alloc #[.string ⟨⟨t⟩⟩, .int .i64 0, .int .i64 0, .int .i64 0] 23) hW; clear HT hs3)
          | (go_at_call 10; refine HWd.mono ?_; rintro r w4 ⟨rfl, hs4⟩; have hs6 := hs4.alloc #[.pointer (some ⟨w3.heap.size, 1, none⟩), .pointer (some ⟨w3.heap.size, 2, none⟩), .pointer (some ⟨w3.heap.size, 3, none⟩)] 35; have hd1 := Nat.ne_of_gt (hs4.lt _ (List.mem_cons_self ..)); have hs7 := hs6.swap (L' := [(w3.heap.size, #[.string ⟨⟨t⟩⟩, .int .i64 0, .int .i64 0, .int .i64 0], 23), (w4.heap.size, #[.pointer (some ⟨w3.heap.size, 1, none⟩), .pointer (some ⟨w3.heap.size, 2, none⟩), .pointer (some ⟨w3.heap.size, 3, none⟩)], 35), (w.heap.size, #[.string ⟨#[]⟩, .int .i64 0, .int .i64 0, .int .i64 0], 23)]) (by intro p hp; simp only [List.mem_cons, List.not_mem_nil, or_false] at hp ⊢; rcases hp with rfl | rfl | rfl <;> simp); have HG := gets_call N hd1 hqb hs7 h1 h2 h3; clear hs6 hs7 hd1; clear HWd hs4)
          | (go_at_call 22; refine HG.mono ?_; rintro r w5 ⟨⟨u3, rfl⟩, hs5⟩; have HE := end_step N hs5 hE; clear HG hs5)
          | (go_at_call 23; refine HE.mono ?_; rintro r w6 ⟨rfl, hs6⟩; have rc0 := hs6.cell (p := w3.heap.size) (i := 0) (List.mem_cons_self ..) rfl; have rc1 := hs6.cell (p := w3.heap.size) (i := 1) (List.mem_cons_self ..) rfl; have rc2 := hs6.cell (p := w3.heap.size) (i := 2) (List.mem_cons_self ..) rfl; have rc3 := hs6.cell (p := w3.heap.size) (i := 3) (List.mem_cons_self ..) rfl; have qc0 := hs6.cell (p := w.heap.size) (i := 0) (List.mem_cons_of_mem _ (List.mem_cons_of_mem _ (List.mem_cons_self ..))) rfl; have qf0 := hs6.free (p := w.heap.size) (i := 0) (List.mem_cons_of_mem _ (List.mem_cons_of_mem _ (List.mem_cons_self ..))); have qc1 := hs6.cell (p := w.heap.size) (i := 1) (List.mem_cons_of_mem _ (List.mem_cons_of_mem _ (List.mem_cons_self ..))) rfl; have qf1 := hs6.free (p := w.heap.size) (i := 1) (List.mem_cons_of_mem _ (List.mem_cons_of_mem _ (List.mem_cons_self ..))); have qc2 := hs6.cell (p := w.heap.size) (i := 2) (List.mem_cons_of_mem _ (List.mem_cons_of_mem _ (List.mem_cons_self ..))) rfl; have qf2 := hs6.free (p := w.heap.size) (i := 2) (List.mem_cons_of_mem _ (List.mem_cons_of_mem _ (List.mem_cons_self ..))); have qc3 := hs6.cell (p := w.heap.size) (i := 3) (List.mem_cons_of_mem _ (List.mem_cons_of_mem _ (List.mem_cons_self ..))) rfl; have qf3 := hs6.free (p := w.heap.size) (i := 3) (List.mem_cons_of_mem _ (List.mem_cons_of_mem _ (List.mem_cons_self ..))); have HM := Go.Lib.hid hs6; clear HE hs6))
        refine ⟨rfl, _, ?_, rfl, HM.out.four (List.mem_cons_of_mem _ (List.mem_cons_of_mem _ (List.mem_cons_self ..))) _ _ _ _⟩
        simp [results, Try.results8, go_sem, qc0, qc1, qc2, qc3]
      · rw [if_neg he]
        go_enter Try.func8, Try.ntmps8
        go_wp2_with (first
          | (go_at_call 18; refine HN.mono ?_; rintro r w1 ⟨bf, rfl, hs1⟩; have HB := byte_step N hs1 hB; clear HN hs1)
          | (go_at_call 19; refine HB.mono ?_; rintro r w2 ⟨rfl, hs2⟩; have HT := text_step N hs2 hT; clear HB hs2)
          | (go_at_call 21; refine HT.mono ?_; rintro r w3 ⟨rfl, hs3⟩; have hqb := Nat.ne_of_lt (hs3.lt _ (List.mem_cons_self ..)); have HWd := word_step N (hs3.alloc #[.string ⟨⟨t⟩⟩, .int .i64 0, .int .i64 0, .int .i64 0] 23) hW; clear HT hs3)
          | (go_at_call 10; refine HWd.mono ?_; rintro r w4 ⟨rfl, hs4⟩; have hs6 := hs4.alloc #[.pointer (some ⟨w3.heap.size, 1, none⟩), .pointer (some ⟨w3.heap.size, 2, none⟩), .pointer (some ⟨w3.heap.size, 3, none⟩)] 35; have hd1 := Nat.ne_of_gt (hs4.lt _ (List.mem_cons_self ..)); have hs7 := hs6.swap (L' := [(w3.heap.size, #[.string ⟨⟨t⟩⟩, .int .i64 0, .int .i64 0, .int .i64 0], 23), (w4.heap.size, #[.pointer (some ⟨w3.heap.size, 1, none⟩), .pointer (some ⟨w3.heap.size, 2, none⟩), .pointer (some ⟨w3.heap.size, 3, none⟩)], 35), (w.heap.size, #[.string ⟨#[]⟩, .int .i64 0, .int .i64 0, .int .i64 0], 23)]) (by intro p hp; simp only [List.mem_cons, List.not_mem_nil, or_false] at hp ⊢; rcases hp with rfl | rfl | rfl <;> simp); have HG := gets_call N hd1 hqb hs7 h1 h2 h3; clear hs6 hs7 hd1; clear HWd hs4)
          | (go_at_call 22; refine HG.mono ?_; rintro r w5 ⟨⟨u3, rfl⟩, hs5⟩; have HE := end_step N hs5 hE; clear HG hs5)
          | (go_at_call 23; refine HE.mono ?_; rintro r w6 ⟨rfl, hs6⟩; have rc0 := hs6.cell (p := w3.heap.size) (i := 0) (List.mem_cons_self ..) rfl; have rc1 := hs6.cell (p := w3.heap.size) (i := 1) (List.mem_cons_self ..) rfl; have rc2 := hs6.cell (p := w3.heap.size) (i := 2) (List.mem_cons_self ..) rfl; have rc3 := hs6.cell (p := w3.heap.size) (i := 3) (List.mem_cons_self ..) rfl; have qc0 := hs6.cell (p := w.heap.size) (i := 0) (List.mem_cons_of_mem _ (List.mem_cons_of_mem _ (List.mem_cons_self ..))) rfl; have qf0 := hs6.free (p := w.heap.size) (i := 0) (List.mem_cons_of_mem _ (List.mem_cons_of_mem _ (List.mem_cons_self ..))); have qc1 := hs6.cell (p := w.heap.size) (i := 1) (List.mem_cons_of_mem _ (List.mem_cons_of_mem _ (List.mem_cons_self ..))) rfl; have qf1 := hs6.free (p := w.heap.size) (i := 1) (List.mem_cons_of_mem _ (List.mem_cons_of_mem _ (List.mem_cons_self ..))); have qc2 := hs6.cell (p := w.heap.size) (i := 2) (List.mem_cons_of_mem _ (List.mem_cons_of_mem _ (List.mem_cons_self ..))) rfl; have qf2 := hs6.free (p := w.heap.size) (i := 2) (List.mem_cons_of_mem _ (List.mem_cons_of_mem _ (List.mem_cons_self ..))); have qc3 := hs6.cell (p := w.heap.size) (i := 3) (List.mem_cons_of_mem _ (List.mem_cons_of_mem _ (List.mem_cons_self ..))) rfl; have qf3 := hs6.free (p := w.heap.size) (i := 3) (List.mem_cons_of_mem _ (List.mem_cons_of_mem _ (List.mem_cons_self ..))); have HM := Go.Lib.hid hs6; clear HE hs6))
        refine ⟨rfl, _, ?_, rfl, HM.out.four (List.mem_cons_of_mem _ (List.mem_cons_of_mem _ (List.mem_cons_self ..))) _ _ _ _⟩
        simp [results, Try.results8, go_sem, qc0, qc1, qc2, qc3]
    · by_cases he : e = 0
      · subst he
        rw [if_pos rfl]
        go_enter Try.func8, Try.ntmps8
        go_wp2_with (first
          | (go_at_call 18; refine HN.mono ?_; rintro r w1 ⟨bf, rfl, hs1⟩; have HB := byte_step N hs1 hB; clear HN hs1)
          | (go_at_call 19; refine HB.mono ?_; rintro r w2 ⟨rfl, hs2⟩; have HT := text_step N hs2 hT; clear HB hs2)
          | (go_at_call 21; refine HT.mono ?_; rintro r w3 ⟨rfl, hs3⟩; have hqb := Nat.ne_of_lt (hs3.lt _ (List.mem_cons_self ..)); have HWd := word_step N (hs3.alloc #[.string ⟨⟨t⟩⟩, .int .i64 0, .int .i64 0, .int .i64 0] 23) hW; clear HT hs3)
          | (go_at_call 10; refine HWd.mono ?_; rintro r w4 ⟨rfl, hs4⟩; have HF2 := fail_step N hs4 hG; clear HWd hs4)
          | (go_at_call 20; refine HF2.mono ?_; rintro r w4b ⟨⟨u2, rfl⟩, hs4b⟩; have hs6 := hs4b.alloc #[.pointer (some ⟨w3.heap.size, 1, none⟩), .pointer (some ⟨w3.heap.size, 2, none⟩), .pointer (some ⟨w3.heap.size, 3, none⟩)] 35; have hd1 := Nat.ne_of_gt (hs4b.lt _ (List.mem_cons_self ..)); have hs7 := hs6.swap (L' := [(w3.heap.size, #[.string ⟨⟨t⟩⟩, .int .i64 0, .int .i64 0, .int .i64 0], 23), (w4b.heap.size, #[.pointer (some ⟨w3.heap.size, 1, none⟩), .pointer (some ⟨w3.heap.size, 2, none⟩), .pointer (some ⟨w3.heap.size, 3, none⟩)], 35), (w.heap.size, #[.string ⟨#[]⟩, .int .i64 0, .int .i64 0, .int .i64 0], 23)]) (by intro p hp; simp only [List.mem_cons, List.not_mem_nil, or_false] at hp ⊢; rcases hp with rfl | rfl | rfl <;> simp); have HG := gets_call N hd1 hqb hs7 h1 h2 h3; clear hs6 hs7 hd1; clear HF2 hs4b)
          | (go_at_call 22; refine HG.mono ?_; rintro r w5 ⟨⟨u3, rfl⟩, hs5⟩; have HE := end_step N hs5 hE; clear HG hs5)
          | (go_at_call 23; refine HE.mono ?_; rintro r w6 ⟨rfl, hs6⟩; have rc0 := hs6.cell (p := w3.heap.size) (i := 0) (List.mem_cons_self ..) rfl; have rc1 := hs6.cell (p := w3.heap.size) (i := 1) (List.mem_cons_self ..) rfl; have rc2 := hs6.cell (p := w3.heap.size) (i := 2) (List.mem_cons_self ..) rfl; have rc3 := hs6.cell (p := w3.heap.size) (i := 3) (List.mem_cons_self ..) rfl; have qc0 := hs6.cell (p := w.heap.size) (i := 0) (List.mem_cons_of_mem _ (List.mem_cons_of_mem _ (List.mem_cons_self ..))) rfl; have qf0 := hs6.free (p := w.heap.size) (i := 0) (List.mem_cons_of_mem _ (List.mem_cons_of_mem _ (List.mem_cons_self ..))); have qc1 := hs6.cell (p := w.heap.size) (i := 1) (List.mem_cons_of_mem _ (List.mem_cons_of_mem _ (List.mem_cons_self ..))) rfl; have qf1 := hs6.free (p := w.heap.size) (i := 1) (List.mem_cons_of_mem _ (List.mem_cons_of_mem _ (List.mem_cons_self ..))); have qc2 := hs6.cell (p := w.heap.size) (i := 2) (List.mem_cons_of_mem _ (List.mem_cons_of_mem _ (List.mem_cons_self ..))) rfl; have qf2 := hs6.free (p := w.heap.size) (i := 2) (List.mem_cons_of_mem _ (List.mem_cons_of_mem _ (List.mem_cons_self ..))); have qc3 := hs6.cell (p := w.heap.size) (i := 3) (List.mem_cons_of_mem _ (List.mem_cons_of_mem _ (List.mem_cons_self ..))) rfl; have qf3 := hs6.free (p := w.heap.size) (i := 3) (List.mem_cons_of_mem _ (List.mem_cons_of_mem _ (List.mem_cons_self ..))); have HM := Go.Lib.hid hs6; clear HE hs6))
        refine ⟨rfl, _, ?_, rfl, HM.out.four (List.mem_cons_of_mem _ (List.mem_cons_of_mem _ (List.mem_cons_self ..))) _ _ _ _⟩
        simp [results, Try.results8, go_sem, qc0, qc1, qc2, qc3]
      · rw [if_neg he]
        go_enter Try.func8, Try.ntmps8
        go_wp2_with (first
          | (go_at_call 18; refine HN.mono ?_; rintro r w1 ⟨bf, rfl, hs1⟩; have HB := byte_step N hs1 hB; clear HN hs1)
          | (go_at_call 19; refine HB.mono ?_; rintro r w2 ⟨rfl, hs2⟩; have HT := text_step N hs2 hT; clear HB hs2)
          | (go_at_call 21; refine HT.mono ?_; rintro r w3 ⟨rfl, hs3⟩; have hqb := Nat.ne_of_lt (hs3.lt _ (List.mem_cons_self ..)); have HWd := word_step N (hs3.alloc #[.string ⟨⟨t⟩⟩, .int .i64 0, .int .i64 0, .int .i64 0] 23) hW; clear HT hs3)
          | (go_at_call 10; refine HWd.mono ?_; rintro r w4 ⟨rfl, hs4⟩; have HF2 := fail_step N hs4 hG; clear HWd hs4)
          | (go_at_call 20; refine HF2.mono ?_; rintro r w4b ⟨⟨u2, rfl⟩, hs4b⟩; have hs6 := hs4b.alloc #[.pointer (some ⟨w3.heap.size, 1, none⟩), .pointer (some ⟨w3.heap.size, 2, none⟩), .pointer (some ⟨w3.heap.size, 3, none⟩)] 35; have hd1 := Nat.ne_of_gt (hs4b.lt _ (List.mem_cons_self ..)); have hs7 := hs6.swap (L' := [(w3.heap.size, #[.string ⟨⟨t⟩⟩, .int .i64 0, .int .i64 0, .int .i64 0], 23), (w4b.heap.size, #[.pointer (some ⟨w3.heap.size, 1, none⟩), .pointer (some ⟨w3.heap.size, 2, none⟩), .pointer (some ⟨w3.heap.size, 3, none⟩)], 35), (w.heap.size, #[.string ⟨#[]⟩, .int .i64 0, .int .i64 0, .int .i64 0], 23)]) (by intro p hp; simp only [List.mem_cons, List.not_mem_nil, or_false] at hp ⊢; rcases hp with rfl | rfl | rfl <;> simp); have HG := gets_call N hd1 hqb hs7 h1 h2 h3; clear hs6 hs7 hd1; clear HF2 hs4b)
          | (go_at_call 22; refine HG.mono ?_; rintro r w5 ⟨⟨u3, rfl⟩, hs5⟩; have HE := end_step N hs5 hE; clear HG hs5)
          | (go_at_call 23; refine HE.mono ?_; rintro r w6 ⟨rfl, hs6⟩; have rc0 := hs6.cell (p := w3.heap.size) (i := 0) (List.mem_cons_self ..) rfl; have rc1 := hs6.cell (p := w3.heap.size) (i := 1) (List.mem_cons_self ..) rfl; have rc2 := hs6.cell (p := w3.heap.size) (i := 2) (List.mem_cons_self ..) rfl; have rc3 := hs6.cell (p := w3.heap.size) (i := 3) (List.mem_cons_self ..) rfl; have qc0 := hs6.cell (p := w.heap.size) (i := 0) (List.mem_cons_of_mem _ (List.mem_cons_of_mem _ (List.mem_cons_self ..))) rfl; have qf0 := hs6.free (p := w.heap.size) (i := 0) (List.mem_cons_of_mem _ (List.mem_cons_of_mem _ (List.mem_cons_self ..))); have qc1 := hs6.cell (p := w.heap.size) (i := 1) (List.mem_cons_of_mem _ (List.mem_cons_of_mem _ (List.mem_cons_self ..))) rfl; have qf1 := hs6.free (p := w.heap.size) (i := 1) (List.mem_cons_of_mem _ (List.mem_cons_of_mem _ (List.mem_cons_self ..))); have qc2 := hs6.cell (p := w.heap.size) (i := 2) (List.mem_cons_of_mem _ (List.mem_cons_of_mem _ (List.mem_cons_self ..))) rfl; have qf2 := hs6.free (p := w.heap.size) (i := 2) (List.mem_cons_of_mem _ (List.mem_cons_of_mem _ (List.mem_cons_self ..))); have qc3 := hs6.cell (p := w.heap.size) (i := 3) (List.mem_cons_of_mem _ (List.mem_cons_of_mem _ (List.mem_cons_self ..))) rfl; have qf3 := hs6.free (p := w.heap.size) (i := 3) (List.mem_cons_of_mem _ (List.mem_cons_of_mem _ (List.mem_cons_self ..))); have HM := Go.Lib.hid hs6; clear HE hs6))
        refine ⟨rfl, _, ?_, rfl, HM.out.four (List.mem_cons_of_mem _ (List.mem_cons_of_mem _ (List.mem_cons_self ..))) _ _ _ _⟩
        simp [results, Try.results8, go_sem, qc0, qc1, qc2, qc3]
  · obtain ⟨rfl, rfl⟩ | ⟨rfl, hG⟩ := hG
    · by_cases he : e = 0
      · subst he
        rw [if_pos rfl]
        go_enter Try.func8, Try.ntmps8
        go_wp2_with (first
          | (go_at_call 18; refine HN.mono ?_; rintro r w1 ⟨bf, rfl, hs1⟩; have HB := byte_step N hs1 hB; clear HN hs1)
          | (go_at_call 19; refine HB.mono ?_; rintro r w2 ⟨rfl, hs2⟩; have HF1 := fail_step N hs2 hF; clear HB hs2)
          | (go_at_call 20; refine HF1.mono ?_; rintro r w2b ⟨⟨u1, rfl⟩, hs2b⟩; have HT := text_step N hs2b hT; clear HF1 hs2b)
          | (go_at_call 21; refine HT.mono ?_; rintro r w3 ⟨rfl, hs3⟩; have hqb := Nat.ne_of_lt (hs3.lt _ (List.mem_cons_self ..)); have HWd := word_step N (hs3.alloc #[.string ⟨⟨t⟩⟩, .int .i64 0, .int .i64 0, .int .i64 0] 23) hW; clear HT hs3)
          | (go_at_call 10; refine HWd.mono ?_; rintro r w4 ⟨rfl, hs4⟩; have hs6 := hs4.alloc #[.pointer (some ⟨w3.heap.size, 1, none⟩), .pointer (some ⟨w3.heap.size, 2, none⟩), .pointer (some ⟨w3.heap.size, 3, none⟩)] 35; have hd1 := Nat.ne_of_gt (hs4.lt _ (List.mem_cons_self ..)); have hs7 := hs6.swap (L' := [(w3.heap.size, #[.string ⟨⟨t⟩⟩, .int .i64 0, .int .i64 0, .int .i64 0], 23), (w4.heap.size, #[.pointer (some ⟨w3.heap.size, 1, none⟩), .pointer (some ⟨w3.heap.size, 2, none⟩), .pointer (some ⟨w3.heap.size, 3, none⟩)], 35), (w.heap.size, #[.string ⟨#[]⟩, .int .i64 0, .int .i64 0, .int .i64 0], 23)]) (by intro p hp; simp only [List.mem_cons, List.not_mem_nil, or_false] at hp ⊢; rcases hp with rfl | rfl | rfl <;> simp); have HG := gets_call N hd1 hqb hs7 h1 h2 h3; clear hs6 hs7 hd1; clear HWd hs4)
          | (go_at_call 22; refine HG.mono ?_; rintro r w5 ⟨⟨u3, rfl⟩, hs5⟩; have HE := end_step N hs5 hE; clear HG hs5)
          | (go_at_call 23; refine HE.mono ?_; rintro r w6 ⟨rfl, hs6⟩; have rc0 := hs6.cell (p := w3.heap.size) (i := 0) (List.mem_cons_self ..) rfl; have rc1 := hs6.cell (p := w3.heap.size) (i := 1) (List.mem_cons_self ..) rfl; have rc2 := hs6.cell (p := w3.heap.size) (i := 2) (List.mem_cons_self ..) rfl; have rc3 := hs6.cell (p := w3.heap.size) (i := 3) (List.mem_cons_self ..) rfl; have qc0 := hs6.cell (p := w.heap.size) (i := 0) (List.mem_cons_of_mem _ (List.mem_cons_of_mem _ (List.mem_cons_self ..))) rfl; have qf0 := hs6.free (p := w.heap.size) (i := 0) (List.mem_cons_of_mem _ (List.mem_cons_of_mem _ (List.mem_cons_self ..))); have qc1 := hs6.cell (p := w.heap.size) (i := 1) (List.mem_cons_of_mem _ (List.mem_cons_of_mem _ (List.mem_cons_self ..))) rfl; have qf1 := hs6.free (p := w.heap.size) (i := 1) (List.mem_cons_of_mem _ (List.mem_cons_of_mem _ (List.mem_cons_self ..))); have qc2 := hs6.cell (p := w.heap.size) (i := 2) (List.mem_cons_of_mem _ (List.mem_cons_of_mem _ (List.mem_cons_self ..))) rfl; have qf2 := hs6.free (p := w.heap.size) (i := 2) (List.mem_cons_of_mem _ (List.mem_cons_of_mem _ (List.mem_cons_self ..))); have qc3 := hs6.cell (p := w.heap.size) (i := 3) (List.mem_cons_of_mem _ (List.mem_cons_of_mem _ (List.mem_cons_self ..))) rfl; have qf3 := hs6.free (p := w.heap.size) (i := 3) (List.mem_cons_of_mem _ (List.mem_cons_of_mem _ (List.mem_cons_self ..))); have HM := Go.Lib.hid hs6; clear HE hs6))
        refine ⟨rfl, _, ?_, rfl, HM.out.four (List.mem_cons_of_mem _ (List.mem_cons_of_mem _ (List.mem_cons_self ..))) _ _ _ _⟩
        simp [results, Try.results8, go_sem, qc0, qc1, qc2, qc3]
      · rw [if_neg he]
        go_enter Try.func8, Try.ntmps8
        go_wp2_with (first
          | (go_at_call 18; refine HN.mono ?_; rintro r w1 ⟨bf, rfl, hs1⟩; have HB := byte_step N hs1 hB; clear HN hs1)
          | (go_at_call 19; refine HB.mono ?_; rintro r w2 ⟨rfl, hs2⟩; have HF1 := fail_step N hs2 hF; clear HB hs2)
          | (go_at_call 20; refine HF1.mono ?_; rintro r w2b ⟨⟨u1, rfl⟩, hs2b⟩; have HT := text_step N hs2b hT; clear HF1 hs2b)
          | (go_at_call 21; refine HT.mono ?_; rintro r w3 ⟨rfl, hs3⟩; have hqb := Nat.ne_of_lt (hs3.lt _ (List.mem_cons_self ..)); have HWd := word_step N (hs3.alloc #[.string ⟨⟨t⟩⟩, .int .i64 0, .int .i64 0, .int .i64 0] 23) hW; clear HT hs3)
          | (go_at_call 10; refine HWd.mono ?_; rintro r w4 ⟨rfl, hs4⟩; have hs6 := hs4.alloc #[.pointer (some ⟨w3.heap.size, 1, none⟩), .pointer (some ⟨w3.heap.size, 2, none⟩), .pointer (some ⟨w3.heap.size, 3, none⟩)] 35; have hd1 := Nat.ne_of_gt (hs4.lt _ (List.mem_cons_self ..)); have hs7 := hs6.swap (L' := [(w3.heap.size, #[.string ⟨⟨t⟩⟩, .int .i64 0, .int .i64 0, .int .i64 0], 23), (w4.heap.size, #[.pointer (some ⟨w3.heap.size, 1, none⟩), .pointer (some ⟨w3.heap.size, 2, none⟩), .pointer (some ⟨w3.heap.size, 3, none⟩)], 35), (w.heap.size, #[.string ⟨#[]⟩, .int .i64 0, .int .i64 0, .int .i64 0], 23)]) (by intro p hp; simp only [List.mem_cons, List.not_mem_nil, or_false] at hp ⊢; rcases hp with rfl | rfl | rfl <;> simp); have HG := gets_call N hd1 hqb hs7 h1 h2 h3; clear hs6 hs7 hd1; clear HWd hs4)
          | (go_at_call 22; refine HG.mono ?_; rintro r w5 ⟨⟨u3, rfl⟩, hs5⟩; have HE := end_step N hs5 hE; clear HG hs5)
          | (go_at_call 23; refine HE.mono ?_; rintro r w6 ⟨rfl, hs6⟩; have rc0 := hs6.cell (p := w3.heap.size) (i := 0) (List.mem_cons_self ..) rfl; have rc1 := hs6.cell (p := w3.heap.size) (i := 1) (List.mem_cons_self ..) rfl; have rc2 := hs6.cell (p := w3.heap.size) (i := 2) (List.mem_cons_self ..) rfl; have rc3 := hs6.cell (p := w3.heap.size) (i := 3) (List.mem_cons_self ..) rfl; have qc0 := hs6.cell (p := w.heap.size) (i := 0) (List.mem_cons_of_mem _ (List.mem_cons_of_mem _ (List.mem_cons_self ..))) rfl; have qf0 := hs6.free (p := w.heap.size) (i := 0) (List.mem_cons_of_mem _ (List.mem_cons_of_mem _ (List.mem_cons_self ..))); have qc1 := hs6.cell (p := w.heap.size) (i := 1) (List.mem_cons_of_mem _ (List.mem_cons_of_mem _ (List.mem_cons_self ..))) rfl; have qf1 := hs6.free (p := w.heap.size) (i := 1) (List.mem_cons_of_mem _ (List.mem_cons_of_mem _ (List.mem_cons_self ..))); have qc2 := hs6.cell (p := w.heap.size) (i := 2) (List.mem_cons_of_mem _ (List.mem_cons_of_mem _ (List.mem_cons_self ..))) rfl; have qf2 := hs6.free (p := w.heap.size) (i := 2) (List.mem_cons_of_mem _ (List.mem_cons_of_mem _ (List.mem_cons_self ..))); have qc3 := hs6.cell (p := w.heap.size) (i := 3) (List.mem_cons_of_mem _ (List.mem_cons_of_mem _ (List.mem_cons_self ..))) rfl; have qf3 := hs6.free (p := w.heap.size) (i := 3) (List.mem_cons_of_mem _ (List.mem_cons_of_mem _ (List.mem_cons_self ..))); have HM := Go.Lib.hid hs6; clear HE hs6))
        refine ⟨rfl, _, ?_, rfl, HM.out.four (List.mem_cons_of_mem _ (List.mem_cons_of_mem _ (List.mem_cons_self ..))) _ _ _ _⟩
        simp [results, Try.results8, go_sem, qc0, qc1, qc2, qc3]
    · by_cases he : e = 0
      · subst he
        rw [if_pos rfl]
        go_enter Try.func8, Try.ntmps8
        go_wp2_with (first
          | (go_at_call 18; refine HN.mono ?_; rintro r w1 ⟨bf, rfl, hs1⟩; have HB := byte_step N hs1 hB; clear HN hs1)
          | (go_at_call 19; refine HB.mono ?_; rintro r w2 ⟨rfl, hs2⟩; have HF1 := fail_step N hs2 hF; clear HB hs2)
          | (go_at_call 20; refine HF1.mono ?_; rintro r w2b ⟨⟨u1, rfl⟩, hs2b⟩; have HT := text_step N hs2b hT; clear HF1 hs2b)
          | (go_at_call 21; refine HT.mono ?_; rintro r w3 ⟨rfl, hs3⟩; have hqb := Nat.ne_of_lt (hs3.lt _ (List.mem_cons_self ..)); have HWd := word_step N (hs3.alloc #[.string ⟨⟨t⟩⟩, .int .i64 0, .int .i64 0, .int .i64 0] 23) hW; clear HT hs3)
          | (go_at_call 10; refine HWd.mono ?_; rintro r w4 ⟨rfl, hs4⟩; have HF2 := fail_step N hs4 hG; clear HWd hs4)
          | (go_at_call 20; refine HF2.mono ?_; rintro r w4b ⟨⟨u2, rfl⟩, hs4b⟩; have hs6 := hs4b.alloc #[.pointer (some ⟨w3.heap.size, 1, none⟩), .pointer (some ⟨w3.heap.size, 2, none⟩), .pointer (some ⟨w3.heap.size, 3, none⟩)] 35; have hd1 := Nat.ne_of_gt (hs4b.lt _ (List.mem_cons_self ..)); have hs7 := hs6.swap (L' := [(w3.heap.size, #[.string ⟨⟨t⟩⟩, .int .i64 0, .int .i64 0, .int .i64 0], 23), (w4b.heap.size, #[.pointer (some ⟨w3.heap.size, 1, none⟩), .pointer (some ⟨w3.heap.size, 2, none⟩), .pointer (some ⟨w3.heap.size, 3, none⟩)], 35), (w.heap.size, #[.string ⟨#[]⟩, .int .i64 0, .int .i64 0, .int .i64 0], 23)]) (by intro p hp; simp only [List.mem_cons, List.not_mem_nil, or_false] at hp ⊢; rcases hp with rfl | rfl | rfl <;> simp); have HG := gets_call N hd1 hqb hs7 h1 h2 h3; clear hs6 hs7 hd1; clear HF2 hs4b)
          | (go_at_call 22; refine HG.mono ?_; rintro r w5 ⟨⟨u3, rfl⟩, hs5⟩; have HE := end_step N hs5 hE; clear HG hs5)
          | (go_at_call 23; refine HE.mono ?_; rintro r w6 ⟨rfl, hs6⟩; have rc0 := hs6.cell (p := w3.heap.size) (i := 0) (List.mem_cons_self ..) rfl; have rc1 := hs6.cell (p := w3.heap.size) (i := 1) (List.mem_cons_self ..) rfl; have rc2 := hs6.cell (p := w3.heap.size) (i := 2) (List.mem_cons_self ..) rfl; have rc3 := hs6.cell (p := w3.heap.size) (i := 3) (List.mem_cons_self ..) rfl; have qc0 := hs6.cell (p := w.heap.size) (i := 0) (List.mem_cons_of_mem _ (List.mem_cons_of_mem _ (List.mem_cons_self ..))) rfl; have qf0 := hs6.free (p := w.heap.size) (i := 0) (List.mem_cons_of_mem _ (List.mem_cons_of_mem _ (List.mem_cons_self ..))); have qc1 := hs6.cell (p := w.heap.size) (i := 1) (List.mem_cons_of_mem _ (List.mem_cons_of_mem _ (List.mem_cons_self ..))) rfl; have qf1 := hs6.free (p := w.heap.size) (i := 1) (List.mem_cons_of_mem _ (List.mem_cons_of_mem _ (List.mem_cons_self ..))); have qc2 := hs6.cell (p := w.heap.size) (i := 2) (List.mem_cons_of_mem _ (List.mem_cons_of_mem _ (List.mem_cons_self ..))) rfl; have qf2 := hs6.free (p := w.heap.size) (i := 2) (List.mem_cons_of_mem _ (List.mem_cons_of_mem _ (List.mem_cons_self ..))); have qc3 := hs6.cell (p := w.heap.size) (i := 3) (List.mem_cons_of_mem _ (List.mem_cons_of_mem _ (List.mem_cons_self ..))) rfl; have qf3 := hs6.free (p := w.heap.size) (i := 3) (List.mem_cons_of_mem _ (List.mem_cons_of_mem _ (List.mem_cons_self ..))); have HM := Go.Lib.hid hs6; clear HE hs6))
        refine ⟨rfl, _, ?_, rfl, HM.out.four (List.mem_cons_of_mem _ (List.mem_cons_of_mem _ (List.mem_cons_self ..))) _ _ _ _⟩
        simp [results, Try.results8, go_sem, qc0, qc1, qc2, qc3]
      · rw [if_neg he]
        go_enter Try.func8, Try.ntmps8
        go_wp2_with (first
          | (go_at_call 18; refine HN.mono ?_; rintro r w1 ⟨bf, rfl, hs1⟩; have HB := byte_step N hs1 hB; clear HN hs1)
          | (go_at_call 19; refine HB.mono ?_; rintro r w2 ⟨rfl, hs2⟩; have HF1 := fail_step N hs2 hF; clear HB hs2)
          | (go_at_call 20; refine HF1.mono ?_; rintro r w2b ⟨⟨u1, rfl⟩, hs2b⟩; have HT := text_step N hs2b hT; clear HF1 hs2b)
          | (go_at_call 21; refine HT.mono ?_; rintro r w3 ⟨rfl, hs3⟩; have hqb := Nat.ne_of_lt (hs3.lt _ (List.mem_cons_self ..)); have HWd := word_step N (hs3.alloc #[.string ⟨⟨t⟩⟩, .int .i64 0, .int .i64 0, .int .i64 0] 23) hW; clear HT hs3)
          | (go_at_call 10; refine HWd.mono ?_; rintro r w4 ⟨rfl, hs4⟩; have HF2 := fail_step N hs4 hG; clear HWd hs4)
          | (go_at_call 20; refine HF2.mono ?_; rintro r w4b ⟨⟨u2, rfl⟩, hs4b⟩; have hs6 := hs4b.alloc #[.pointer (some ⟨w3.heap.size, 1, none⟩), .pointer (some ⟨w3.heap.size, 2, none⟩), .pointer (some ⟨w3.heap.size, 3, none⟩)] 35; have hd1 := Nat.ne_of_gt (hs4b.lt _ (List.mem_cons_self ..)); have hs7 := hs6.swap (L' := [(w3.heap.size, #[.string ⟨⟨t⟩⟩, .int .i64 0, .int .i64 0, .int .i64 0], 23), (w4b.heap.size, #[.pointer (some ⟨w3.heap.size, 1, none⟩), .pointer (some ⟨w3.heap.size, 2, none⟩), .pointer (some ⟨w3.heap.size, 3, none⟩)], 35), (w.heap.size, #[.string ⟨#[]⟩, .int .i64 0, .int .i64 0, .int .i64 0], 23)]) (by intro p hp; simp only [List.mem_cons, List.not_mem_nil, or_false] at hp ⊢; rcases hp with rfl | rfl | rfl <;> simp); have HG := gets_call N hd1 hqb hs7 h1 h2 h3; clear hs6 hs7 hd1; clear HF2 hs4b)
          | (go_at_call 22; refine HG.mono ?_; rintro r w5 ⟨⟨u3, rfl⟩, hs5⟩; have HE := end_step N hs5 hE; clear HG hs5)
          | (go_at_call 23; refine HE.mono ?_; rintro r w6 ⟨rfl, hs6⟩; have rc0 := hs6.cell (p := w3.heap.size) (i := 0) (List.mem_cons_self ..) rfl; have rc1 := hs6.cell (p := w3.heap.size) (i := 1) (List.mem_cons_self ..) rfl; have rc2 := hs6.cell (p := w3.heap.size) (i := 2) (List.mem_cons_self ..) rfl; have rc3 := hs6.cell (p := w3.heap.size) (i := 3) (List.mem_cons_self ..) rfl; have qc0 := hs6.cell (p := w.heap.size) (i := 0) (List.mem_cons_of_mem _ (List.mem_cons_of_mem _ (List.mem_cons_self ..))) rfl; have qf0 := hs6.free (p := w.heap.size) (i := 0) (List.mem_cons_of_mem _ (List.mem_cons_of_mem _ (List.mem_cons_self ..))); have qc1 := hs6.cell (p := w.heap.size) (i := 1) (List.mem_cons_of_mem _ (List.mem_cons_of_mem _ (List.mem_cons_self ..))) rfl; have qf1 := hs6.free (p := w.heap.size) (i := 1) (List.mem_cons_of_mem _ (List.mem_cons_of_mem _ (List.mem_cons_self ..))); have qc2 := hs6.cell (p := w.heap.size) (i := 2) (List.mem_cons_of_mem _ (List.mem_cons_of_mem _ (List.mem_cons_self ..))) rfl; have qf2 := hs6.free (p := w.heap.size) (i := 2) (List.mem_cons_of_mem _ (List.mem_cons_of_mem _ (List.mem_cons_self ..))); have qc3 := hs6.cell (p := w.heap.size) (i := 3) (List.mem_cons_of_mem _ (List.mem_cons_of_mem _ (List.mem_cons_self ..))) rfl; have qf3 := hs6.free (p := w.heap.size) (i := 3) (List.mem_cons_of_mem _ (List.mem_cons_of_mem _ (List.mem_cons_self ..))); have HM := Go.Lib.hid hs6; clear HE hs6))
        refine ⟨rfl, _, ?_, rfl, HM.out.four (List.mem_cons_of_mem _ (List.mem_cons_of_mem _ (List.mem_cons_self ..))) _ _ _ _⟩
        simp [results, Try.results8, go_sem, qc0, qc1, qc2, qc3]

theorem ends_of_calm {w w' : World} {S : Hp} {args : List A} {vals : List Value} {ob : Nat → List Nat} {rA : A} {rV : Value} {outs : List A}
    (hb : ∀ y ∈ args, isBoxA y = false) (hob : ∀ i, ob i = []) (hC : Calm w S w') (hr : ∀ S', ARel (hp w') S' (fun _ => undef) rA rV []) (hrr : rA.refs = []) : Lift.Ends w S args vals ob rA outs (.returned rV) w' := by
  obtain ⟨S', h1, h2, h3, h4⟩ := hC
  refine ⟨rV, S', [], ob, rfl, ⟨h1.size, fun k hk _ => h1.same k hk (fun h => h), h1.tape, h1.os, h1.output⟩, h2, h3, fun k hk => ?_, ⟨hr S', hrr⟩, (fun k hk => by cases hk), .nil, ?_, ?_, ?_, ?_, fun _ h => h⟩
  · rcases h4 k hk with h | h
    · exact .inl h
    · exact .inr (.inr h)
  · intro i y hy hbx
    have := hb y (List.mem_of_getElem? hy)
    rw [hbx] at this
    cases this
  · intro i k hk
    rw [hob i] at hk
    cases hk
  · intro i j k hi
    rw [hob i] at hi
    cases hi
  · intro i
    rw [hob i]
    exact .nil

noncomputable def rootid_Put (N : Nat) (r : RootT.den) : Option (List UInt8 × Int × Unit) :=
  (name_Word N r.1).bind fun ok =>
  cond (!ok) (some ([], (4, ())))
  ((rootid_nums N [r.2.1, r.2.2.1, r.2.2.2.1] []).bind fun y =>
    cond (!y.2) (some ([], (3, ())))
    ((field_Text N r.1).bind fun t =>
      cond (decide (1 + t.length ≤ 9223372036854775807 ∧ 1 + t.length + y.1.length ≤ 9223372036854775807)) (some ([1] ++ t ++ y.1, (0, ()))) none))

theorem put_call (N : Nat) {w : World} {S : Hp} {t x : List UInt8} {k e n f : Int} (hS : Lift.Sub S (hp w)) (hy : rootid_Put N (t, k, e, n, ()) = some (x, (f, ()))) :
    Calls Try.prog 6 #[.agg #[.string ⟨⟨t⟩⟩, .int .i64 k, .int .i64 e, .int .i64 n]] w fun r w' => r = .returned (.tuple #[.string ⟨⟨x⟩⟩, .int .i64 f]) ∧ Calm w S w' := by
  unfold rootid_Put at hy
  dsimp only at hy
  cases hw : name_Word N t with
  | none => rw [hw] at hy; cases hy
  | some ok =>
  rw [hw, Option.bind_some] at hy
  cases ok with
  | false =>
    cases hy
    exact put_word N hS hw
  | true =>
    rw [Bool.not_true, cond_false] at hy
    cases hn : rootid_nums N [k, e, n] [] with
    | none => rw [hn] at hy; cases hy
    | some y =>
    obtain ⟨out, ok⟩ := y
    rw [hn, Option.bind_some] at hy
    dsimp only at hy
    cases ok with
    | false =>
      cases hy
      exact put_on N hS hw hn (.inl ⟨rfl, rfl, rfl⟩)
    | true =>
      rw [Bool.not_true, cond_false] at hy
      cases ht : field_Text N t with
      | none => rw [ht] at hy; cases hy
      | some y =>
      rw [ht, Option.bind_some] at hy
      by_cases hl : 1 + y.length ≤ 9223372036854775807 ∧ 1 + y.length + out.length ≤ 9223372036854775807
      · rw [decide_eq_true hl] at hy
        cases hy
        exact put_on N hS hw hn (.inr ⟨rfl, rfl, y, ht, rfl, hl.1, hl.2⟩)
      · rw [decide_eq_false hl] at hy
        cases hy

theorem root_inv {S : Hp} {t : List UInt8} {k e n : Int} {v : Value} (h : VR S RootT (t, k, e, n, ()) v) : v = .agg #[.string ⟨⟨t⟩⟩, .int .i64 k, .int .i64 e, .int .i64 n] := by
  have h' : ∃ cs, v = .agg cs ∧ Rd S RootT (t, k, e, n, ()) cs.toList := h
  obtain ⟨cs, rfl, c1, c2, hc, k1, c3, c4, hc', k2, c5, c6, hc'', k3, c7, c8, hc3, k4, k5⟩ := h'
  have e1 : c1 = [.string ⟨⟨t⟩⟩] := k1
  have e2 : c3 = [.int .i64 k] := k2
  have e3 : c5 = [.int .i64 e] := k3
  have e4 : c7 = [.int .i64 n] := k4
  have e5 : c8 = [] := k5
  congr 1
  apply Array.toList_inj.1
  rw [hc, hc', hc'', hc3, e1, e2, e3, e4, e5]
  rfl

theorem root_rel (S : Hp) (t : List UInt8) (k e n : Int) : VR S RootT (t, k, e, n, ()) (.agg #[.string ⟨⟨t⟩⟩, .int .i64 k, .int .i64 e, .int .i64 n]) :=
  show ∃ cs, _ = Value.agg cs ∧ Rd S RootT (t, k, e, n, ()) cs.toList from
    ⟨_, rfl, [.string ⟨⟨t⟩⟩], _, rfl, rfl, [.int .i64 k], _, rfl, rfl, [.int .i64 e], _, rfl, rfl, [.int .i64 n], [], rfl, rfl, rfl⟩

noncomputable def rootid_Put_res (N : Nat) : List A → Res := resOf [(0, .v (.pair .str (.pair (.int .i64) (.pair (.int .i64) (.pair (.int .i64) .unit)))))] (fun x => rootid_Put N x.1) (oRes (.tup [.str, (.int .i64)]) 1)

theorem rootid_Put_ct (N : Nat) : Contract Try.prog noGlob 6 (rootid_Put_res N) := by
  refine Contract.hand ⟨_, Try.func6, by kernel_rfl, by decide⟩ ?_
  intro w S vals ob x y har hS hg hy
  obtain ⟨⟨t, k, e, n, u⟩, u'⟩ := x
  cases u
  cases u'
  obtain ⟨s, f, u⟩ := y
  cases u
  obtain ⟨⟨v0, hv0, hA0, ho0⟩, _⟩ := har.rel 0 _ rfl
  have hvals : vals = [v0] := by
    match vals, har.len with
    | [a], _ => cases hv0; rfl
  have e0 := root_inv hA0
  subst e0
  subst hvals
  refine (put_call N hS hy).mono ?_
  rintro r w' ⟨rfl, hC⟩
  exact ends_of_calm (fun y hy => by rw [List.mem_singleton.1 hy]; rfl) (fun i => by
    match i with
    | 0 => exact ho0
    | i + 1 => exact har.out _ (by simp [mkS, deads])) hC (fun S' => ⟨rfl, _, rfl, .cons VR.str (.cons VR.int .nil)⟩) rfl

noncomputable def rootid_Get (N : Nat) (s : List UInt8) : Option (RootT.den × Int × Unit) :=
  (field_Reader_Byte N (true, (s, (0, ())))).bind fun y0 =>
  (cond (decide (y0.1 = 1)) (some y0.2.1) ((field_Reader_Fail N y0.2.1 2).bind fun z => some z.2.1)).bind fun x1 =>
  (field_Reader_Text N x1 32).bind fun y2 =>
  (name_Word N y2.1).bind fun ok =>
  (cond ok (some y2.2.1) ((field_Reader_Fail N y2.2.1 4).bind fun z => some z.2.1)).bind fun x3 =>
  (field_Reader_Num N x3 1099511627776).bind fun n1 =>
  (field_Reader_Num N n1.2.1 1099511627776).bind fun n2 =>
  (field_Reader_Num N n2.2.1 1099511627776).bind fun n3 =>
  (field_Reader_End N n3.2.1).bind fun y =>
  some (if y.1 = 0 then (y2.1, Go.RowKit.wrap64 n1.1, Go.RowKit.wrap64 n2.1, Go.RowKit.wrap64 n3.1, ()) else ([], 0, 0, 0, ()), (y.1, ()))

theorem got_call (N : Nat) {w : World} {S : Hp} {s : List UInt8} {y : RootT.den × Int × Unit} (hS : Lift.Sub S (hp w)) (hy : rootid_Get N s = some y) :
    Calls Try.prog 8 #[.string ⟨⟨s⟩⟩] w fun r w' => r = .returned (.tuple #[.agg #[.string ⟨⟨y.1.1⟩⟩, .int .i64 y.1.2.1, .int .i64 y.1.2.2.1, .int .i64 y.1.2.2.2.1], .int .i64 y.2.1]) ∧ Calm w S w' := by
  unfold rootid_Get at hy
  cases hB : field_Reader_Byte N (true, (s, (0, ()))) with
  | none => rw [hB] at hy; cases hy
  | some y0 =>
  obtain ⟨v, x0, u⟩ := y0
  cases u
  rw [hB, Option.bind_some] at hy
  dsimp only at hy
  have hF : ∃ x1, (cond (decide (v = 1)) (some x0) ((field_Reader_Fail N x0 2).bind fun z => some z.2.1)) = some x1 ∧ (v = 1 ∧ x1 = x0 ∨ v ≠ 1 ∧ field_Reader_Fail N x0 2 = some ((), (x1, ()))) := by
    by_cases hv : v = 1
    · exact ⟨x0, by rw [decide_eq_true hv]; rfl, .inl ⟨hv, rfl⟩⟩
    · rw [decide_eq_false hv, cond_false] at hy ⊢
      cases hf : field_Reader_Fail N x0 2 with
      | none => rw [hf] at hy; cases hy
      | some z =>
        obtain ⟨z1, z2, z3⟩ := z
        cases z1
        cases z3
        exact ⟨z2, rfl, .inr ⟨hv, rfl⟩⟩
  obtain ⟨x1, e1, hF⟩ := hF
  rw [e1, Option.bind_some] at hy
  cases hT : field_Reader_Text N x1 32 with
  | none => rw [hT] at hy; cases hy
  | some y2 =>
  obtain ⟨t, x2, u⟩ := y2
  cases u
  rw [hT, Option.bind_some] at hy
  dsimp only at hy
  cases hW : name_Word N t with
  | none => rw [hW] at hy; cases hy
  | some ok =>
  rw [hW, Option.bind_some] at hy
  have hG : ∃ x3, (cond ok (some x2) ((field_Reader_Fail N x2 4).bind fun z => some z.2.1)) = some x3 ∧ (ok = true ∧ x3 = x2 ∨ ok = false ∧ field_Reader_Fail N x2 4 = some ((), (x3, ()))) := by
    cases ok with
    | true => exact ⟨x2, rfl, .inl ⟨rfl, rfl⟩⟩
    | false =>
      rw [cond_false] at hy ⊢
      cases hf : field_Reader_Fail N x2 4 with
      | none => rw [hf] at hy; cases hy
      | some z =>
        obtain ⟨z1, z2, z3⟩ := z
        cases z1
        cases z3
        exact ⟨z2, rfl, .inr ⟨rfl, rfl⟩⟩
  obtain ⟨x3, e3, hG⟩ := hG
  rw [e3, Option.bind_some] at hy
  cases h1 : field_Reader_Num N x3 1099511627776 with
  | none => rw [h1] at hy; cases hy
  | some y =>
  obtain ⟨n1, x4, u⟩ := y
  cases u
  rw [h1, Option.bind_some] at hy
  dsimp only at hy
  cases h2 : field_Reader_Num N x4 1099511627776 with
  | none => rw [h2] at hy; cases hy
  | some y =>
  obtain ⟨n2, x5, u⟩ := y
  cases u
  rw [h2, Option.bind_some] at hy
  dsimp only at hy
  cases h3 : field_Reader_Num N x5 1099511627776 with
  | none => rw [h3] at hy; cases hy
  | some y =>
  obtain ⟨n3, x6, u⟩ := y
  cases u
  rw [h3, Option.bind_some] at hy
  dsimp only at hy
  cases hE : field_Reader_End N x6 with
  | none => rw [hE] at hy; cases hy
  | some y =>
  obtain ⟨e, x7, u⟩ := y
  cases u
  rw [hE, Option.bind_some] at hy
  cases hy
  refine (get_call N hS hB hF hT hW hG h1 h2 h3 hE).mono ?_
  rintro r w' ⟨rfl, hC⟩
  refine ⟨?_, hC⟩
  dsimp only
  by_cases he : e = 0
  · rw [if_pos he, if_pos he]
  · rw [if_neg he, if_neg he]

noncomputable def rootid_Get_res (N : Nat) : List A → Res := resOf [(0, .v .str)] (fun x => rootid_Get N x.1) (oRes (.tup [(.pair .str (.pair (.int .i64) (.pair (.int .i64) (.pair (.int .i64) .unit)))), (.int .i64)]) 1)

theorem rootid_Get_ct (N : Nat) : Contract Try.prog noGlob 8 (rootid_Get_res N) := by
  refine Contract.hand ⟨_, Try.func8, by kernel_rfl, by decide⟩ ?_
  intro w S vals ob x y har hS hg hy
  obtain ⟨s, u⟩ := x
  cases u
  obtain ⟨⟨t, k, e, n, u⟩, f, u'⟩ := y
  cases u
  cases u'
  obtain ⟨⟨v0, hv0, hA0, ho0⟩, _⟩ := har.rel 0 _ rfl
  have hvals : vals = [v0] := by
    match vals, har.len with
    | [a], _ => cases hv0; rfl
  have e0 := VR.str_inv hA0
  subst e0
  subst hvals
  refine (got_call N hS hy).mono ?_
  rintro r w' ⟨rfl, hC⟩
  exact ends_of_calm (fun y hy => by rw [List.mem_singleton.1 hy]; rfl) (fun i => by
    match i with
    | 0 => exact ho0
    | i + 1 => exact har.out _ (by simp [mkS, deads])) hC (fun S' => ⟨rfl, _, rfl, .cons (root_rel _ _ _ _ _) (.cons VR.int .nil)⟩) rfl

abbrev porterlaw29_works_R : Type := Bool

noncomputable def porterlaw29_works_body : Code := (Go.Proofs.Try.f5.body).getD .skip

noncomputable def porterlaw29_works_L : List (List Nat × List Nat) := [([0], []), ([0, 1], [1]), ([0, 1, 1], [2, 3, 1]), ([0, 1, 1, 1], [2, 3, 4, 1, 5]), ([0, 1, 1, 1, 1], [0]), ([1, 1, 1, 1, 1], [0])]

noncomputable def porterlaw29_works_E (N : Nat) : Env := mkEnv tys noGlob [(8, rootid_Get_res N), (6, rootid_Put_res N)] [] [] [] false [] []

theorem porterlaw29_works_Eok (N : Nat) : EnvOk Go.Proofs.Try.prog (porterlaw29_works_E N) := mkEnv_ok mixed tys_ok (FnsOk.cons (rootid_Get_ct N) (FnsOk.cons (rootid_Put_ct N) (FnsOk.nil))) (ItsOk.nil)

noncomputable def porterlaw29_works (N : Nat) : Option Bool :=
  (rootid_Put N (([(97 : UInt8), (99 : UInt8), (109 : UInt8), (101 : UInt8)] : List UInt8), ((1 : Int), ((0 : Int), ((300 : Int), ()))))).bind fun y =>
  (rootid_Get N y.1).bind fun y1 =>
  cond (y.1 == ([(1 : UInt8), (4 : UInt8), (97 : UInt8), (99 : UInt8), (109 : UInt8), (101 : UInt8), (1 : UInt8), (0 : UInt8), (172 : UInt8), (2 : UInt8)] : List UInt8))
  (cond (y.2.1 == (0 : Int))
    (cond (Go.Lift.eqD (Go.Lift.T.pair Go.Lift.T.str (Go.Lift.T.pair (Go.Lift.T.int Go.IntKind.i64) (Go.Lift.T.pair (Go.Lift.T.int Go.IntKind.i64) (Go.Lift.T.pair (Go.Lift.T.int Go.IntKind.i64) Go.Lift.T.unit)))) y1.1 (([(97 : UInt8), (99 : UInt8), (109 : UInt8), (101 : UInt8)] : List UInt8), ((1 : Int), ((0 : Int), ((300 : Int), ())))))
      (some (y1.2.1 == (0 : Int)))
      (some false))
    (some false))
  (some false)

noncomputable def porterlaw29_works_t (N : Nat) : Tab Bool := []

theorem porterlaw29_works_link (N : Nat) (x : denS []) : evFX (porterlaw29_works_E N) N (porterlaw29_works_t N) porterlaw29_works_L Go.Proofs.Try.f5 (mkS [] 0 x) (kRes (.v .bool) 0) = porterlaw29_works N := by kernel_rfl

noncomputable def porterlaw29_works_res (N : Nat) : List A → Res := resOf [] (fun x => porterlaw29_works N) (oRes (.v .bool) 0)

theorem porterlaw29_works_ct (N : Nat) : Contract Go.Proofs.Try.prog noGlob 5 (porterlaw29_works_res N) :=
  Contract.of (E := porterlaw29_works_E N) (H := porterlaw29_works_t N) (L := porterlaw29_works_L) (N := N) (body := porterlaw29_works_body) (K := (kRes (.v .bool) 0)) (porterlaw29_works_Eok N) Go.Proofs.Try.func5 (by kernel_rfl) (by decide) (fun _ hb => TabOk.nil) (fun x y h => by rw [porterlaw29_works_link]; exact h) (kRes_ok (s := (.v .bool)) (m := 0))

abbrev porterref09_Word_R : Type := Bool

noncomputable def porterref09_Word_body : Code := (Go.Proofs.Try.f13.body).getD .skip

noncomputable def porterref09_Word_L : List (List Nat × List Nat) := [([0], [0]), ([0, 0, 1], [13, 0]), ([1, 0, 1], [0]), ([0, 0, 1, 0, 1], [2]), ([1, 0, 1, 0, 1], [2]), ([0, 0, 1, 1], [3, 0]), ([0, 1, 0, 1, 1], [3, 0]), ([0, 0, 0, 0, 1, 0, 1, 1], [17, 0, 3]), ([1, 0, 0, 0, 1, 0, 1, 1], [0, 3]), ([1, 1, 0, 0, 0, 1, 0, 1, 1], []), ([0, 0, 0, 1, 0, 0, 1, 0, 1, 1], [0, 3, 4]), ([0, 1, 0, 0, 1, 0, 0, 1, 0, 1, 1], [4, 3, 5, 0]), ([0, 1, 1, 0, 0, 1, 0, 0, 1, 0, 1, 1], [55, 3, 0]), ([1, 1, 1, 0, 0, 1, 0, 0, 1, 0, 1, 1], [3, 0]), ([0, 0, 1, 1, 1, 0, 0, 1, 0, 0, 1, 0, 1, 1], [2]), ([1, 0, 1, 1, 1, 0, 0, 1, 0, 0, 1, 0, 1, 1], [2]), ([0, 1, 0, 0, 1, 0, 1, 1], [3, 0]), ([1, 1, 0, 0, 1, 0, 1, 1], [3, 0]), ([1, 0, 1, 1], []), ([0, 1, 1, 1], [2]), ([1, 1, 1, 1], [2])]

noncomputable def porterref09_Word_E (N : Nat) : Env := mkEnv tys noGlob [] [] [] [] false [] []

theorem porterref09_Word_Eok (N : Nat) : EnvOk Go.Proofs.Try.prog (porterref09_Word_E N) := mkEnv_ok mixed tys_ok (FnsOk.nil) (ItsOk.nil)

noncomputable def porterref09_Word_p2 (N : Nat) (s : (List UInt8)) (k0 : Bool → Option Bool) : Option Bool :=
  cond (decide ((((List.length s) : Nat) : Int) < (1 : Int)))
  (k0 true)
  (k0 (decide ((32 : Int) < (((List.length s) : Nat) : Int))))

noncomputable def porterref09_Word_g2 (N : Nat) (x : denS [(0, .v .str)]) (K : Ex → List A → Option Bool) : Option Bool :=
  porterref09_Word_p2 N x.1 (fun a1 => (K .normal (mkS [(0, .v .str), (12, .v .bool)] 42 (x.1, a1, ()))))

noncomputable def porterref09_Word_h2 (N : Nat) : Hd Bool := fun st K => (unS [(0, .v .str)] 55 (restr [0] 0 st)).bind fun x => porterref09_Word_g2 N x K

noncomputable def porterref09_Word_t2 (N : Nat) : Tab Bool := []

theorem porterref09_Word_ok2 {N : Nat} {c : Ctx} (hb : Base Go.Proofs.Try.prog (porterref09_Word_E N) c) : CodeOk Go.Proofs.Try.prog c (nodeAt porterref09_Word_body [0, 0, 1]) (porterref09_Word_h2 N) :=
  piece_ok (s := [(0, .v .str)]) (m := 55) (g := porterref09_Word_g2 N) [0] (evN_sound hb N (porterref09_Word_t2 N) porterref09_Word_L porterref09_Word_body TabOk.nil [0, 0, 1] _ rfl) (fun x K => by kernel_rfl)

noncomputable def porterref09_Word_p1 (N : Nat) (s : (List UInt8)) (k0 : Bool → Option Bool) (k1 : Option Bool) : Option Bool :=
  porterref09_Word_p2 N s
  (fun x13 => cond x13
    (k0 false)
    (k1))

noncomputable def porterref09_Word_g1 (N : Nat) (x : denS [(0, .v .str)]) (K : Ex → List A → Option Bool) : Option Bool :=
  porterref09_Word_p1 N x.1 (fun a0 => (K .ret (mkS [(2, .v .bool)] 53 (a0, ())))) (K .normal (mkS [(0, .v .str)] 55 (x.1, ())))

noncomputable def porterref09_Word_h1 (N : Nat) : Hd Bool := fun st K => (unS [(0, .v .str)] 55 (restr [0] 0 st)).bind fun x => porterref09_Word_g1 N x K

noncomputable def porterref09_Word_t1 (N : Nat) : Tab Bool := [([0, 0, 1], porterref09_Word_h2 N)]

theorem porterref09_Word_ok1 {N : Nat} {c : Ctx} (hb : Base Go.Proofs.Try.prog (porterref09_Word_E N) c) : CodeOk Go.Proofs.Try.prog c (nodeAt porterref09_Word_body [0, 1]) (porterref09_Word_h1 N) :=
  piece_ok (s := [(0, .v .str)]) (m := 55) (g := porterref09_Word_g1 N) [0] (evN_sound hb N (porterref09_Word_t1 N) porterref09_Word_L porterref09_Word_body (TabOk.cons (porterref09_Word_ok2 hb) TabOk.nil) [0, 1] _ rfl) (fun x K => by kernel_rfl)

noncomputable def porterref09_Word_p5 (N : Nat) (s : (List UInt8)) (i : Int) (k0 : Bool → Option Bool) : Option Bool :=
  cond (Go.Lift.inR i (List.length s))
  (cond (decide ((97 : Int) ≤ (((UInt8.toNat (List.getD s (Int.toNat i) (0 : UInt8))) : Nat) : Int)))
    (cond (Go.Lift.inR i (List.length s))
      (k0 (decide ((((UInt8.toNat (List.getD s (Int.toNat i) (0 : UInt8))) : Nat) : Int) ≤ (122 : Int))))
      (none))
    (k0 false))
  (none)

noncomputable def porterref09_Word_g5 (N : Nat) (x : denS [(0, .v .str), (2, .v (.int .i64))]) (K : Ex → List A → Option Bool) : Option Bool :=
  porterref09_Word_p5 N x.1 x.2.1 (fun a2 => (K .normal (mkS [(0, .v .str), (2, .v (.int .i64)), (0, .v .bool)] 51 (x.1, x.2.1, a2, ()))))

noncomputable def porterref09_Word_h5 (N : Nat) : Hd Bool := fun st K => (unS [(0, .v .str), (2, .v (.int .i64))] 52 (restr [0, 3] 0 st)).bind fun x => porterref09_Word_g5 N x K

noncomputable def porterref09_Word_t5 (N : Nat) : Tab Bool := []

theorem porterref09_Word_ok5 {N : Nat} {c : Ctx} (hb : Base Go.Proofs.Try.prog (porterref09_Word_E N) c) : CodeOk Go.Proofs.Try.prog c (nodeAt porterref09_Word_body [0, 0, 0, 1, 0, 0, 1, 0, 1, 1]) (porterref09_Word_h5 N) :=
  piece_ok (s := [(0, .v .str), (2, .v (.int .i64))]) (m := 52) (g := porterref09_Word_g5 N) [0, 3] (evN_sound hb N (porterref09_Word_t5 N) porterref09_Word_L porterref09_Word_body TabOk.nil [0, 0, 0, 1, 0, 0, 1, 0, 1, 1] _ rfl) (fun x K => by kernel_rfl)

noncomputable def porterref09_Word_p6 (N : Nat) (s : (List UInt8)) (i : Int) (small : Bool) (k0 : Bool → Option Bool) : Option Bool :=
  cond (Go.Lift.inR i (List.length s))
  (cond ((((UInt8.toNat (List.getD s (Int.toNat i) (0 : UInt8))) : Nat) : Int) == (45 : Int))
    (k0 true)
    (cond (Go.Lift.inR i (List.length s))
      (cond (decide ((48 : Int) ≤ (((UInt8.toNat (List.getD s (Int.toNat i) (0 : UInt8))) : Nat) : Int)))
        (cond (Go.Lift.inR i (List.length s))
          (k0 (decide ((((UInt8.toNat (List.getD s (Int.toNat i) (0 : UInt8))) : Nat) : Int) ≤ (57 : Int))))
          (none))
        (k0 false))
      (none)))
  (none)

noncomputable def porterref09_Word_g6 (N : Nat) (x : denS [(0, .v .str), (2, .v (.int .i64)), (0, .v .bool)]) (K : Ex → List A → Option Bool) : Option Bool :=
  porterref09_Word_p6 N x.1 x.2.1 x.2.2.1 (fun a3 => (K .normal (mkS [(0, .v .str), (2, .v (.int .i64)), (0, .v .bool), (0, .v .bool)] 50 (x.1, x.2.1, x.2.2.1, a3, ()))))

noncomputable def porterref09_Word_h6 (N : Nat) : Hd Bool := fun st K => (unS [(0, .v .str), (2, .v (.int .i64)), (0, .v .bool)] 51 (restr [0, 3, 4] 0 st)).bind fun x => porterref09_Word_g6 N x K

noncomputable def porterref09_Word_t6 (N : Nat) : Tab Bool := []

theorem porterref09_Word_ok6 {N : Nat} {c : Ctx} (hb : Base Go.Proofs.Try.prog (porterref09_Word_E N) c) : CodeOk Go.Proofs.Try.prog c (nodeAt porterref09_Word_body [0, 1, 0, 0, 1, 0, 0, 1, 0, 1, 1]) (porterref09_Word_h6 N) :=
  piece_ok (s := [(0, .v .str), (2, .v (.int .i64)), (0, .v .bool)]) (m := 51) (g := porterref09_Word_g6 N) [0, 3, 4] (evN_sound hb N (porterref09_Word_t6 N) porterref09_Word_L porterref09_Word_body TabOk.nil [0, 1, 0, 0, 1, 0, 0, 1, 0, 1, 1] _ rfl) (fun x K => by kernel_rfl)

noncomputable def porterref09_Word_p7 (N : Nat) (s : (List UInt8)) (i : Int) (small : Bool) (other : Bool) (k0 : Bool → Option Bool) : Option Bool :=
  cond (!small)
  (cond (i == (0 : Int))
    (k0 true)
    (k0 (!other)))
  (k0 false)

noncomputable def porterref09_Word_g7 (N : Nat) (x : denS [(0, .v .str), (2, .v (.int .i64)), (0, .v .bool), (0, .v .bool)]) (K : Ex → List A → Option Bool) : Option Bool :=
  porterref09_Word_p7 N x.1 x.2.1 x.2.2.1 x.2.2.2.1 (fun a2 => (K .normal (mkS [(0, .v .str), (2, .v (.int .i64)), (51, .v .bool)] 0 (x.1, x.2.1, a2, ()))))

noncomputable def porterref09_Word_h7 (N : Nat) : Hd Bool := fun st K => (unS [(0, .v .str), (2, .v (.int .i64)), (0, .v .bool), (0, .v .bool)] 50 (restr [4, 3, 5, 0] 0 st)).bind fun x => porterref09_Word_g7 N x K

noncomputable def porterref09_Word_t7 (N : Nat) : Tab Bool := []

theorem porterref09_Word_ok7 {N : Nat} {c : Ctx} (hb : Base Go.Proofs.Try.prog (porterref09_Word_E N) c) : CodeOk Go.Proofs.Try.prog c (nodeAt porterref09_Word_body [0, 1, 1, 0, 0, 1, 0, 0, 1, 0, 1, 1]) (porterref09_Word_h7 N) :=
  piece_ok (s := [(0, .v .str), (2, .v (.int .i64)), (0, .v .bool), (0, .v .bool)]) (m := 50) (g := porterref09_Word_g7 N) [4, 3, 5, 0] (evN_sound hb N (porterref09_Word_t7 N) porterref09_Word_L porterref09_Word_body TabOk.nil [0, 1, 1, 0, 0, 1, 0, 0, 1, 0, 1, 1] _ rfl) (fun x K => by kernel_rfl)

noncomputable def porterref09_Word_p4 (N : Nat) (s : (List UInt8)) (i : Int) (k0 : Bool → Option Bool) (k1 : Option Bool) : Option Bool :=
  porterref09_Word_p5 N s i
  (fun small => porterref09_Word_p6 N s i small
    (fun other => porterref09_Word_p7 N s i small other
      (fun x55 => cond x55
        (k0 false)
        (k1))))

noncomputable def porterref09_Word_g4 (N : Nat) (x : denS [(0, .v .str), (2, .v (.int .i64))]) (K : Ex → List A → Option Bool) : Option Bool :=
  porterref09_Word_p4 N x.1 x.2.1 (fun a0 => (K .ret (mkS [(2, .v .bool)] 53 (a0, ())))) (K .normal (mkS [(0, .v .str), (2, .v (.int .i64))] 52 (x.1, x.2.1, ())))

noncomputable def porterref09_Word_h4 (N : Nat) : Hd Bool := fun st K => (unS [(0, .v .str), (2, .v (.int .i64))] 52 (restr [0, 3] 0 st)).bind fun x => porterref09_Word_g4 N x K

noncomputable def porterref09_Word_t4 (N : Nat) : Tab Bool := [([0, 0, 0, 1, 0, 0, 1, 0, 1, 1], porterref09_Word_h5 N), ([0, 1, 0, 0, 1, 0, 0, 1, 0, 1, 1], porterref09_Word_h6 N), ([0, 1, 1, 0, 0, 1, 0, 0, 1, 0, 1, 1], porterref09_Word_h7 N)]

theorem porterref09_Word_ok4 {N : Nat} {c : Ctx} (hb : Base Go.Proofs.Try.prog (porterref09_Word_E N) c) : CodeOk Go.Proofs.Try.prog c (nodeAt porterref09_Word_body [0, 1, 0, 0, 1, 0, 1, 1]) (porterref09_Word_h4 N) :=
  piece_ok (s := [(0, .v .str), (2, .v (.int .i64))]) (m := 52) (g := porterref09_Word_g4 N) [0, 3] (evN_sound hb N (porterref09_Word_t4 N) porterref09_Word_L porterref09_Word_body (TabOk.cons (porterref09_Word_ok5 hb) (TabOk.cons (porterref09_Word_ok6 hb) (TabOk.cons (porterref09_Word_ok7 hb) TabOk.nil))) [0, 1, 0, 0, 1, 0, 1, 1] _ rfl) (fun x K => by kernel_rfl)

noncomputable def porterref09_Word_s3 (N : Nat) (s : (List UInt8)) (i : Int) (rec : Int → Option Bool) (k0 : Bool → Option Bool) (k1 : Option Bool) : Option Bool :=
  cond (decide (i < (((List.length s) : Nat) : Int)))
  (porterref09_Word_p4 N s i
    (fun x2 => k0 x2)
    (rec (Go.IntKind.wrap Go.IntKind.i64 (i + (1 : Int)))))
  (k1)

noncomputable def porterref09_Word_p3 (N : Nat) (s : (List UInt8)) (i : Int) (k0 : Bool → Option Bool) (k1 : Option Bool) : Option Bool :=
  iter (fun (v : Int) r => porterref09_Word_s3 N s v (fun i => (r i)) k0 k1) N i

noncomputable def porterref09_Word_g3 (N : Nat) (i : (List UInt8)) (v : Int) (r : Int → Option Bool) (K : Ex → List A → Option Bool) : Option Bool :=
  porterref09_Word_s3 N i v (fun i => (r i)) (fun a0 => (K .ret (mkS [(2, .v .bool)] 53 (a0, ())))) (K (.exit 0) (mkS [] 56 ()))

noncomputable def porterref09_Word_h3 (N : Nat) : Hd Bool := fun st K => (unS [(0, .v .str), (2, .v (.int .i64))] 52 (restr [3, 0] 0 st)).bind fun x => iter (fun v r => porterref09_Word_g3 N ((fun x => x.1) x) v r K) N ((fun x => x.2.1) x)

noncomputable def porterref09_Word_t3 (N : Nat) : Tab Bool := [([0, 1, 0, 0, 1, 0, 1, 1], porterref09_Word_h4 N)]

theorem porterref09_Word_ok3 {N : Nat} {c : Ctx} (hb : Base Go.Proofs.Try.prog (porterref09_Word_E N) c) : CodeOk Go.Proofs.Try.prog c (nodeAt porterref09_Word_body [0, 1, 0, 1, 1]) (porterref09_Word_h3 N) :=
  loop_ok (s := [(0, .v .str), (2, .v (.int .i64))]) (m := 52) (porterref09_Word_g3 N) [3, 0] N (fun x => x.1) (fun x => x.2.1) (fun i v => (i, v, ())) (fun _ => rfl) (evN_sound hb N (porterref09_Word_t3 N) porterref09_Word_L porterref09_Word_body (TabOk.cons (porterref09_Word_ok4 hb) TabOk.nil) [0, 0, 1, 0, 1, 1] _ rfl) (fun i v r K => by kernel_rfl)

noncomputable def porterref09_Word (N : Nat) (s : (List UInt8)) : Option Bool :=
  porterref09_Word_p1 N s
  (fun x2 => some x2)
  (porterref09_Word_p3 N s (0 : Int)
    (fun x21 => some x21)
    (some true))

noncomputable def porterref09_Word_t (N : Nat) : Tab Bool := [([0, 1], porterref09_Word_h1 N), ([0, 1, 0, 1, 1], porterref09_Word_h3 N)]

theorem porterref09_Word_link (N : Nat) (x : denS [(0, .v .str)]) : evFX (porterref09_Word_E N) N (porterref09_Word_t N) porterref09_Word_L Go.Proofs.Try.f13 (mkS [(0, .v .str)] 0 x) (kRes (.v .bool) 1) = porterref09_Word N x.1 := by kernel_rfl

noncomputable def porterref09_Word_res (N : Nat) : List A → Res := resOf [(0, .v .str)] (fun x => porterref09_Word N x.1) (oRes (.v .bool) 1)

theorem porterref09_Word_ct (N : Nat) : Contract Go.Proofs.Try.prog noGlob 13 (porterref09_Word_res N) :=
  Contract.of (E := porterref09_Word_E N) (H := porterref09_Word_t N) (L := porterref09_Word_L) (N := N) (body := porterref09_Word_body) (K := (kRes (.v .bool) 1)) (porterref09_Word_Eok N) Go.Proofs.Try.func13 (by kernel_rfl) (by decide) (fun _ hb => (TabOk.cons (porterref09_Word_ok1 hb) (TabOk.cons (porterref09_Word_ok3 hb) TabOk.nil))) (fun x y h => by rw [porterref09_Word_link]; exact h) (kRes_ok (s := (.v .bool)) (m := 1))

abbrev porterref29_bad_R : Type := Bool

noncomputable def porterref29_bad_body : Code := (Go.Proofs.Try.f14.body).getD .skip

noncomputable def porterref29_bad_L : List (List Nat × List Nat) := [([0], [0]), ([0, 1], [2]), ([1, 1], [2])]

noncomputable def porterref29_bad_E (N : Nat) : Env := mkEnv tys noGlob [] [] [] [] false [] []

theorem porterref29_bad_Eok (N : Nat) : EnvOk Go.Proofs.Try.prog (porterref29_bad_E N) := mkEnv_ok mixed tys_ok (FnsOk.nil) (ItsOk.nil)

noncomputable def porterref29_bad (N : Nat) (n : Int) : Option Bool :=
  cond (decide (n < (0 : Int)))
  (some true)
  (some (decide ((1099511627776 : Int) < n)))

noncomputable def porterref29_bad_t (N : Nat) : Tab Bool := []

theorem porterref29_bad_link (N : Nat) (x : denS [(0, .v (.int .i64))]) : evFX (porterref29_bad_E N) N (porterref29_bad_t N) porterref29_bad_L Go.Proofs.Try.f14 (mkS [(0, .v (.int .i64))] 0 x) (kRes (.v .bool) 1) = porterref29_bad N x.1 := by kernel_rfl

noncomputable def porterref29_bad_res (N : Nat) : List A → Res := resOf [(0, .v (.int .i64))] (fun x => porterref29_bad N x.1) (oRes (.v .bool) 1)

theorem porterref29_bad_ct (N : Nat) : Contract Go.Proofs.Try.prog noGlob 14 (porterref29_bad_res N) :=
  Contract.of (E := porterref29_bad_E N) (H := porterref29_bad_t N) (L := porterref29_bad_L) (N := N) (body := porterref29_bad_body) (K := (kRes (.v .bool) 1)) (porterref29_bad_Eok N) Go.Proofs.Try.func14 (by kernel_rfl) (by decide) (fun _ hb => TabOk.nil) (fun x y h => by rw [porterref29_bad_link]; exact h) (kRes_ok (s := (.v .bool)) (m := 1))

abbrev porterref02_Byte_R : Type := (List UInt8)

noncomputable def porterref02_Byte_body : Code := (Go.Proofs.Try.f15.body).getD .skip

noncomputable def porterref02_Byte_L : List (List Nat × List Nat) := [([0], [0]), ([0, 1], [3]), ([0, 1, 1], [2]), ([1, 1, 1], [2])]

noncomputable def porterref02_Byte_E (N : Nat) : Env := mkEnv tys noGlob [] [] [] [] false [] []

theorem porterref02_Byte_Eok (N : Nat) : EnvOk Go.Proofs.Try.prog (porterref02_Byte_E N) := mkEnv_ok mixed tys_ok (FnsOk.nil) (ItsOk.nil)

noncomputable def porterref02_Byte (N : Nat) (n : Int) : Option (List UInt8) :=
  some (Go.Lift.toStr ([(Go.IntKind.wrap Go.IntKind.u8 n)] : List Int))

noncomputable def porterref02_Byte_t (N : Nat) : Tab (List UInt8) := []

theorem porterref02_Byte_link (N : Nat) (x : denS [(0, .v (.int .i64))]) : evFX (porterref02_Byte_E N) N (porterref02_Byte_t N) porterref02_Byte_L Go.Proofs.Try.f15 (mkS [(0, .v (.int .i64))] 0 x) (kRes (.v .str) 1) = porterref02_Byte N x.1 := by kernel_rfl

noncomputable def porterref02_Byte_res (N : Nat) : List A → Res := resOf [(0, .v (.int .i64))] (fun x => porterref02_Byte N x.1) (oRes (.v .str) 1)

theorem porterref02_Byte_ct (N : Nat) : Contract Go.Proofs.Try.prog noGlob 15 (porterref02_Byte_res N) :=
  Contract.of (E := porterref02_Byte_E N) (H := porterref02_Byte_t N) (L := porterref02_Byte_L) (N := N) (body := porterref02_Byte_body) (K := (kRes (.v .str) 1)) (porterref02_Byte_Eok N) Go.Proofs.Try.func15 (by kernel_rfl) (by decide) (fun _ hb => TabOk.nil) (fun x y h => by rw [porterref02_Byte_link]; exact h) (kRes_ok (s := (.v .str)) (m := 1))

abbrev porterref07_Put_R : Type := (List UInt8)

noncomputable def porterref07_Put_body : Code := (Go.Proofs.Try.f17.body).getD .skip

noncomputable def porterref07_Put_L : List (List Nat × List Nat) := [([0], [0]), ([0, 0, 1], [4, 0]), ([1, 0, 1], [0]), ([0, 0, 1, 0, 1], [2]), ([1, 0, 1, 0, 1], [2]), ([0, 1, 1], [2]), ([1, 1, 1], [2])]

noncomputable def porterref07_Put_E (N : Nat) (self : Int → Option (List UInt8)) : Env := mkEnv tys noGlob [(15, porterref02_Byte_res N), (17, resOf [(0, .v (.int .u64))] (fun x => self x.1) (oRes (.v .str) 1))] [] [] [] false [] []

theorem porterref07_Put_Eok (N : Nat) (self : Int → Option (List UInt8)) (hself : Contract Go.Proofs.Try.prog noGlob 17 (resOf [(0, .v (.int .u64))] (fun x => self x.1) (oRes (.v .str) 1))) : EnvOk Go.Proofs.Try.prog (porterref07_Put_E N self) := mkEnv_ok mixed tys_ok (FnsOk.cons (porterref02_Byte_ct N) (FnsOk.cons (hself) (FnsOk.nil))) (ItsOk.nil)

noncomputable def porterref07_Put_F (N : Nat) (self : Int → Option (List UInt8)) (n : Int) : Option (List UInt8) :=
  cond (decide (n < (128 : Int)))
  (some (Go.Lift.toStr ([(Go.IntKind.wrap Go.IntKind.u8 (Go.IntKind.wrap Go.IntKind.i64 n))] : List Int)))
  ((self (Go.IntKind.wrap Go.IntKind.u64 (Int.tdiv n (128 : Int)))).bind fun y =>
    cond (decide (((List.length (Go.Lift.toStr ([(Go.IntKind.wrap Go.IntKind.u8 (Go.IntKind.wrap Go.IntKind.i64 ((Go.IntKind.wrap Go.IntKind.i64 (Int.tmod n (128 : Int))) + (128 : Int))))] : List Int))) + (List.length y)) ≤ 9223372036854775807))
    (some ((Go.Lift.toStr ([(Go.IntKind.wrap Go.IntKind.u8 (Go.IntKind.wrap Go.IntKind.i64 ((Go.IntKind.wrap Go.IntKind.i64 (Int.tmod n (128 : Int))) + (128 : Int))))] : List Int)) ++ y))
    (none))

noncomputable def porterref07_Put_t (N : Nat) (self : Int → Option (List UInt8)) : Tab (List UInt8) := []

theorem porterref07_Put_link (N : Nat) (self : Int → Option (List UInt8)) (x : denS [(0, .v (.int .u64))]) : evFX (porterref07_Put_E N self) N (porterref07_Put_t N self) porterref07_Put_L Go.Proofs.Try.f17 (mkS [(0, .v (.int .u64))] 0 x) (kRes (.v .str) 1) = porterref07_Put_F N self x.1 := by kernel_rfl

noncomputable def porterref07_Put : Nat → Int → Option (List UInt8)
  | 0 => fun _ => none
  | N + 1 => porterref07_Put_F (N + 1) (porterref07_Put N)

noncomputable def porterref07_Put_res (N : Nat) : List A → Res := resOf [(0, .v (.int .u64))] (fun x => porterref07_Put N x.1) (oRes (.v .str) 1)

theorem porterref07_Put_ct : ∀ N : Nat, Contract Go.Proofs.Try.prog noGlob 17 (porterref07_Put_res N)
  | 0 => Contract.zero Go.Proofs.Try.func17 (body := porterref07_Put_body) (by kernel_rfl) (by decide) (fun _ => rfl)
  | N + 1 => Contract.of (E := porterref07_Put_E (N + 1) (porterref07_Put N)) (H := porterref07_Put_t (N + 1) (porterref07_Put N)) (L := porterref07_Put_L) (N := (N + 1)) (body := porterref07_Put_body) (K := (kRes (.v .str) 1)) (porterref07_Put_Eok (N + 1) (porterref07_Put N) (porterref07_Put_ct N)) Go.Proofs.Try.func17 (by kernel_rfl) (by decide) (fun _ hb => TabOk.nil) (fun x y h => by rw [porterref07_Put_link]; exact h) (kRes_ok (s := (.v .str)) (m := 1))

abbrev porterref08_Text_R : Type := (List UInt8)

noncomputable def porterref08_Text_body : Code := (Go.Proofs.Try.f16.body).getD .skip

noncomputable def porterref08_Text_L : List (List Nat × List Nat) := [([0], [0]), ([0, 1], [2]), ([1, 1], [2])]

noncomputable def porterref08_Text_E (N : Nat) : Env := mkEnv tys noGlob [(17, porterref07_Put_res N)] [] [] [] false [] []

theorem porterref08_Text_Eok (N : Nat) : EnvOk Go.Proofs.Try.prog (porterref08_Text_E N) := mkEnv_ok mixed tys_ok (FnsOk.cons (porterref07_Put_ct N) (FnsOk.nil)) (ItsOk.nil)

noncomputable def porterref08_Text (N : Nat) (s : (List UInt8)) : Option (List UInt8) :=
  (porterref07_Put N (Go.IntKind.wrap Go.IntKind.u64 (((List.length s) : Nat) : Int))).bind fun y =>
  cond (decide (((List.length y) + (List.length s)) ≤ 9223372036854775807))
  (some (y ++ s))
  (none)

noncomputable def porterref08_Text_t (N : Nat) : Tab (List UInt8) := []

theorem porterref08_Text_link (N : Nat) (x : denS [(0, .v .str)]) : evFX (porterref08_Text_E N) N (porterref08_Text_t N) porterref08_Text_L Go.Proofs.Try.f16 (mkS [(0, .v .str)] 0 x) (kRes (.v .str) 1) = porterref08_Text N x.1 := by kernel_rfl

noncomputable def porterref08_Text_res (N : Nat) : List A → Res := resOf [(0, .v .str)] (fun x => porterref08_Text N x.1) (oRes (.v .str) 1)

theorem porterref08_Text_ct (N : Nat) : Contract Go.Proofs.Try.prog noGlob 16 (porterref08_Text_res N) :=
  Contract.of (E := porterref08_Text_E N) (H := porterref08_Text_t N) (L := porterref08_Text_L) (N := N) (body := porterref08_Text_body) (K := (kRes (.v .str) 1)) (porterref08_Text_Eok N) Go.Proofs.Try.func16 (by kernel_rfl) (by decide) (fun _ hb => TabOk.nil) (fun x y h => by rw [porterref08_Text_link]; exact h) (kRes_ok (s := (.v .str)) (m := 1))

abbrev porterref29_Put_R : Type := ((List UInt8) × Int × Unit)

noncomputable def porterref29_Put_body : Code := (Go.Proofs.Try.f7.body).getD .skip

noncomputable def porterref29_Put_L : List (List Nat × List Nat) := [([0], [1]), ([0, 0, 1], [7, 1]), ([1, 0, 1], [1]), ([0, 0, 1, 0, 1], [2, 3]), ([1, 0, 1, 0, 1], [2, 3]), ([0, 0, 1, 1], [20, 1]), ([1, 0, 1, 1], [1]), ([0, 0, 1, 0, 1, 1], [2, 3]), ([1, 0, 1, 0, 1, 1], [2, 3]), ([0, 1, 1, 1], [2, 3]), ([1, 1, 1, 1], [2, 3])]

noncomputable def porterref29_Put_E (N : Nat) : Env := mkEnv tys noGlob [(16, porterref08_Text_res N), (17, porterref07_Put_res N), (15, porterref02_Byte_res N), (14, porterref29_bad_res N), (13, porterref09_Word_res N)] [] [] [] false [] []

theorem porterref29_Put_Eok (N : Nat) : EnvOk Go.Proofs.Try.prog (porterref29_Put_E N) := mkEnv_ok mixed tys_ok (FnsOk.cons (porterref08_Text_ct N) (FnsOk.cons (porterref07_Put_ct N) (FnsOk.cons (porterref02_Byte_ct N) (FnsOk.cons (porterref29_bad_ct N) (FnsOk.cons (porterref09_Word_ct N) (FnsOk.nil)))))) (ItsOk.nil)

noncomputable def porterref29_Put_p2 (N : Nat) (r_ : ((List UInt8) × (Int × (Int × (Int × Unit))))) (k0 : Bool → Option ((List UInt8) × Int × Unit)) : Option ((List UInt8) × Int × Unit) :=
  (porterref29_bad N r_.2.1).bind fun y =>
  cond y
  (k0 true)
  ((porterref29_bad N r_.2.2.1).bind fun y1 =>
    cond y1
    (k0 true)
    ((porterref29_bad N r_.2.2.2.1).bind fun y2 =>
      k0 y2))

noncomputable def porterref29_Put_g2 (N : Nat) (x : denS [(1, .box (.pair .str (.pair (.int .i64) (.pair (.int .i64) (.pair (.int .i64) .unit)))))]) (K : Ex → List A → Option ((List UInt8) × Int × Unit)) : Option ((List UInt8) × Int × Unit) :=
  porterref29_Put_p2 N x.1 (fun a1 => (K .normal (mkS [(1, .box (.pair .str (.pair (.int .i64) (.pair (.int .i64) (.pair (.int .i64) .unit))))), (18, .v .bool)] 20 (x.1, a1, ()))))

noncomputable def porterref29_Put_h2 (N : Nat) : Hd ((List UInt8) × Int × Unit) := fun st K => (unS [(1, .box (.pair .str (.pair (.int .i64) (.pair (.int .i64) (.pair (.int .i64) .unit)))))] 39 (restr [1] 0 st)).bind fun x => porterref29_Put_g2 N x K

noncomputable def porterref29_Put_t2 (N : Nat) : Tab ((List UInt8) × Int × Unit) := []

theorem porterref29_Put_ok2 {N : Nat} {c : Ctx} (hb : Base Go.Proofs.Try.prog (porterref29_Put_E N) c) : CodeOk Go.Proofs.Try.prog c (nodeAt porterref29_Put_body [0, 0, 1, 1]) (porterref29_Put_h2 N) :=
  piece_ok (s := [(1, .box (.pair .str (.pair (.int .i64) (.pair (.int .i64) (.pair (.int .i64) .unit)))))]) (m := 39) (g := porterref29_Put_g2 N) [1] (evN_sound hb N (porterref29_Put_t2 N) porterref29_Put_L porterref29_Put_body TabOk.nil [0, 0, 1, 1] _ rfl) (fun x K => by kernel_rfl)

noncomputable def porterref29_Put_p1 (N : Nat) (r_ : ((List UInt8) × (Int × (Int × (Int × Unit))))) (k0 : (List UInt8) → Int → Option ((List UInt8) × Int × Unit)) (k1 : Option ((List UInt8) × Int × Unit)) : Option ((List UInt8) × Int × Unit) :=
  porterref29_Put_p2 N r_
  (fun x20 => cond x20
    (k0 ([] : List UInt8) (3 : Int))
    (k1))

noncomputable def porterref29_Put_g1 (N : Nat) (x : denS [(1, .box (.pair .str (.pair (.int .i64) (.pair (.int .i64) (.pair (.int .i64) .unit)))))]) (K : Ex → List A → Option ((List UInt8) × Int × Unit)) : Option ((List UInt8) × Int × Unit) :=
  porterref29_Put_p1 N x.1 (fun a0 a1 => (K .ret (mkS [(2, .v .str), (0, .v (.int .i64))] 37 (a0, a1, ())))) (K .normal (mkS [(1, .box (.pair .str (.pair (.int .i64) (.pair (.int .i64) (.pair (.int .i64) .unit)))))] 39 (x.1, ())))

noncomputable def porterref29_Put_h1 (N : Nat) : Hd ((List UInt8) × Int × Unit) := fun st K => (unS [(1, .box (.pair .str (.pair (.int .i64) (.pair (.int .i64) (.pair (.int .i64) .unit)))))] 39 (restr [1] 0 st)).bind fun x => porterref29_Put_g1 N x K

noncomputable def porterref29_Put_t1 (N : Nat) : Tab ((List UInt8) × Int × Unit) := [([0, 0, 1, 1], porterref29_Put_h2 N)]

theorem porterref29_Put_ok1 {N : Nat} {c : Ctx} (hb : Base Go.Proofs.Try.prog (porterref29_Put_E N) c) : CodeOk Go.Proofs.Try.prog c (nodeAt porterref29_Put_body [0, 1, 1]) (porterref29_Put_h1 N) :=
  piece_ok (s := [(1, .box (.pair .str (.pair (.int .i64) (.pair (.int .i64) (.pair (.int .i64) .unit)))))]) (m := 39) (g := porterref29_Put_g1 N) [1] (evN_sound hb N (porterref29_Put_t1 N) porterref29_Put_L porterref29_Put_body (TabOk.cons (porterref29_Put_ok2 hb) TabOk.nil) [0, 1, 1] _ rfl) (fun x K => by kernel_rfl)

noncomputable def porterref29_Put (N : Nat) (r_ : ((List UInt8) × (Int × (Int × (Int × Unit))))) : Option ((List UInt8) × Int × Unit) :=
  (porterref09_Word N r_.1).bind fun y =>
  cond (!y)
  (some (([] : List UInt8), ((4 : Int), ())))
  (porterref29_Put_p1 N r_
    (fun x2 x3 => some (x2, (x3, ())))
    ((porterref08_Text N r_.1).bind fun y1 =>
      cond (decide (((List.length (Go.Lift.toStr ([(Go.IntKind.wrap Go.IntKind.u8 (1 : Int))] : List Int))) + (List.length y1)) ≤ 9223372036854775807))
      ((porterref07_Put N (Go.IntKind.wrap Go.IntKind.u64 r_.2.1)).bind fun y2 =>
        cond (decide (((List.length ((Go.Lift.toStr ([(Go.IntKind.wrap Go.IntKind.u8 (1 : Int))] : List Int)) ++ y1)) + (List.length y2)) ≤ 9223372036854775807))
        ((porterref07_Put N (Go.IntKind.wrap Go.IntKind.u64 r_.2.2.1)).bind fun y3 =>
          cond (decide (((List.length (((Go.Lift.toStr ([(Go.IntKind.wrap Go.IntKind.u8 (1 : Int))] : List Int)) ++ y1) ++ y2)) + (List.length y3)) ≤ 9223372036854775807))
          ((porterref07_Put N (Go.IntKind.wrap Go.IntKind.u64 r_.2.2.2.1)).bind fun y4 =>
            cond (decide (((List.length ((((Go.Lift.toStr ([(Go.IntKind.wrap Go.IntKind.u8 (1 : Int))] : List Int)) ++ y1) ++ y2) ++ y3)) + (List.length y4)) ≤ 9223372036854775807))
            (some ((((((Go.Lift.toStr ([(Go.IntKind.wrap Go.IntKind.u8 (1 : Int))] : List Int)) ++ y1) ++ y2) ++ y3) ++ y4), ((0 : Int), ())))
            (none))
          (none))
        (none))
      (none)))

noncomputable def porterref29_Put_t (N : Nat) : Tab ((List UInt8) × Int × Unit) := [([0, 1, 1], porterref29_Put_h1 N)]

theorem porterref29_Put_link (N : Nat) (x : denS [(0, .v (.pair .str (.pair (.int .i64) (.pair (.int .i64) (.pair (.int .i64) .unit)))))]) : evFX (porterref29_Put_E N) N (porterref29_Put_t N) porterref29_Put_L Go.Proofs.Try.f7 (mkS [(0, .v (.pair .str (.pair (.int .i64) (.pair (.int .i64) (.pair (.int .i64) .unit)))))] 0 x) (kRes (.tup [.str, (.int .i64)]) 1) = porterref29_Put N x.1 := by kernel_rfl

noncomputable def porterref29_Put_res (N : Nat) : List A → Res := resOf [(0, .v (.pair .str (.pair (.int .i64) (.pair (.int .i64) (.pair (.int .i64) .unit)))))] (fun x => porterref29_Put N x.1) (oRes (.tup [.str, (.int .i64)]) 1)

theorem porterref29_Put_ct (N : Nat) : Contract Go.Proofs.Try.prog noGlob 7 (porterref29_Put_res N) :=
  Contract.of (E := porterref29_Put_E N) (H := porterref29_Put_t N) (L := porterref29_Put_L) (N := N) (body := porterref29_Put_body) (K := (kRes (.tup [.str, (.int .i64)]) 1)) (porterref29_Put_Eok N) Go.Proofs.Try.func7 (by kernel_rfl) (by decide) (fun _ hb => (TabOk.cons (porterref29_Put_ok1 hb) TabOk.nil)) (fun x y h => by rw [porterref29_Put_link]; exact h) (kRes_ok (s := (.tup [.str, (.int .i64)])) (m := 1))

abbrev porterref08_R_Fail_R : Type := ((List UInt8) × (Int × Unit))

noncomputable def porterref08_R_Fail_body : Code := (Go.Proofs.Try.f25.body).getD .skip

noncomputable def porterref08_R_Fail_L : List (List Nat × List Nat) := [([0], [2, 1, 4]), ([0, 0, 1], [11, 2, 4, 1]), ([1, 0, 1], [1, 4]), ([0, 0, 1, 0, 1], [4]), ([1, 0, 1, 0, 1], [4]), ([0, 1, 1], [4]), ([1, 1, 1], [4])]

noncomputable def porterref08_R_Fail_E (N : Nat) : Env := mkEnv tys noGlob [] [] [] [] false [] []

theorem porterref08_R_Fail_Eok (N : Nat) : EnvOk Go.Proofs.Try.prog (porterref08_R_Fail_E N) := mkEnv_ok mixed tys_ok (FnsOk.nil) (ItsOk.nil)

noncomputable def porterref08_R_Fail_p2 (N : Nat) (e : Int) (r_ : ((List UInt8) × (Int × Unit))) (x4 : ((List UInt8) × (Int × Unit))) (k0 : Bool → Option ((List UInt8) × (Int × Unit))) : Option ((List UInt8) × (Int × Unit)) :=
  cond (r_.2.1 != (0 : Int))
  (k0 true)
  (k0 (e == (0 : Int)))

noncomputable def porterref08_R_Fail_g2 (N : Nat) (x : denS [(1, .v (.int .i64)), (0, .box (.pair .str (.pair (.int .i64) .unit))), (1, .box (.pair .str (.pair (.int .i64) .unit)))]) (K : Ex → List A → Option ((List UInt8) × (Int × Unit))) : Option ((List UInt8) × (Int × Unit)) :=
  porterref08_R_Fail_p2 N x.1 x.2.1 x.2.2.1 (fun a3 => (K .normal (mkS [(1, .v (.int .i64)), (0, .box (.pair .str (.pair (.int .i64) .unit))), (1, .box (.pair .str (.pair (.int .i64) .unit))), (6, .v .bool)] 3 (x.1, x.2.1, x.2.2.1, a3, ()))))

noncomputable def porterref08_R_Fail_h2 (N : Nat) : Hd ((List UInt8) × (Int × Unit)) := fun st K => (unS [(1, .v (.int .i64)), (0, .box (.pair .str (.pair (.int .i64) .unit))), (1, .box (.pair .str (.pair (.int .i64) .unit)))] 10 (restr [2, 1, 4] 0 st)).bind fun x => porterref08_R_Fail_g2 N x K

noncomputable def porterref08_R_Fail_t2 (N : Nat) : Tab ((List UInt8) × (Int × Unit)) := []

theorem porterref08_R_Fail_ok2 {N : Nat} {c : Ctx} (hb : Base Go.Proofs.Try.prog (porterref08_R_Fail_E N) c) : CodeOk Go.Proofs.Try.prog c (nodeAt porterref08_R_Fail_body [0, 0, 1]) (porterref08_R_Fail_h2 N) :=
  piece_ok (s := [(1, .v (.int .i64)), (0, .box (.pair .str (.pair (.int .i64) .unit))), (1, .box (.pair .str (.pair (.int .i64) .unit)))]) (m := 10) (g := porterref08_R_Fail_g2 N) [2, 1, 4] (evN_sound hb N (porterref08_R_Fail_t2 N) porterref08_R_Fail_L porterref08_R_Fail_body TabOk.nil [0, 0, 1] _ rfl) (fun x K => by kernel_rfl)

noncomputable def porterref08_R_Fail_p1 (N : Nat) (e : Int) (r_ : ((List UInt8) × (Int × Unit))) (x4 : ((List UInt8) × (Int × Unit))) (k0 : Option ((List UInt8) × (Int × Unit))) (k1 : Option ((List UInt8) × (Int × Unit))) : Option ((List UInt8) × (Int × Unit)) :=
  porterref08_R_Fail_p2 N e r_ x4
  (fun x11 => cond x11
    (k0)
    (k1))

noncomputable def porterref08_R_Fail_g1 (N : Nat) (x : denS [(1, .v (.int .i64)), (0, .box (.pair .str (.pair (.int .i64) .unit))), (1, .box (.pair .str (.pair (.int .i64) .unit)))]) (K : Ex → List A → Option ((List UInt8) × (Int × Unit))) : Option ((List UInt8) × (Int × Unit)) :=
  porterref08_R_Fail_p1 N x.1 x.2.1 x.2.2.1 (K .ret (mkS [(4, .box (.pair .str (.pair (.int .i64) .unit)))] 10 (x.2.1, ()))) (K .normal (mkS [(1, .v (.int .i64)), (2, .box (.pair .str (.pair (.int .i64) .unit)))] 10 (x.1, x.2.2.1, ())))

noncomputable def porterref08_R_Fail_h1 (N : Nat) : Hd ((List UInt8) × (Int × Unit)) := fun st K => (unS [(1, .v (.int .i64)), (0, .box (.pair .str (.pair (.int .i64) .unit))), (1, .box (.pair .str (.pair (.int .i64) .unit)))] 10 (restr [2, 1, 4] 0 st)).bind fun x => porterref08_R_Fail_g1 N x K

noncomputable def porterref08_R_Fail_t1 (N : Nat) : Tab ((List UInt8) × (Int × Unit)) := [([0, 0, 1], porterref08_R_Fail_h2 N)]

theorem porterref08_R_Fail_ok1 {N : Nat} {c : Ctx} (hb : Base Go.Proofs.Try.prog (porterref08_R_Fail_E N) c) : CodeOk Go.Proofs.Try.prog c (nodeAt porterref08_R_Fail_body [0, 1]) (porterref08_R_Fail_h1 N) :=
  piece_ok (s := [(1, .v (.int .i64)), (0, .box (.pair .str (.pair (.int .i64) .unit))), (1, .box (.pair .str (.pair (.int .i64) .unit)))]) (m := 10) (g := porterref08_R_Fail_g1 N) [2, 1, 4] (evN_sound hb N (porterref08_R_Fail_t1 N) porterref08_R_Fail_L porterref08_R_Fail_body (TabOk.cons (porterref08_R_Fail_ok2 hb) TabOk.nil) [0, 1] _ rfl) (fun x K => by kernel_rfl)

noncomputable def porterref08_R_Fail (N : Nat) (r_ : ((List UInt8) × (Int × Unit))) (e : Int) : Option ((List UInt8) × (Int × Unit)) :=
  porterref08_R_Fail_p1 N e r_ (([] : List UInt8), ((0 : Int), ()))
  (some r_)
  (some (([] : List UInt8), (e, ())))

noncomputable def porterref08_R_Fail_t (N : Nat) : Tab ((List UInt8) × (Int × Unit)) := [([0, 1], porterref08_R_Fail_h1 N)]

theorem porterref08_R_Fail_link (N : Nat) (x : denS [(0, .v (.pair .str (.pair (.int .i64) .unit))), (0, .v (.int .i64))]) : evFX (porterref08_R_Fail_E N) N (porterref08_R_Fail_t N) porterref08_R_Fail_L Go.Proofs.Try.f25 (mkS [(0, .v (.pair .str (.pair (.int .i64) .unit))), (0, .v (.int .i64))] 0 x) (kRes (.v (.pair .str (.pair (.int .i64) .unit))) 2) = porterref08_R_Fail N x.1 x.2.1 := by kernel_rfl

noncomputable def porterref08_R_Fail_res (N : Nat) : List A → Res := resOf [(0, .v (.pair .str (.pair (.int .i64) .unit))), (0, .v (.int .i64))] (fun x => porterref08_R_Fail N x.1 x.2.1) (oRes (.v (.pair .str (.pair (.int .i64) .unit))) 2)

theorem porterref08_R_Fail_ct (N : Nat) : Contract Go.Proofs.Try.prog noGlob 25 (porterref08_R_Fail_res N) :=
  Contract.of (E := porterref08_R_Fail_E N) (H := porterref08_R_Fail_t N) (L := porterref08_R_Fail_L) (N := N) (body := porterref08_R_Fail_body) (K := (kRes (.v (.pair .str (.pair (.int .i64) .unit))) 2)) (porterref08_R_Fail_Eok N) Go.Proofs.Try.func25 (by kernel_rfl) (by decide) (fun _ hb => (TabOk.cons (porterref08_R_Fail_ok1 hb) TabOk.nil)) (fun x y h => by rw [porterref08_R_Fail_link]; exact h) (kRes_ok (s := (.v (.pair .str (.pair (.int .i64) .unit)))) (m := 2))

abbrev porterref08_R_Byte_R : Type := (Int × ((List UInt8) × (Int × Unit)) × Unit)

noncomputable def porterref08_R_Byte_body : Code := (Go.Proofs.Try.f24.body).getD .skip

noncomputable def porterref08_R_Byte_L : List (List Nat × List Nat) := [([0], [1, 3]), ([0, 0, 1], [6, 1, 3]), ([1, 0, 1], [1, 3]), ([0, 0, 1, 0, 1], [2, 3]), ([1, 0, 1, 0, 1], [2, 3]), ([0, 0, 1, 1], [10, 1, 3]), ([1, 0, 1, 1], [1, 3]), ([0, 0, 1, 0, 1, 1], [2, 3]), ([1, 0, 1, 0, 1, 1], [2, 3]), ([0, 1, 1, 1], [2, 3]), ([1, 1, 1, 1], [2, 3])]

noncomputable def porterref08_R_Byte_E (N : Nat) : Env := mkEnv tys noGlob [(25, porterref08_R_Fail_res N)] [] [] [] false [] []

theorem porterref08_R_Byte_Eok (N : Nat) : EnvOk Go.Proofs.Try.prog (porterref08_R_Byte_E N) := mkEnv_ok mixed tys_ok (FnsOk.cons (porterref08_R_Fail_ct N) (FnsOk.nil)) (ItsOk.nil)

noncomputable def porterref08_R_Byte (N : Nat) (r_ : ((List UInt8) × (Int × Unit))) : Option (Int × ((List UInt8) × (Int × Unit)) × Unit) :=
  cond (r_.2.1 != (0 : Int))
  (some ((0 : Int), (r_, ())))
  (cond (r_.1 == ([] : List UInt8))
    ((porterref08_R_Fail N r_ (1 : Int)).bind fun y =>
      some ((0 : Int), (y, ())))
    (cond (Go.Lift.inR (0 : Int) (List.length r_.1))
      (cond (decide (((0 : Int) ≤ (1 : Int)) ∧ ((1 : Int) ≤ (((List.length r_.1) : Nat) : Int))))
        (some ((((UInt8.toNat (List.getD r_.1 0 (0 : UInt8))) : Nat) : Int), (((Go.Lift.cut r_.1 1 (List.length r_.1)), ((0 : Int), ())), ())))
        (none))
      (none)))

noncomputable def porterref08_R_Byte_t (N : Nat) : Tab (Int × ((List UInt8) × (Int × Unit)) × Unit) := []

theorem porterref08_R_Byte_link (N : Nat) (x : denS [(0, .v (.pair .str (.pair (.int .i64) .unit)))]) : evFX (porterref08_R_Byte_E N) N (porterref08_R_Byte_t N) porterref08_R_Byte_L Go.Proofs.Try.f24 (mkS [(0, .v (.pair .str (.pair (.int .i64) .unit)))] 0 x) (kRes (.tup [(.int .u8), (.pair .str (.pair (.int .i64) .unit))]) 1) = porterref08_R_Byte N x.1 := by kernel_rfl

noncomputable def porterref08_R_Byte_res (N : Nat) : List A → Res := resOf [(0, .v (.pair .str (.pair (.int .i64) .unit)))] (fun x => porterref08_R_Byte N x.1) (oRes (.tup [(.int .u8), (.pair .str (.pair (.int .i64) .unit))]) 1)

theorem porterref08_R_Byte_ct (N : Nat) : Contract Go.Proofs.Try.prog noGlob 24 (porterref08_R_Byte_res N) :=
  Contract.of (E := porterref08_R_Byte_E N) (H := porterref08_R_Byte_t N) (L := porterref08_R_Byte_L) (N := N) (body := porterref08_R_Byte_body) (K := (kRes (.tup [(.int .u8), (.pair .str (.pair (.int .i64) .unit))]) 1)) (porterref08_R_Byte_Eok N) Go.Proofs.Try.func24 (by kernel_rfl) (by decide) (fun _ hb => TabOk.nil) (fun x y h => by rw [porterref08_R_Byte_link]; exact h) (kRes_ok (s := (.tup [(.int .u8), (.pair .str (.pair (.int .i64) .unit))])) (m := 1))

abbrev porterref07_Take_R : Type := (Int × Int × Int × Unit)

noncomputable def porterref07_Take_body : Code := (Go.Proofs.Try.f42.body).getD .skip

noncomputable def porterref07_Take_L : List (List Nat × List Nat) := [([0], [0]), ([0, 1], [5, 0]), ([0, 0, 1, 1], [5, 0]), ([0, 0, 0, 0, 0, 1, 1], [21, 5, 0]), ([1, 0, 0, 0, 0, 1, 1], [5, 0]), ([1, 1, 0, 0, 0, 0, 1, 1], [5, 0]), ([0, 1, 0, 0, 0, 1, 1], [5, 0]), ([1, 0, 0, 0, 1, 1], [5, 0]), ([0, 1, 1], [5, 0]), ([0, 0, 1, 1, 1], [25, 5, 0]), ([1, 0, 1, 1, 1], [5, 0]), ([0, 0, 1, 0, 1, 1, 1], [2, 3, 4]), ([1, 0, 1, 0, 1, 1, 1], [2, 3, 4]), ([0, 0, 1, 1, 1, 1], [29, 5, 0]), ([1, 0, 1, 1, 1, 1], [5, 0]), ([0, 0, 1, 0, 1, 1, 1, 1], [2, 3, 4]), ([1, 0, 1, 0, 1, 1, 1, 1], [2, 3, 4]), ([0, 1, 1, 1, 1, 1], [5, 6, 0]), ([0, 0, 1, 1, 1, 1, 1, 1], [7, 6, 0, 5]), ([0, 1, 0, 1, 1, 1, 1, 1, 1], [7, 6, 0, 5]), ([0, 0, 0, 0, 1, 0, 1, 1, 1, 1, 1, 1], [32, 6, 0, 7, 5]), ([1, 0, 0, 0, 1, 0, 1, 1, 1, 1, 1, 1], [6, 0, 7, 5]), ([1, 1, 0, 0, 0, 1, 0, 1, 1, 1, 1, 1, 1], [6, 0, 5]), ([0, 0, 0, 0, 1, 0, 0, 1, 0, 1, 1, 1, 1, 1, 1], [36, 6, 0, 7, 5]), ([1, 0, 0, 0, 1, 0, 0, 1, 0, 1, 1, 1, 1, 1, 1], [6, 0, 7, 5]), ([0, 0, 1, 0, 0, 0, 1, 0, 0, 1, 0, 1, 1, 1, 1, 1, 1], [2, 3, 4]), ([1, 0, 1, 0, 0, 0, 1, 0, 0, 1, 0, 1, 1, 1, 1, 1, 1], [2, 3, 4]), ([1, 0, 0, 1, 0, 0, 1, 0, 1, 1, 1, 1, 1, 1], [7, 6, 0, 5]), ([0, 1, 0, 0, 1, 0, 1, 1, 1, 1, 1, 1], [7, 6, 0, 5]), ([1, 1, 0, 0, 1, 0, 1, 1, 1, 1, 1, 1], [7, 6, 0, 5]), ([1, 0, 1, 1, 1, 1, 1, 1], [6, 0, 5]), ([0, 0, 1, 1, 1, 1, 1, 1, 1], [51, 6, 5]), ([1, 0, 1, 1, 1, 1, 1, 1, 1], [6, 5]), ([0, 0, 1, 0, 1, 1, 1, 1, 1, 1, 1], [2, 3, 4]), ([1, 0, 1, 0, 1, 1, 1, 1, 1, 1, 1], [2, 3, 4]), ([0, 1, 1, 1, 1, 1, 1, 1, 1], [2, 3, 4]), ([1, 1, 1, 1, 1, 1, 1, 1, 1], [2, 3, 4])]

noncomputable def porterref07_Take_E (N : Nat) : Env := mkEnv tys noGlob [(17, porterref07_Put_res N)] [] [] [] false [] []

theorem porterref07_Take_Eok (N : Nat) : EnvOk Go.Proofs.Try.prog (porterref07_Take_E N) := mkEnv_ok mixed tys_ok (FnsOk.cons (porterref07_Put_ct N) (FnsOk.nil)) (ItsOk.nil)

noncomputable def porterref07_Take_p3 (N : Nat) (s : (List UInt8)) (k : Int) (k0 : Option (Int × Int × Int × Unit)) (k1 : Option (Int × Int × Int × Unit)) : Option (Int × Int × Int × Unit) :=
  cond (decide (k < (((List.length s) : Nat) : Int)))
  (cond (decide (k < (10 : Int)))
    (cond (Go.Lift.inR k (List.length s))
      (cond (decide ((128 : Int) ≤ (((UInt8.toNat (List.getD s (Int.toNat k) (0 : UInt8))) : Nat) : Int)))
        (k0)
        (k1))
      (none))
    (k1))
  (k1)

noncomputable def porterref07_Take_g3 (N : Nat) (x : denS [(0, .v .str), (4, .v (.int .i64))]) (K : Ex → List A → Option (Int × Int × Int × Unit)) : Option (Int × Int × Int × Unit) :=
  porterref07_Take_p3 N x.1 x.2.1 (K .normal (mkS [(0, .v .str), (4, .v (.int .i64))] 49 (x.1, x.2.1, ()))) (K (.exit 0) (mkS [(0, .v .str), (4, .v (.int .i64))] 49 (x.1, x.2.1, ())))

noncomputable def porterref07_Take_h3 (N : Nat) : Hd (Int × Int × Int × Unit) := fun st K => (unS [(0, .v .str), (4, .v (.int .i64))] 49 (restr [5, 0] 0 st)).bind fun x => porterref07_Take_g3 N x K

noncomputable def porterref07_Take_t3 (N : Nat) : Tab (Int × Int × Int × Unit) := []

theorem porterref07_Take_ok3 {N : Nat} {c : Ctx} (hb : Base Go.Proofs.Try.prog (porterref07_Take_E N) c) : CodeOk Go.Proofs.Try.prog c (nodeAt porterref07_Take_body [0, 0, 0, 0, 1, 1]) (porterref07_Take_h3 N) :=
  piece_ok (s := [(0, .v .str), (4, .v (.int .i64))]) (m := 49) (g := porterref07_Take_g3 N) [5, 0] (evN_sound hb N (porterref07_Take_t3 N) porterref07_Take_L porterref07_Take_body TabOk.nil [0, 0, 0, 0, 1, 1] _ rfl) (fun x K => by kernel_rfl)

noncomputable def porterref07_Take_s2 (N : Nat) (s : (List UInt8)) (k : Int) (rec : Int → Option (Int × Int × Int × Unit)) (k0 : Int → Option (Int × Int × Int × Unit)) : Option (Int × Int × Int × Unit) :=
  porterref07_Take_p3 N s k
  (rec (Go.IntKind.wrap Go.IntKind.i64 (k + (1 : Int))))
  (k0 k)

noncomputable def porterref07_Take_p2 (N : Nat) (s : (List UInt8)) (k : Int) (k0 : Int → Option (Int × Int × Int × Unit)) : Option (Int × Int × Int × Unit) :=
  iter (fun (v : Int) r => porterref07_Take_s2 N s v (fun k => (r k)) k0) N k

noncomputable def porterref07_Take_g2 (N : Nat) (i : (List UInt8)) (v : Int) (r : Int → Option (Int × Int × Int × Unit)) (K : Ex → List A → Option (Int × Int × Int × Unit)) : Option (Int × Int × Int × Unit) :=
  porterref07_Take_s2 N i v (fun k => (r k)) (fun a1 => (K (.exit 0) (mkS [(0, .v .str), (4, .v (.int .i64))] 49 (i, a1, ()))))

noncomputable def porterref07_Take_h2 (N : Nat) : Hd (Int × Int × Int × Unit) := fun st K => (unS [(0, .v .str), (4, .v (.int .i64))] 49 (restr [5, 0] 0 st)).bind fun x => iter (fun v r => porterref07_Take_g2 N ((fun x => x.1) x) v r K) N ((fun x => x.2.1) x)

noncomputable def porterref07_Take_t2 (N : Nat) : Tab (Int × Int × Int × Unit) := [([0, 0, 0, 0, 1, 1], porterref07_Take_h3 N)]

theorem porterref07_Take_ok2 {N : Nat} {c : Ctx} (hb : Base Go.Proofs.Try.prog (porterref07_Take_E N) c) : CodeOk Go.Proofs.Try.prog c (nodeAt porterref07_Take_body [0, 0, 1, 1]) (porterref07_Take_h2 N) :=
  loop_ok (s := [(0, .v .str), (4, .v (.int .i64))]) (m := 49) (porterref07_Take_g2 N) [5, 0] N (fun x => x.1) (fun x => x.2.1) (fun i v => (i, v, ())) (fun _ => rfl) (evN_sound hb N (porterref07_Take_t2 N) porterref07_Take_L porterref07_Take_body (TabOk.cons (porterref07_Take_ok3 hb) TabOk.nil) [0, 0, 0, 1, 1] _ rfl) (fun i v r K => by kernel_rfl)

noncomputable def porterref07_Take_p1 (N : Nat) (s : (List UInt8)) (k : Int) (k0 : Int → Option (Int × Int × Int × Unit)) : Option (Int × Int × Int × Unit) :=
  porterref07_Take_p2 N s k
  (fun k1 => k0 k1)

noncomputable def porterref07_Take_g1 (N : Nat) (x : denS [(0, .v .str), (4, .v (.int .i64))]) (K : Ex → List A → Option (Int × Int × Int × Unit)) : Option (Int × Int × Int × Unit) :=
  porterref07_Take_p1 N x.1 x.2.1 (fun a1 => (K .normal (mkS [(0, .v .str), (4, .v (.int .i64))] 49 (x.1, a1, ()))))

noncomputable def porterref07_Take_h1 (N : Nat) : Hd (Int × Int × Int × Unit) := fun st K => (unS [(0, .v .str), (4, .v (.int .i64))] 49 (restr [5, 0] 0 st)).bind fun x => porterref07_Take_g1 N x K

noncomputable def porterref07_Take_t1 (N : Nat) : Tab (Int × Int × Int × Unit) := [([0, 0, 1, 1], porterref07_Take_h2 N)]

theorem porterref07_Take_ok1 {N : Nat} {c : Ctx} (hb : Base Go.Proofs.Try.prog (porterref07_Take_E N) c) : CodeOk Go.Proofs.Try.prog c (nodeAt porterref07_Take_body [0, 1, 1]) (porterref07_Take_h1 N) :=
  piece_ok (s := [(0, .v .str), (4, .v (.int .i64))]) (m := 49) (g := porterref07_Take_g1 N) [5, 0] (evN_sound hb N (porterref07_Take_t1 N) porterref07_Take_L porterref07_Take_body (TabOk.cons (porterref07_Take_ok2 hb) TabOk.nil) [0, 1, 1] _ rfl) (fun x K => by kernel_rfl)

noncomputable def porterref07_Take_s4 (N : Nat) (s : (List UInt8)) (k : Int) (n : Int) (i : Int) (rec : Int → Int → Option (Int × Int × Int × Unit)) (k0 : Int → Int → Int → Option (Int × Int × Int × Unit)) (k1 : Int → Option (Int × Int × Int × Unit)) : Option (Int × Int × Int × Unit) :=
  cond (decide ((0 : Int) ≤ i))
  (cond (decide ((144115188075855871 : Int) < n))
    (k0 (0 : Int) (0 : Int) (2 : Int))
    (cond (Go.Lift.inR i (List.length s))
      (rec (Go.IntKind.wrap Go.IntKind.u64 ((Go.IntKind.wrap Go.IntKind.u64 ((128 : Int) * n)) + (Go.IntKind.wrap Go.IntKind.u64 (Int.tmod (((UInt8.toNat (List.getD s (Int.toNat i) (0 : UInt8))) : Nat) : Int) (128 : Int))))) (Go.IntKind.wrap Go.IntKind.i64 (i - (1 : Int))))
      (none)))
  (k1 n)

noncomputable def porterref07_Take_p4 (N : Nat) (s : (List UInt8)) (k : Int) (n : Int) (i : Int) (k0 : Int → Int → Int → Option (Int × Int × Int × Unit)) (k1 : Int → Option (Int × Int × Int × Unit)) : Option (Int × Int × Int × Unit) :=
  iter (fun (v : (Int × Int)) r => porterref07_Take_s4 N s k v.1 v.2 (fun n i => (r (n, i))) k0 k1) N (n, i)

noncomputable def porterref07_Take_g4 (N : Nat) (i : ((List UInt8) × Int)) (v : (Int × Int)) (r : (Int × Int) → Option (Int × Int × Int × Unit)) (K : Ex → List A → Option (Int × Int × Int × Unit)) : Option (Int × Int × Int × Unit) :=
  porterref07_Take_s4 N i.1 i.2 v.1 v.2 (fun n i => (r (n, i))) (fun a0 a1 a2 => (K .ret (mkS [(2, .v (.int .u64)), (0, .v (.int .i64)), (0, .v (.int .i64))] 50 (a0, a1, a2, ())))) (fun a2 => (K (.exit 2) (mkS [(0, .v .str), (4, .v (.int .i64)), (0, .v (.int .u64))] 48 (i.1, i.2, a2, ()))))

noncomputable def porterref07_Take_h4 (N : Nat) : Hd (Int × Int × Int × Unit) := fun st K => (unS [(0, .v .str), (4, .v (.int .i64)), (0, .v (.int .u64)), (0, .v (.int .i64))] 47 (restr [7, 6, 0, 5] 0 st)).bind fun x => iter (fun v r => porterref07_Take_g4 N ((fun x => (x.1, x.2.1)) x) v r K) N ((fun x => (x.2.2.1, x.2.2.2.1)) x)

noncomputable def porterref07_Take_t4 (N : Nat) : Tab (Int × Int × Int × Unit) := []

theorem porterref07_Take_ok4 {N : Nat} {c : Ctx} (hb : Base Go.Proofs.Try.prog (porterref07_Take_E N) c) : CodeOk Go.Proofs.Try.prog c (nodeAt porterref07_Take_body [0, 1, 0, 1, 1, 1, 1, 1, 1]) (porterref07_Take_h4 N) :=
  loop_ok (s := [(0, .v .str), (4, .v (.int .i64)), (0, .v (.int .u64)), (0, .v (.int .i64))]) (m := 47) (porterref07_Take_g4 N) [7, 6, 0, 5] N (fun x => (x.1, x.2.1)) (fun x => (x.2.2.1, x.2.2.2.1)) (fun i v => (i.1, i.2, v.1, v.2, ())) (fun _ => rfl) (evN_sound hb N (porterref07_Take_t4 N) porterref07_Take_L porterref07_Take_body TabOk.nil [0, 0, 1, 0, 1, 1, 1, 1, 1, 1] _ rfl) (fun i v r K => by kernel_rfl)

noncomputable def porterref07_Take (N : Nat) (s : (List UInt8)) : Option (Int × Int × Int × Unit) :=
  porterref07_Take_p1 N s (0 : Int)
  (fun k => cond (k == (10 : Int))
    (some ((0 : Int), ((0 : Int), ((2 : Int), ()))))
    (cond (k == (((List.length s) : Nat) : Int))
      (some ((0 : Int), ((0 : Int), ((1 : Int), ()))))
      (porterref07_Take_p4 N s k (0 : Int) k
        (fun x2 x3 x4 => some (x2, (x3, (x4, ()))))
        (fun n => (porterref07_Put N n).bind fun y =>
          cond (decide (((0 : Int) ≤ (Go.IntKind.wrap Go.IntKind.i64 (k + (1 : Int)))) ∧ ((Go.IntKind.wrap Go.IntKind.i64 (k + (1 : Int))) ≤ (((List.length s) : Nat) : Int))))
          (cond (!(y == (Go.Lift.cut s 0 (Int.toNat (Go.IntKind.wrap Go.IntKind.i64 (k + (1 : Int)))))))
            (some ((0 : Int), ((0 : Int), ((2 : Int), ()))))
            (some (n, ((Go.IntKind.wrap Go.IntKind.i64 (k + (1 : Int))), ((0 : Int), ())))))
          (none)))))

noncomputable def porterref07_Take_t (N : Nat) : Tab (Int × Int × Int × Unit) := [([0, 1, 1], porterref07_Take_h1 N), ([0, 1, 0, 1, 1, 1, 1, 1, 1], porterref07_Take_h4 N)]

theorem porterref07_Take_link (N : Nat) (x : denS [(0, .v .str)]) : evFX (porterref07_Take_E N) N (porterref07_Take_t N) porterref07_Take_L Go.Proofs.Try.f42 (mkS [(0, .v .str)] 0 x) (kRes (.tup [(.int .u64), (.int .i64), (.int .i64)]) 1) = porterref07_Take N x.1 := by kernel_rfl

noncomputable def porterref07_Take_res (N : Nat) : List A → Res := resOf [(0, .v .str)] (fun x => porterref07_Take N x.1) (oRes (.tup [(.int .u64), (.int .i64), (.int .i64)]) 1)

theorem porterref07_Take_ct (N : Nat) : Contract Go.Proofs.Try.prog noGlob 42 (porterref07_Take_res N) :=
  Contract.of (E := porterref07_Take_E N) (H := porterref07_Take_t N) (L := porterref07_Take_L) (N := N) (body := porterref07_Take_body) (K := (kRes (.tup [(.int .u64), (.int .i64), (.int .i64)]) 1)) (porterref07_Take_Eok N) Go.Proofs.Try.func42 (by kernel_rfl) (by decide) (fun _ hb => (TabOk.cons (porterref07_Take_ok1 hb) (TabOk.cons (porterref07_Take_ok4 hb) TabOk.nil))) (fun x y h => by rw [porterref07_Take_link]; exact h) (kRes_ok (s := (.tup [(.int .u64), (.int .i64), (.int .i64)])) (m := 1))

abbrev porterref08_R_Num_R : Type := (Int × ((List UInt8) × (Int × Unit)) × Unit)

noncomputable def porterref08_R_Num_body : Code := (Go.Proofs.Try.f27.body).getD .skip

noncomputable def porterref08_R_Num_L : List (List Nat × List Nat) := [([0], [2, 5, 1]), ([0, 0, 1], [11, 2, 5, 1]), ([1, 0, 1], [2, 1, 5]), ([0, 0, 1, 0, 1], [4, 5]), ([1, 0, 1, 0, 1], [4, 5]), ([0, 1, 1], [8, 6, 1, 2, 5, 7]), ([0, 0, 1, 1, 1], [26, 2, 5, 6, 7, 8]), ([1, 0, 1, 1, 1], [8, 2, 5, 6, 7]), ([0, 1, 0, 1, 1, 1], [8, 2, 5, 6, 7]), ([0, 0, 1, 1, 1, 1], [28, 2, 8, 5, 6, 7]), ([1, 0, 1, 1, 1, 1], [6, 2, 7, 5]), ([0, 0, 1, 0, 1, 1, 1, 1], [4, 5]), ([1, 0, 1, 0, 1, 1, 1, 1], [4, 5]), ([0, 1, 1, 1, 1, 1], [4, 5]), ([1, 1, 1, 1, 1, 1], [4, 5])]

noncomputable def porterref08_R_Num_E (N : Nat) : Env := mkEnv tys noGlob [(42, porterref07_Take_res N), (25, porterref08_R_Fail_res N)] [] [] [] false [] []

theorem porterref08_R_Num_Eok (N : Nat) : EnvOk Go.Proofs.Try.prog (porterref08_R_Num_E N) := mkEnv_ok mixed tys_ok (FnsOk.cons (porterref07_Take_ct N) (FnsOk.cons (porterref08_R_Fail_ct N) (FnsOk.nil))) (ItsOk.nil)

noncomputable def porterref08_R_Num_p2 (N : Nat) (most : Int) (r_ : ((List UInt8) × (Int × Unit))) (x5 : ((List UInt8) × (Int × Unit))) (n : Int) (k : Int) (e : Int) (k0 : Bool → Option (Int × ((List UInt8) × (Int × Unit)) × Unit)) : Option (Int × ((List UInt8) × (Int × Unit)) × Unit) :=
  cond (e == (0 : Int))
  (k0 (decide (most < n)))
  (k0 false)

noncomputable def porterref08_R_Num_g2 (N : Nat) (x : denS [(1, .v (.int .u64)), (0, .box (.pair .str (.pair (.int .i64) .unit))), (2, .box (.pair .str (.pair (.int .i64) .unit))), (0, .v (.int .u64)), (0, .v (.int .i64)), (0, .v (.int .i64))]) (K : Ex → List A → Option (Int × ((List UInt8) × (Int × Unit)) × Unit)) : Option (Int × ((List UInt8) × (Int × Unit)) × Unit) :=
  porterref08_R_Num_p2 N x.1 x.2.1 x.2.2.1 x.2.2.2.1 x.2.2.2.2.1 x.2.2.2.2.2.1 (fun a5 => (K .normal (mkS [(2, .box (.pair .str (.pair (.int .i64) .unit))), (2, .box (.pair .str (.pair (.int .i64) .unit))), (0, .v (.int .u64)), (0, .v (.int .i64)), (0, .v (.int .i64)), (17, .v .bool)] 11 (x.2.1, x.2.2.1, x.2.2.2.1, x.2.2.2.2.1, x.2.2.2.2.2.1, a5, ()))))

noncomputable def porterref08_R_Num_h2 (N : Nat) : Hd (Int × ((List UInt8) × (Int × Unit)) × Unit) := fun st K => (unS [(1, .v (.int .u64)), (0, .box (.pair .str (.pair (.int .i64) .unit))), (2, .box (.pair .str (.pair (.int .i64) .unit))), (0, .v (.int .u64)), (0, .v (.int .i64)), (0, .v (.int .i64))] 29 (restr [8, 6, 1, 2, 5, 7] 0 st)).bind fun x => porterref08_R_Num_g2 N x K

noncomputable def porterref08_R_Num_t2 (N : Nat) : Tab (Int × ((List UInt8) × (Int × Unit)) × Unit) := []

theorem porterref08_R_Num_ok2 {N : Nat} {c : Ctx} (hb : Base Go.Proofs.Try.prog (porterref08_R_Num_E N) c) : CodeOk Go.Proofs.Try.prog c (nodeAt porterref08_R_Num_body [0, 0, 1, 1, 1]) (porterref08_R_Num_h2 N) :=
  piece_ok (s := [(1, .v (.int .u64)), (0, .box (.pair .str (.pair (.int .i64) .unit))), (2, .box (.pair .str (.pair (.int .i64) .unit))), (0, .v (.int .u64)), (0, .v (.int .i64)), (0, .v (.int .i64))]) (m := 29) (g := porterref08_R_Num_g2 N) [8, 6, 1, 2, 5, 7] (evN_sound hb N (porterref08_R_Num_t2 N) porterref08_R_Num_L porterref08_R_Num_body TabOk.nil [0, 0, 1, 1, 1] _ rfl) (fun x K => by kernel_rfl)

noncomputable def porterref08_R_Num_p1 (N : Nat) (most : Int) (r_ : ((List UInt8) × (Int × Unit))) (x5 : ((List UInt8) × (Int × Unit))) (n : Int) (k : Int) (e : Int) (k0 : Int → Option (Int × ((List UInt8) × (Int × Unit)) × Unit)) : Option (Int × ((List UInt8) × (Int × Unit)) × Unit) :=
  porterref08_R_Num_p2 N most r_ x5 n k e
  (fun x26 => cond x26
    (k0 (3 : Int))
    (k0 e))

noncomputable def porterref08_R_Num_g1 (N : Nat) (x : denS [(1, .v (.int .u64)), (0, .box (.pair .str (.pair (.int .i64) .unit))), (2, .box (.pair .str (.pair (.int .i64) .unit))), (0, .v (.int .u64)), (0, .v (.int .i64)), (0, .v (.int .i64))]) (K : Ex → List A → Option (Int × ((List UInt8) × (Int × Unit)) × Unit)) : Option (Int × ((List UInt8) × (Int × Unit)) × Unit) :=
  porterref08_R_Num_p1 N x.1 x.2.1 x.2.2.1 x.2.2.2.1 x.2.2.2.2.1 x.2.2.2.2.2.1 (fun a4 => (K .normal (mkS [(2, .box (.pair .str (.pair (.int .i64) .unit))), (2, .box (.pair .str (.pair (.int .i64) .unit))), (0, .v (.int .u64)), (0, .v (.int .i64)), (0, .v (.int .i64))] 29 (x.2.1, x.2.2.1, x.2.2.2.1, x.2.2.2.2.1, a4, ()))))

noncomputable def porterref08_R_Num_h1 (N : Nat) : Hd (Int × ((List UInt8) × (Int × Unit)) × Unit) := fun st K => (unS [(1, .v (.int .u64)), (0, .box (.pair .str (.pair (.int .i64) .unit))), (2, .box (.pair .str (.pair (.int .i64) .unit))), (0, .v (.int .u64)), (0, .v (.int .i64)), (0, .v (.int .i64))] 29 (restr [8, 6, 1, 2, 5, 7] 0 st)).bind fun x => porterref08_R_Num_g1 N x K

noncomputable def porterref08_R_Num_t1 (N : Nat) : Tab (Int × ((List UInt8) × (Int × Unit)) × Unit) := [([0, 0, 1, 1, 1], porterref08_R_Num_h2 N)]

theorem porterref08_R_Num_ok1 {N : Nat} {c : Ctx} (hb : Base Go.Proofs.Try.prog (porterref08_R_Num_E N) c) : CodeOk Go.Proofs.Try.prog c (nodeAt porterref08_R_Num_body [0, 1, 1, 1]) (porterref08_R_Num_h1 N) :=
  piece_ok (s := [(1, .v (.int .u64)), (0, .box (.pair .str (.pair (.int .i64) .unit))), (2, .box (.pair .str (.pair (.int .i64) .unit))), (0, .v (.int .u64)), (0, .v (.int .i64)), (0, .v (.int .i64))]) (m := 29) (g := porterref08_R_Num_g1 N) [8, 6, 1, 2, 5, 7] (evN_sound hb N (porterref08_R_Num_t1 N) porterref08_R_Num_L porterref08_R_Num_body (TabOk.cons (porterref08_R_Num_ok2 hb) TabOk.nil) [0, 1, 1, 1] _ rfl) (fun x K => by kernel_rfl)

noncomputable def porterref08_R_Num (N : Nat) (r_ : ((List UInt8) × (Int × Unit))) (most : Int) : Option (Int × ((List UInt8) × (Int × Unit)) × Unit) :=
  cond (r_.2.1 != (0 : Int))
  (some ((0 : Int), (r_, ())))
  ((porterref07_Take N r_.1).bind fun y =>
    porterref08_R_Num_p1 N most r_ (([] : List UInt8), ((0 : Int), ())) y.1 y.2.1 y.2.2.1
    (fun e => cond (e != (0 : Int))
      ((porterref08_R_Fail N r_ e).bind fun y1 =>
        some ((0 : Int), (y1, ())))
      (cond (decide (((0 : Int) ≤ y.2.1) ∧ (y.2.1 ≤ (((List.length r_.1) : Nat) : Int))))
        (some (y.1, (((Go.Lift.cut r_.1 (Int.toNat y.2.1) (List.length r_.1)), ((0 : Int), ())), ())))
        (none))))

noncomputable def porterref08_R_Num_t (N : Nat) : Tab (Int × ((List UInt8) × (Int × Unit)) × Unit) := [([0, 1, 1, 1], porterref08_R_Num_h1 N)]

theorem porterref08_R_Num_link (N : Nat) (x : denS [(0, .v (.pair .str (.pair (.int .i64) .unit))), (0, .v (.int .u64))]) : evFX (porterref08_R_Num_E N) N (porterref08_R_Num_t N) porterref08_R_Num_L Go.Proofs.Try.f27 (mkS [(0, .v (.pair .str (.pair (.int .i64) .unit))), (0, .v (.int .u64))] 0 x) (kRes (.tup [(.int .u64), (.pair .str (.pair (.int .i64) .unit))]) 2) = porterref08_R_Num N x.1 x.2.1 := by kernel_rfl

noncomputable def porterref08_R_Num_res (N : Nat) : List A → Res := resOf [(0, .v (.pair .str (.pair (.int .i64) .unit))), (0, .v (.int .u64))] (fun x => porterref08_R_Num N x.1 x.2.1) (oRes (.tup [(.int .u64), (.pair .str (.pair (.int .i64) .unit))]) 2)

theorem porterref08_R_Num_ct (N : Nat) : Contract Go.Proofs.Try.prog noGlob 27 (porterref08_R_Num_res N) :=
  Contract.of (E := porterref08_R_Num_E N) (H := porterref08_R_Num_t N) (L := porterref08_R_Num_L) (N := N) (body := porterref08_R_Num_body) (K := (kRes (.tup [(.int .u64), (.pair .str (.pair (.int .i64) .unit))]) 2)) (porterref08_R_Num_Eok N) Go.Proofs.Try.func27 (by kernel_rfl) (by decide) (fun _ hb => (TabOk.cons (porterref08_R_Num_ok1 hb) TabOk.nil)) (fun x y h => by rw [porterref08_R_Num_link]; exact h) (kRes_ok (s := (.tup [(.int .u64), (.pair .str (.pair (.int .i64) .unit))])) (m := 2))

abbrev porterref08_R_Text_R : Type := ((List UInt8) × ((List UInt8) × (Int × Unit)) × Unit)

noncomputable def porterref08_R_Text_body : Code := (Go.Proofs.Try.f26.body).getD .skip

noncomputable def porterref08_R_Text_L : List (List Nat × List Nat) := [([0], [1, 2, 5]), ([0, 0, 1], [9, 2, 5, 1]), ([1, 0, 1], [2, 1, 5]), ([0, 1, 0, 1], [2, 1, 5]), ([0, 1, 1], [7, 5, 6]), ([0, 0, 1, 1, 1], [19, 7, 5, 6]), ([1, 0, 1, 1, 1], [6, 7, 5]), ([0, 0, 1, 0, 1, 1, 1], [4, 5]), ([1, 0, 1, 0, 1, 1, 1], [4, 5]), ([0, 0, 1, 1, 1, 1], [26, 7, 5, 6]), ([1, 0, 1, 1, 1, 1], [7, 6, 5]), ([0, 0, 1, 0, 1, 1, 1, 1], [4, 5]), ([1, 0, 1, 0, 1, 1, 1, 1], [4, 5]), ([0, 1, 1, 1, 1, 1], [4, 5]), ([1, 1, 1, 1, 1, 1], [4, 5])]

noncomputable def porterref08_R_Text_E (N : Nat) : Env := mkEnv tys noGlob [(27, porterref08_R_Num_res N), (25, porterref08_R_Fail_res N)] [] [] [] false [] []

theorem porterref08_R_Text_Eok (N : Nat) : EnvOk Go.Proofs.Try.prog (porterref08_R_Text_E N) := mkEnv_ok mixed tys_ok (FnsOk.cons (porterref08_R_Num_ct N) (FnsOk.cons (porterref08_R_Fail_ct N) (FnsOk.nil))) (ItsOk.nil)

noncomputable def porterref08_R_Text_p1 (N : Nat) (most : Int) (r_ : ((List UInt8) × (Int × Unit))) (x5 : ((List UInt8) × (Int × Unit))) (k0 : Int → Option ((List UInt8) × ((List UInt8) × (Int × Unit)) × Unit)) : Option ((List UInt8) × ((List UInt8) × (Int × Unit)) × Unit) :=
  cond (decide (most < (0 : Int)))
  (k0 (0 : Int))
  (k0 most)

noncomputable def porterref08_R_Text_g1 (N : Nat) (x : denS [(1, .v (.int .i64)), (0, .box (.pair .str (.pair (.int .i64) .unit))), (2, .box (.pair .str (.pair (.int .i64) .unit)))]) (K : Ex → List A → Option ((List UInt8) × ((List UInt8) × (Int × Unit)) × Unit)) : Option ((List UInt8) × ((List UInt8) × (Int × Unit)) × Unit) :=
  porterref08_R_Text_p1 N x.1 x.2.1 x.2.2.1 (fun a0 => (K .normal (mkS [(1, .v (.int .i64)), (0, .box (.pair .str (.pair (.int .i64) .unit))), (2, .box (.pair .str (.pair (.int .i64) .unit)))] 32 (a0, x.2.1, x.2.2.1, ()))))

noncomputable def porterref08_R_Text_h1 (N : Nat) : Hd ((List UInt8) × ((List UInt8) × (Int × Unit)) × Unit) := fun st K => (unS [(1, .v (.int .i64)), (0, .box (.pair .str (.pair (.int .i64) .unit))), (2, .box (.pair .str (.pair (.int .i64) .unit)))] 32 (restr [1, 2, 5] 0 st)).bind fun x => porterref08_R_Text_g1 N x K

noncomputable def porterref08_R_Text_t1 (N : Nat) : Tab ((List UInt8) × ((List UInt8) × (Int × Unit)) × Unit) := []

theorem porterref08_R_Text_ok1 {N : Nat} {c : Ctx} (hb : Base Go.Proofs.Try.prog (porterref08_R_Text_E N) c) : CodeOk Go.Proofs.Try.prog c (nodeAt porterref08_R_Text_body [0, 1]) (porterref08_R_Text_h1 N) :=
  piece_ok (s := [(1, .v (.int .i64)), (0, .box (.pair .str (.pair (.int .i64) .unit))), (2, .box (.pair .str (.pair (.int .i64) .unit)))]) (m := 32) (g := porterref08_R_Text_g1 N) [1, 2, 5] (evN_sound hb N (porterref08_R_Text_t1 N) porterref08_R_Text_L porterref08_R_Text_body TabOk.nil [0, 1] _ rfl) (fun x K => by kernel_rfl)

noncomputable def porterref08_R_Text (N : Nat) (r_ : ((List UInt8) × (Int × Unit))) (most : Int) : Option ((List UInt8) × ((List UInt8) × (Int × Unit)) × Unit) :=
  porterref08_R_Text_p1 N most r_ (([] : List UInt8), ((0 : Int), ()))
  (fun most1 => (porterref08_R_Num N r_ (Go.IntKind.wrap Go.IntKind.u64 most1)).bind fun y =>
    cond (y.2.1.2.1 != (0 : Int))
    (some (([] : List UInt8), (y.2.1, ())))
    (cond (decide ((Go.IntKind.wrap Go.IntKind.u64 (((List.length y.2.1.1) : Nat) : Int)) < y.1))
      ((porterref08_R_Fail N y.2.1 (1 : Int)).bind fun y1 =>
        some (([] : List UInt8), (y1, ())))
      (cond (decide (((0 : Int) ≤ y.1) ∧ (y.1 ≤ (((List.length y.2.1.1) : Nat) : Int))))
        (cond (decide (((0 : Int) ≤ y.1) ∧ (y.1 ≤ (((List.length y.2.1.1) : Nat) : Int))))
          (some ((Go.Lift.cut y.2.1.1 0 (Int.toNat y.1)), (((Go.Lift.cut y.2.1.1 (Int.toNat y.1) (List.length y.2.1.1)), ((0 : Int), ())), ())))
          (none))
        (none))))

noncomputable def porterref08_R_Text_t (N : Nat) : Tab ((List UInt8) × ((List UInt8) × (Int × Unit)) × Unit) := [([0, 1], porterref08_R_Text_h1 N)]

theorem porterref08_R_Text_link (N : Nat) (x : denS [(0, .v (.pair .str (.pair (.int .i64) .unit))), (0, .v (.int .i64))]) : evFX (porterref08_R_Text_E N) N (porterref08_R_Text_t N) porterref08_R_Text_L Go.Proofs.Try.f26 (mkS [(0, .v (.pair .str (.pair (.int .i64) .unit))), (0, .v (.int .i64))] 0 x) (kRes (.tup [.str, (.pair .str (.pair (.int .i64) .unit))]) 2) = porterref08_R_Text N x.1 x.2.1 := by kernel_rfl

noncomputable def porterref08_R_Text_res (N : Nat) : List A → Res := resOf [(0, .v (.pair .str (.pair (.int .i64) .unit))), (0, .v (.int .i64))] (fun x => porterref08_R_Text N x.1 x.2.1) (oRes (.tup [.str, (.pair .str (.pair (.int .i64) .unit))]) 2)

theorem porterref08_R_Text_ct (N : Nat) : Contract Go.Proofs.Try.prog noGlob 26 (porterref08_R_Text_res N) :=
  Contract.of (E := porterref08_R_Text_E N) (H := porterref08_R_Text_t N) (L := porterref08_R_Text_L) (N := N) (body := porterref08_R_Text_body) (K := (kRes (.tup [.str, (.pair .str (.pair (.int .i64) .unit))]) 2)) (porterref08_R_Text_Eok N) Go.Proofs.Try.func26 (by kernel_rfl) (by decide) (fun _ hb => (TabOk.cons (porterref08_R_Text_ok1 hb) TabOk.nil)) (fun x y h => by rw [porterref08_R_Text_link]; exact h) (kRes_ok (s := (.tup [.str, (.pair .str (.pair (.int .i64) .unit))])) (m := 2))

abbrev porterref08_R_End_R : Type := ((List UInt8) × (Int × Unit))

noncomputable def porterref08_R_End_body : Code := (Go.Proofs.Try.f28.body).getD .skip

noncomputable def porterref08_R_End_L : List (List Nat × List Nat) := [([0], [1, 2]), ([0, 0, 1], [5, 1, 2]), ([1, 0, 1], [1, 2]), ([0, 0, 1, 0, 1], [2]), ([1, 0, 1, 0, 1], [2]), ([0, 1, 1], [2]), ([1, 1, 1], [2])]

noncomputable def porterref08_R_End_E (N : Nat) : Env := mkEnv tys noGlob [(25, porterref08_R_Fail_res N)] [] [] [] false [] []

theorem porterref08_R_End_Eok (N : Nat) : EnvOk Go.Proofs.Try.prog (porterref08_R_End_E N) := mkEnv_ok mixed tys_ok (FnsOk.cons (porterref08_R_Fail_ct N) (FnsOk.nil)) (ItsOk.nil)

noncomputable def porterref08_R_End (N : Nat) (r_ : ((List UInt8) × (Int × Unit))) : Option ((List UInt8) × (Int × Unit)) :=
  cond (!(r_.1 == ([] : List UInt8)))
  ((porterref08_R_Fail N r_ (2 : Int)).bind fun y =>
    some y)
  (some r_)

noncomputable def porterref08_R_End_t (N : Nat) : Tab ((List UInt8) × (Int × Unit)) := []

theorem porterref08_R_End_link (N : Nat) (x : denS [(0, .v (.pair .str (.pair (.int .i64) .unit)))]) : evFX (porterref08_R_End_E N) N (porterref08_R_End_t N) porterref08_R_End_L Go.Proofs.Try.f28 (mkS [(0, .v (.pair .str (.pair (.int .i64) .unit)))] 0 x) (kRes (.v (.pair .str (.pair (.int .i64) .unit))) 1) = porterref08_R_End N x.1 := by kernel_rfl

noncomputable def porterref08_R_End_res (N : Nat) : List A → Res := resOf [(0, .v (.pair .str (.pair (.int .i64) .unit)))] (fun x => porterref08_R_End N x.1) (oRes (.v (.pair .str (.pair (.int .i64) .unit))) 1)

theorem porterref08_R_End_ct (N : Nat) : Contract Go.Proofs.Try.prog noGlob 28 (porterref08_R_End_res N) :=
  Contract.of (E := porterref08_R_End_E N) (H := porterref08_R_End_t N) (L := porterref08_R_End_L) (N := N) (body := porterref08_R_End_body) (K := (kRes (.v (.pair .str (.pair (.int .i64) .unit))) 1)) (porterref08_R_End_Eok N) Go.Proofs.Try.func28 (by kernel_rfl) (by decide) (fun _ hb => TabOk.nil) (fun x y h => by rw [porterref08_R_End_link]; exact h) (kRes_ok (s := (.v (.pair .str (.pair (.int .i64) .unit)))) (m := 1))

abbrev porterref29_Get_R : Type := (((List UInt8) × (Int × (Int × (Int × Unit)))) × Int × Unit)

noncomputable def porterref29_Get_body : Code := (Go.Proofs.Try.f9.body).getD .skip

noncomputable def porterref29_Get_L : List (List Nat × List Nat) := [([0], [0, 2]), ([0, 1], [4, 5, 2]), ([0, 0, 1, 1], [21, 5, 2]), ([1, 0, 1, 1], [5, 2]), ([0, 1, 0, 1, 1], [5, 2]), ([0, 1, 1, 1], [6, 7, 2]), ([0, 0, 1, 1, 1, 1], [31, 7, 2, 6]), ([1, 0, 1, 1, 1, 1], [7, 2, 6]), ([0, 1, 0, 1, 1, 1, 1], [7, 2, 6]), ([0, 1, 1, 1, 1, 1], [9, 2, 6, 8]), ([0, 1, 1, 1, 1, 1, 1], [11, 2, 6, 8, 10]), ([0, 1, 1, 1, 1, 1, 1, 1], [13, 2, 6, 8, 10, 12]), ([0, 1, 1, 1, 1, 1, 1, 1, 1], [13, 2, 6, 8, 10, 12]), ([0, 0, 1, 1, 1, 1, 1, 1, 1, 1, 1], [53, 13, 2, 6, 8, 10, 12]), ([1, 0, 1, 1, 1, 1, 1, 1, 1, 1, 1], [6, 8, 10, 12, 2]), ([0, 0, 1, 0, 1, 1, 1, 1, 1, 1, 1, 1, 1], [2, 3]), ([1, 0, 1, 0, 1, 1, 1, 1, 1, 1, 1, 1, 1], [2, 3]), ([0, 1, 1, 1, 1, 1, 1, 1, 1, 1, 1], [2, 3]), ([1, 1, 1, 1, 1, 1, 1, 1, 1, 1, 1], [2, 3])]

noncomputable def porterref29_Get_E (N : Nat) : Env := mkEnv tys noGlob [(28, porterref08_R_End_res N), (26, porterref08_R_Text_res N), (27, porterref08_R_Num_res N), (24, porterref08_R_Byte_res N), (25, porterref08_R_Fail_res N), (13, porterref09_Word_res N)] [] [] [] false [] []

theorem porterref29_Get_Eok (N : Nat) : EnvOk Go.Proofs.Try.prog (porterref29_Get_E N) := mkEnv_ok mixed tys_ok (FnsOk.cons (porterref08_R_End_ct N) (FnsOk.cons (porterref08_R_Text_ct N) (FnsOk.cons (porterref08_R_Num_ct N) (FnsOk.cons (porterref08_R_Byte_ct N) (FnsOk.cons (porterref08_R_Fail_ct N) (FnsOk.cons (porterref09_Word_ct N) (FnsOk.nil))))))) (ItsOk.nil)

noncomputable def porterref29_Get_p1 (N : Nat) (x2 : ((List UInt8) × (Int × (Int × (Int × Unit))))) (b : Int) (r_ : ((List UInt8) × (Int × Unit))) (k0 : ((List UInt8) × (Int × Unit)) → Option (((List UInt8) × (Int × (Int × (Int × Unit)))) × Int × Unit)) : Option (((List UInt8) × (Int × (Int × (Int × Unit)))) × Int × Unit) :=
  cond (b != (1 : Int))
  ((porterref08_R_Fail N r_ (2 : Int)).bind fun y =>
    k0 y)
  (k0 r_)

noncomputable def porterref29_Get_g1 (N : Nat) (x : denS [(2, .box (.pair .str (.pair (.int .i64) (.pair (.int .i64) (.pair (.int .i64) .unit))))), (1, .v (.int .u8)), (0, .box (.pair .str (.pair (.int .i64) .unit)))]) (K : Ex → List A → Option (((List UInt8) × (Int × (Int × (Int × Unit)))) × Int × Unit)) : Option (((List UInt8) × (Int × (Int × (Int × Unit)))) × Int × Unit) :=
  porterref29_Get_p1 N x.1 x.2.1 x.2.2.1 (fun a1 => (K .normal (mkS [(2, .box (.pair .str (.pair (.int .i64) (.pair (.int .i64) (.pair (.int .i64) .unit))))), (2, .box (.pair .str (.pair (.int .i64) .unit)))] 59 (x.1, a1, ()))))

noncomputable def porterref29_Get_h1 (N : Nat) : Hd (((List UInt8) × (Int × (Int × (Int × Unit)))) × Int × Unit) := fun st K => (unS [(2, .box (.pair .str (.pair (.int .i64) (.pair (.int .i64) (.pair (.int .i64) .unit))))), (1, .v (.int .u8)), (0, .box (.pair .str (.pair (.int .i64) .unit)))] 59 (restr [4, 5, 2] 0 st)).bind fun x => porterref29_Get_g1 N x K

noncomputable def porterref29_Get_t1 (N : Nat) : Tab (((List UInt8) × (Int × (Int × (Int × Unit)))) × Int × Unit) := []

theorem porterref29_Get_ok1 {N : Nat} {c : Ctx} (hb : Base Go.Proofs.Try.prog (porterref29_Get_E N) c) : CodeOk Go.Proofs.Try.prog c (nodeAt porterref29_Get_body [0, 1, 1]) (porterref29_Get_h1 N) :=
  piece_ok (s := [(2, .box (.pair .str (.pair (.int .i64) (.pair (.int .i64) (.pair (.int .i64) .unit))))), (1, .v (.int .u8)), (0, .box (.pair .str (.pair (.int .i64) .unit)))]) (m := 59) (g := porterref29_Get_g1 N) [4, 5, 2] (evN_sound hb N (porterref29_Get_t1 N) porterref29_Get_L porterref29_Get_body TabOk.nil [0, 1, 1] _ rfl) (fun x K => by kernel_rfl)

noncomputable def porterref29_Get_p2 (N : Nat) (x2 : ((List UInt8) × (Int × (Int × (Int × Unit))))) (t : (List UInt8)) (x7 : ((List UInt8) × (Int × Unit))) (k0 : ((List UInt8) × (Int × Unit)) → Option (((List UInt8) × (Int × (Int × (Int × Unit)))) × Int × Unit)) : Option (((List UInt8) × (Int × (Int × (Int × Unit)))) × Int × Unit) :=
  (porterref09_Word N t).bind fun y =>
  cond (!y)
  ((porterref08_R_Fail N x7 (4 : Int)).bind fun y1 =>
    k0 y1)
  (k0 x7)

noncomputable def porterref29_Get_g2 (N : Nat) (x : denS [(2, .box (.pair .str (.pair (.int .i64) (.pair (.int .i64) (.pair (.int .i64) .unit))))), (3, .v .str), (0, .box (.pair .str (.pair (.int .i64) .unit)))]) (K : Ex → List A → Option (((List UInt8) × (Int × (Int × (Int × Unit)))) × Int × Unit)) : Option (((List UInt8) × (Int × (Int × (Int × Unit)))) × Int × Unit) :=
  porterref29_Get_p2 N x.1 x.2.1 x.2.2.1 (fun a2 => (K .normal (mkS [(2, .box (.pair .str (.pair (.int .i64) (.pair (.int .i64) (.pair (.int .i64) .unit))))), (3, .v .str), (0, .box (.pair .str (.pair (.int .i64) .unit)))] 57 (x.1, x.2.1, a2, ()))))

noncomputable def porterref29_Get_h2 (N : Nat) : Hd (((List UInt8) × (Int × (Int × (Int × Unit)))) × Int × Unit) := fun st K => (unS [(2, .box (.pair .str (.pair (.int .i64) (.pair (.int .i64) (.pair (.int .i64) .unit))))), (3, .v .str), (0, .box (.pair .str (.pair (.int .i64) .unit)))] 57 (restr [6, 7, 2] 0 st)).bind fun x => porterref29_Get_g2 N x K

noncomputable def porterref29_Get_t2 (N : Nat) : Tab (((List UInt8) × (Int × (Int × (Int × Unit)))) × Int × Unit) := []

theorem porterref29_Get_ok2 {N : Nat} {c : Ctx} (hb : Base Go.Proofs.Try.prog (porterref29_Get_E N) c) : CodeOk Go.Proofs.Try.prog c (nodeAt porterref29_Get_body [0, 1, 1, 1, 1]) (porterref29_Get_h2 N) :=
  piece_ok (s := [(2, .box (.pair .str (.pair (.int .i64) (.pair (.int .i64) (.pair (.int .i64) .unit))))), (3, .v .str), (0, .box (.pair .str (.pair (.int .i64) .unit)))]) (m := 57) (g := porterref29_Get_g2 N) [6, 7, 2] (evN_sound hb N (porterref29_Get_t2 N) porterref29_Get_L porterref29_Get_body TabOk.nil [0, 1, 1, 1, 1] _ rfl) (fun x K => by kernel_rfl)

noncomputable def porterref29_Get (N : Nat) (s : (List UInt8)) : Option (((List UInt8) × (Int × (Int × (Int × Unit)))) × Int × Unit) :=
  (porterref08_R_Byte N (s, ((0 : Int), ()))).bind fun y =>
  porterref29_Get_p1 N (([] : List UInt8), ((0 : Int), ((0 : Int), ((0 : Int), ())))) y.1 y.2.1
  (fun r_ => (porterref08_R_Text N r_ (32 : Int)).bind fun y1 =>
    porterref29_Get_p2 N (([] : List UInt8), ((0 : Int), ((0 : Int), ((0 : Int), ())))) y1.1 y1.2.1
    (fun x7 => (porterref08_R_Num N x7 (1099511627776 : Int)).bind fun y2 =>
      (porterref08_R_Num N y2.2.1 (1099511627776 : Int)).bind fun y3 =>
      (porterref08_R_Num N y3.2.1 (1099511627776 : Int)).bind fun y4 =>
      (porterref08_R_End N y4.2.1).bind fun y5 =>
      cond (y5.2.1 != (0 : Int))
      (some ((([] : List UInt8), ((0 : Int), ((0 : Int), ((0 : Int), ())))), (y5.2.1, ())))
      (some ((y1.1, ((Go.IntKind.wrap Go.IntKind.i64 y2.1), ((Go.IntKind.wrap Go.IntKind.i64 y3.1), ((Go.IntKind.wrap Go.IntKind.i64 y4.1), ())))), ((0 : Int), ())))))

noncomputable def porterref29_Get_t (N : Nat) : Tab (((List UInt8) × (Int × (Int × (Int × Unit)))) × Int × Unit) := [([0, 1, 1], porterref29_Get_h1 N), ([0, 1, 1, 1, 1], porterref29_Get_h2 N)]

theorem porterref29_Get_link (N : Nat) (x : denS [(0, .v .str)]) : evFX (porterref29_Get_E N) N (porterref29_Get_t N) porterref29_Get_L Go.Proofs.Try.f9 (mkS [(0, .v .str)] 0 x) (kRes (.tup [(.pair .str (.pair (.int .i64) (.pair (.int .i64) (.pair (.int .i64) .unit)))), (.int .i64)]) 1) = porterref29_Get N x.1 := by kernel_rfl

noncomputable def porterref29_Get_res (N : Nat) : List A → Res := resOf [(0, .v .str)] (fun x => porterref29_Get N x.1) (oRes (.tup [(.pair .str (.pair (.int .i64) (.pair (.int .i64) (.pair (.int .i64) .unit)))), (.int .i64)]) 1)

theorem porterref29_Get_ct (N : Nat) : Contract Go.Proofs.Try.prog noGlob 9 (porterref29_Get_res N) :=
  Contract.of (E := porterref29_Get_E N) (H := porterref29_Get_t N) (L := porterref29_Get_L) (N := N) (body := porterref29_Get_body) (K := (kRes (.tup [(.pair .str (.pair (.int .i64) (.pair (.int .i64) (.pair (.int .i64) .unit)))), (.int .i64)]) 1)) (porterref29_Get_Eok N) Go.Proofs.Try.func9 (by kernel_rfl) (by decide) (fun _ hb => (TabOk.cons (porterref29_Get_ok1 hb) (TabOk.cons (porterref29_Get_ok2 hb) TabOk.nil))) (fun x y h => by rw [porterref29_Get_link]; exact h) (kRes_ok (s := (.tup [(.pair .str (.pair (.int .i64) (.pair (.int .i64) (.pair (.int .i64) .unit)))), (.int .i64)])) (m := 1))

abbrev porterlaw29_RootidPuts_R : Type := Bool

noncomputable def porterlaw29_RootidPuts_body : Code := (Go.Proofs.Try.f3.body).getD .skip

noncomputable def porterlaw29_RootidPuts_L : List (List Nat × List Nat) := [([0], [2, 1]), ([0, 0, 1], [21, 2, 1]), ([1, 0, 1], [2, 1]), ([0, 0, 1, 0, 1], [4]), ([1, 0, 1, 0, 1], [4]), ([0, 1, 1], [2, 1, 5, 6]), ([0, 1, 1, 1], [1, 5, 7, 6, 8]), ([0, 1, 1, 1, 1], [1, 5, 7, 6, 8, 9, 10]), ([0, 1, 1, 1, 1, 1], [5, 7, 6, 8, 9, 11, 10, 12]), ([0, 1, 1, 1, 1, 1, 1], [4]), ([1, 1, 1, 1, 1, 1, 1], [4])]

noncomputable def porterlaw29_RootidPuts_E (N : Nat) : Env := mkEnv tys noGlob [(9, porterref29_Get_res N), (7, porterref29_Put_res N), (5, porterlaw29_works_res N), (8, rootid_Get_res N), (6, rootid_Put_res N)] [] [] [] false [] []

theorem porterlaw29_RootidPuts_Eok (N : Nat) : EnvOk Go.Proofs.Try.prog (porterlaw29_RootidPuts_E N) := mkEnv_ok mixed tys_ok (FnsOk.cons (porterref29_Get_ct N) (FnsOk.cons (porterref29_Put_ct N) (FnsOk.cons (porterlaw29_works_ct N) (FnsOk.cons (rootid_Get_ct N) (FnsOk.cons (rootid_Put_ct N) (FnsOk.nil)))))) (ItsOk.nil)

noncomputable def porterlaw29_RootidPuts_p2 (N : Nat) (s : (List UInt8)) (r_ : ((List UInt8) × (Int × (Int × (Int × Unit))))) (k0 : Bool → Option Bool) : Option Bool :=
  cond (decide ((200 : Int) < (((List.length r_.1) : Nat) : Int)))
  (k0 true)
  (k0 (decide ((300 : Int) < (((List.length s) : Nat) : Int))))

noncomputable def porterlaw29_RootidPuts_g2 (N : Nat) (x : denS [(1, .v .str), (0, .box (.pair .str (.pair (.int .i64) (.pair (.int .i64) (.pair (.int .i64) .unit)))))]) (K : Ex → List A → Option Bool) : Option Bool :=
  porterlaw29_RootidPuts_p2 N x.1 x.2.1 (fun a2 => (K .normal (mkS [(1, .v .str), (0, .box (.pair .str (.pair (.int .i64) (.pair (.int .i64) (.pair (.int .i64) .unit))))), (18, .v .bool)] 42 (x.1, x.2.1, a2, ()))))

noncomputable def porterlaw29_RootidPuts_h2 (N : Nat) : Hd Bool := fun st K => (unS [(1, .v .str), (0, .box (.pair .str (.pair (.int .i64) (.pair (.int .i64) (.pair (.int .i64) .unit)))))] 61 (restr [2, 1] 0 st)).bind fun x => porterlaw29_RootidPuts_g2 N x K

noncomputable def porterlaw29_RootidPuts_t2 (N : Nat) : Tab Bool := []

theorem porterlaw29_RootidPuts_ok2 {N : Nat} {c : Ctx} (hb : Base Go.Proofs.Try.prog (porterlaw29_RootidPuts_E N) c) : CodeOk Go.Proofs.Try.prog c (nodeAt porterlaw29_RootidPuts_body [0, 0, 1]) (porterlaw29_RootidPuts_h2 N) :=
  piece_ok (s := [(1, .v .str), (0, .box (.pair .str (.pair (.int .i64) (.pair (.int .i64) (.pair (.int .i64) .unit)))))]) (m := 61) (g := porterlaw29_RootidPuts_g2 N) [2, 1] (evN_sound hb N (porterlaw29_RootidPuts_t2 N) porterlaw29_RootidPuts_L porterlaw29_RootidPuts_body TabOk.nil [0, 0, 1] _ rfl) (fun x K => by kernel_rfl)

noncomputable def porterlaw29_RootidPuts_p1 (N : Nat) (s : (List UInt8)) (r_ : ((List UInt8) × (Int × (Int × (Int × Unit))))) (k0 : Bool → Option Bool) (k1 : Option Bool) : Option Bool :=
  porterlaw29_RootidPuts_p2 N s r_
  (fun x21 => cond x21
    ((porterlaw29_works N).bind fun y =>
      k0 y)
    (k1))

noncomputable def porterlaw29_RootidPuts_g1 (N : Nat) (x : denS [(1, .v .str), (0, .box (.pair .str (.pair (.int .i64) (.pair (.int .i64) (.pair (.int .i64) .unit)))))]) (K : Ex → List A → Option Bool) : Option Bool :=
  porterlaw29_RootidPuts_p1 N x.1 x.2.1 (fun a0 => (K .ret (mkS [(4, .v .bool)] 59 (a0, ())))) (K .normal (mkS [(1, .v .str), (0, .box (.pair .str (.pair (.int .i64) (.pair (.int .i64) (.pair (.int .i64) .unit)))))] 61 (x.1, x.2.1, ())))

noncomputable def porterlaw29_RootidPuts_h1 (N : Nat) : Hd Bool := fun st K => (unS [(1, .v .str), (0, .box (.pair .str (.pair (.int .i64) (.pair (.int .i64) (.pair (.int .i64) .unit)))))] 61 (restr [2, 1] 0 st)).bind fun x => porterlaw29_RootidPuts_g1 N x K

noncomputable def porterlaw29_RootidPuts_t1 (N : Nat) : Tab Bool := [([0, 0, 1], porterlaw29_RootidPuts_h2 N)]

theorem porterlaw29_RootidPuts_ok1 {N : Nat} {c : Ctx} (hb : Base Go.Proofs.Try.prog (porterlaw29_RootidPuts_E N) c) : CodeOk Go.Proofs.Try.prog c (nodeAt porterlaw29_RootidPuts_body [0, 1]) (porterlaw29_RootidPuts_h1 N) :=
  piece_ok (s := [(1, .v .str), (0, .box (.pair .str (.pair (.int .i64) (.pair (.int .i64) (.pair (.int .i64) .unit)))))]) (m := 61) (g := porterlaw29_RootidPuts_g1 N) [2, 1] (evN_sound hb N (porterlaw29_RootidPuts_t1 N) porterlaw29_RootidPuts_L porterlaw29_RootidPuts_body (TabOk.cons (porterlaw29_RootidPuts_ok2 hb) TabOk.nil) [0, 1] _ rfl) (fun x K => by kernel_rfl)

noncomputable def porterlaw29_RootidPuts (N : Nat) (r_ : ((List UInt8) × (Int × (Int × (Int × Unit))))) (s : (List UInt8)) : Option Bool :=
  porterlaw29_RootidPuts_p1 N s r_
  (fun x4 => some x4)
  ((rootid_Put N r_).bind fun y =>
    (porterref29_Put N r_).bind fun y1 =>
    (rootid_Get N s).bind fun y2 =>
    (porterref29_Get N s).bind fun y3 =>
    cond (y.1 == y1.1)
    (cond (y.2.1 == y1.2.1)
      (cond (Go.Lift.eqD (Go.Lift.T.pair Go.Lift.T.str (Go.Lift.T.pair (Go.Lift.T.int Go.IntKind.i64) (Go.Lift.T.pair (Go.Lift.T.int Go.IntKind.i64) (Go.Lift.T.pair (Go.Lift.T.int Go.IntKind.i64) Go.Lift.T.unit)))) y2.1 y3.1)
        (cond (y2.2.1 == y3.2.1)
          ((porterlaw29_works N).bind fun y4 =>
            some y4)
          (some false))
        (some false))
      (some false))
    (some false))

noncomputable def porterlaw29_RootidPuts_t (N : Nat) : Tab Bool := [([0, 1], porterlaw29_RootidPuts_h1 N)]

theorem porterlaw29_RootidPuts_link (N : Nat) (x : denS [(0, .v (.pair .str (.pair (.int .i64) (.pair (.int .i64) (.pair (.int .i64) .unit))))), (0, .v .str)]) : evFX (porterlaw29_RootidPuts_E N) N (porterlaw29_RootidPuts_t N) porterlaw29_RootidPuts_L Go.Proofs.Try.f3 (mkS [(0, .v (.pair .str (.pair (.int .i64) (.pair (.int .i64) (.pair (.int .i64) .unit))))), (0, .v .str)] 0 x) (kRes (.v .bool) 2) = porterlaw29_RootidPuts N x.1 x.2.1 := by kernel_rfl

noncomputable def porterlaw29_RootidPuts_res (N : Nat) : List A → Res := resOf [(0, .v (.pair .str (.pair (.int .i64) (.pair (.int .i64) (.pair (.int .i64) .unit))))), (0, .v .str)] (fun x => porterlaw29_RootidPuts N x.1 x.2.1) (oRes (.v .bool) 2)

theorem porterlaw29_RootidPuts_ct (N : Nat) : Contract Go.Proofs.Try.prog noGlob 3 (porterlaw29_RootidPuts_res N) :=
  Contract.of (E := porterlaw29_RootidPuts_E N) (H := porterlaw29_RootidPuts_t N) (L := porterlaw29_RootidPuts_L) (N := N) (body := porterlaw29_RootidPuts_body) (K := (kRes (.v .bool) 2)) (porterlaw29_RootidPuts_Eok N) Go.Proofs.Try.func3 (by kernel_rfl) (by decide) (fun _ hb => (TabOk.cons (porterlaw29_RootidPuts_ok1 hb) TabOk.nil)) (fun x y h => by rw [porterlaw29_RootidPuts_link]; exact h) (kRes_ok (s := (.v .bool)) (m := 2))

abbrev porterlaw29_RootidBack_R : Type := Bool

noncomputable def porterlaw29_RootidBack_body : Code := (Go.Proofs.Try.f4.body).getD .skip

noncomputable def porterlaw29_RootidBack_L : List (List Nat × List Nat) := [([0], [2, 3, 4]), ([0, 0, 1], [19, 3, 4, 2]), ([1, 0, 1], [3, 4, 2]), ([0, 0, 1, 0, 1], [6]), ([1, 0, 1, 0, 1], [6]), ([0, 1, 1], [4, 8, 7, 3, 2]), ([0, 1, 1, 1], [8, 7, 3, 10, 9, 4, 2]), ([0, 0, 1, 1, 1, 1], [32, 7, 3, 10, 9, 4, 2]), ([1, 0, 1, 1, 1, 1], [2]), ([0, 0, 1, 0, 1, 1, 1, 1], [11, 3, 12, 10, 7, 9, 4, 2]), ([0, 1, 0, 1, 0, 1, 1, 1, 1], [57, 2]), ([1, 1, 0, 1, 0, 1, 1, 1, 1], [2]), ([0, 0, 1, 1, 0, 1, 0, 1, 1, 1, 1], [6]), ([1, 0, 1, 1, 0, 1, 0, 1, 1, 1, 1], [6]), ([0, 1, 1, 1, 1, 1], [13, 14, 2]), ([0, 1, 1, 1, 1, 1, 1], [14, 15, 2, 16]), ([0, 1, 1, 1, 1, 1, 1, 1], [6]), ([1, 1, 1, 1, 1, 1, 1, 1], [6])]

noncomputable def porterlaw29_RootidBack_E (N : Nat) : Env := mkEnv tys noGlob [(5, porterlaw29_works_res N), (8, rootid_Get_res N), (6, rootid_Put_res N)] [] [] [] false [] []

theorem porterlaw29_RootidBack_Eok (N : Nat) : EnvOk Go.Proofs.Try.prog (porterlaw29_RootidBack_E N) := mkEnv_ok mixed tys_ok (FnsOk.cons (porterlaw29_works_ct N) (FnsOk.cons (rootid_Get_ct N) (FnsOk.cons (rootid_Put_ct N) (FnsOk.nil)))) (ItsOk.nil)

noncomputable def porterlaw29_RootidBack_p2 (N : Nat) (s : (List UInt8)) (r_ : ((List UInt8) × (Int × (Int × (Int × Unit))))) (q : ((List UInt8) × (Int × (Int × (Int × Unit))))) (a : (List UInt8)) (b : (List UInt8)) (f : Int) (c : ((List UInt8) × (Int × (Int × (Int × Unit))))) (g : Int) (k0 : Bool → Option Bool) : Option Bool :=
  cond (!(Go.Lift.eqD (Go.Lift.T.pair Go.Lift.T.str (Go.Lift.T.pair (Go.Lift.T.int Go.IntKind.i64) (Go.Lift.T.pair (Go.Lift.T.int Go.IntKind.i64) (Go.Lift.T.pair (Go.Lift.T.int Go.IntKind.i64) Go.Lift.T.unit)))) c r_))
  (k0 true)
  (cond (g != (0 : Int))
    (k0 true)
    (cond (f == (0 : Int))
      (k0 (!((a == b) == (Go.Lift.eqD (Go.Lift.T.pair Go.Lift.T.str (Go.Lift.T.pair (Go.Lift.T.int Go.IntKind.i64) (Go.Lift.T.pair (Go.Lift.T.int Go.IntKind.i64) (Go.Lift.T.pair (Go.Lift.T.int Go.IntKind.i64) Go.Lift.T.unit)))) r_ q))))
      (k0 false)))

noncomputable def porterlaw29_RootidBack_g2 (N : Nat) (x : denS [(2, .v .str), (0, .box (.pair .str (.pair (.int .i64) (.pair (.int .i64) (.pair (.int .i64) .unit))))), (0, .box (.pair .str (.pair (.int .i64) (.pair (.int .i64) (.pair (.int .i64) .unit))))), (2, .v .str), (1, .v .str), (0, .v (.int .i64)), (0, .box (.pair .str (.pair (.int .i64) (.pair (.int .i64) (.pair (.int .i64) .unit))))), (0, .v (.int .i64))]) (K : Ex → List A → Option Bool) : Option Bool :=
  porterlaw29_RootidBack_p2 N x.1 x.2.1 x.2.2.1 x.2.2.2.1 x.2.2.2.2.1 x.2.2.2.2.2.1 x.2.2.2.2.2.2.1 x.2.2.2.2.2.2.2.1 (fun a1 => (K .normal (mkS [(2, .v .str), (54, .v .bool)] 24 (x.1, a1, ()))))

noncomputable def porterlaw29_RootidBack_h2 (N : Nat) : Hd Bool := fun st K => (unS [(2, .v .str), (0, .box (.pair .str (.pair (.int .i64) (.pair (.int .i64) (.pair (.int .i64) .unit))))), (0, .box (.pair .str (.pair (.int .i64) (.pair (.int .i64) (.pair (.int .i64) .unit))))), (2, .v .str), (1, .v .str), (0, .v (.int .i64)), (0, .box (.pair .str (.pair (.int .i64) (.pair (.int .i64) (.pair (.int .i64) .unit))))), (0, .v (.int .i64))] 69 (restr [11, 3, 12, 10, 7, 9, 4, 2] 0 st)).bind fun x => porterlaw29_RootidBack_g2 N x K

noncomputable def porterlaw29_RootidBack_t2 (N : Nat) : Tab Bool := []

theorem porterlaw29_RootidBack_ok2 {N : Nat} {c : Ctx} (hb : Base Go.Proofs.Try.prog (porterlaw29_RootidBack_E N) c) : CodeOk Go.Proofs.Try.prog c (nodeAt porterlaw29_RootidBack_body [0, 1, 0, 1, 0, 1, 1, 1, 1]) (porterlaw29_RootidBack_h2 N) :=
  piece_ok (s := [(2, .v .str), (0, .box (.pair .str (.pair (.int .i64) (.pair (.int .i64) (.pair (.int .i64) .unit))))), (0, .box (.pair .str (.pair (.int .i64) (.pair (.int .i64) (.pair (.int .i64) .unit))))), (2, .v .str), (1, .v .str), (0, .v (.int .i64)), (0, .box (.pair .str (.pair (.int .i64) (.pair (.int .i64) (.pair (.int .i64) .unit))))), (0, .v (.int .i64))]) (m := 69) (g := porterlaw29_RootidBack_g2 N) [11, 3, 12, 10, 7, 9, 4, 2] (evN_sound hb N (porterlaw29_RootidBack_t2 N) porterlaw29_RootidBack_L porterlaw29_RootidBack_body TabOk.nil [0, 1, 0, 1, 0, 1, 1, 1, 1] _ rfl) (fun x K => by kernel_rfl)

noncomputable def porterlaw29_RootidBack_p1 (N : Nat) (s : (List UInt8)) (r_ : ((List UInt8) × (Int × (Int × (Int × Unit))))) (q : ((List UInt8) × (Int × (Int × (Int × Unit))))) (a : (List UInt8)) (e : Int) (b : (List UInt8)) (f : Int) (k0 : Bool → Option Bool) (k1 : Option Bool) : Option Bool :=
  cond (e == (0 : Int))
  ((rootid_Get N a).bind fun y =>
    porterlaw29_RootidBack_p2 N s r_ q a b f y.1 y.2.1
    (fun x57 => cond x57
      (k0 false)
      (k1)))
  (k1)

noncomputable def porterlaw29_RootidBack_g1 (N : Nat) (x : denS [(2, .v .str), (0, .box (.pair .str (.pair (.int .i64) (.pair (.int .i64) (.pair (.int .i64) .unit))))), (0, .box (.pair .str (.pair (.int .i64) (.pair (.int .i64) (.pair (.int .i64) .unit))))), (2, .v .str), (0, .v (.int .i64)), (0, .v .str), (0, .v (.int .i64))]) (K : Ex → List A → Option Bool) : Option Bool :=
  porterlaw29_RootidBack_p1 N x.1 x.2.1 x.2.2.1 x.2.2.2.1 x.2.2.2.2.1 x.2.2.2.2.2.1 x.2.2.2.2.2.2.1 (fun a0 => (K .ret (mkS [(6, .v .bool)] 75 (a0, ())))) (K .normal (mkS [(2, .v .str)] 79 (x.1, ())))

noncomputable def porterlaw29_RootidBack_h1 (N : Nat) : Hd Bool := fun st K => (unS [(2, .v .str), (0, .box (.pair .str (.pair (.int .i64) (.pair (.int .i64) (.pair (.int .i64) .unit))))), (0, .box (.pair .str (.pair (.int .i64) (.pair (.int .i64) (.pair (.int .i64) .unit))))), (2, .v .str), (0, .v (.int .i64)), (0, .v .str), (0, .v (.int .i64))] 71 (restr [8, 7, 3, 10, 9, 4, 2] 0 st)).bind fun x => porterlaw29_RootidBack_g1 N x K

noncomputable def porterlaw29_RootidBack_t1 (N : Nat) : Tab Bool := [([0, 1, 0, 1, 0, 1, 1, 1, 1], porterlaw29_RootidBack_h2 N)]

theorem porterlaw29_RootidBack_ok1 {N : Nat} {c : Ctx} (hb : Base Go.Proofs.Try.prog (porterlaw29_RootidBack_E N) c) : CodeOk Go.Proofs.Try.prog c (nodeAt porterlaw29_RootidBack_body [0, 1, 1, 1, 1]) (porterlaw29_RootidBack_h1 N) :=
  piece_ok (s := [(2, .v .str), (0, .box (.pair .str (.pair (.int .i64) (.pair (.int .i64) (.pair (.int .i64) .unit))))), (0, .box (.pair .str (.pair (.int .i64) (.pair (.int .i64) (.pair (.int .i64) .unit))))), (2, .v .str), (0, .v (.int .i64)), (0, .v .str), (0, .v (.int .i64))]) (m := 71) (g := porterlaw29_RootidBack_g1 N) [8, 7, 3, 10, 9, 4, 2] (evN_sound hb N (porterlaw29_RootidBack_t1 N) porterlaw29_RootidBack_L porterlaw29_RootidBack_body (TabOk.cons (porterlaw29_RootidBack_ok2 hb) TabOk.nil) [0, 1, 1, 1, 1] _ rfl) (fun x K => by kernel_rfl)

noncomputable def porterlaw29_RootidBack (N : Nat) (r_ : ((List UInt8) × (Int × (Int × (Int × Unit))))) (q : ((List UInt8) × (Int × (Int × (Int × Unit))))) (s : (List UInt8)) : Option Bool :=
  cond (decide ((300 : Int) < (((List.length s) : Nat) : Int)))
  ((porterlaw29_works N).bind fun y =>
    some y)
  ((rootid_Put N r_).bind fun y1 =>
    (rootid_Put N q).bind fun y2 =>
    porterlaw29_RootidBack_p1 N s r_ q y1.1 y1.2.1 y2.1 y2.2.1
    (fun x6 => some x6)
    ((rootid_Get N s).bind fun y3 =>
      (rootid_Put N y3.1).bind fun y4 =>
      cond (y3.2.1 != (0 : Int))
      ((porterlaw29_works N).bind fun y5 =>
        some y5)
      (cond (y4.1 == s)
        (cond (y4.2.1 == (0 : Int))
          ((porterlaw29_works N).bind fun y6 =>
            some y6)
          (some false))
        (some false))))

noncomputable def porterlaw29_RootidBack_t (N : Nat) : Tab Bool := [([0, 1, 1, 1, 1], porterlaw29_RootidBack_h1 N)]

theorem porterlaw29_RootidBack_link (N : Nat) (x : denS [(0, .v (.pair .str (.pair (.int .i64) (.pair (.int .i64) (.pair (.int .i64) .unit))))), (0, .v (.pair .str (.pair (.int .i64) (.pair (.int .i64) (.pair (.int .i64) .unit))))), (0, .v .str)]) : evFX (porterlaw29_RootidBack_E N) N (porterlaw29_RootidBack_t N) porterlaw29_RootidBack_L Go.Proofs.Try.f4 (mkS [(0, .v (.pair .str (.pair (.int .i64) (.pair (.int .i64) (.pair (.int .i64) .unit))))), (0, .v (.pair .str (.pair (.int .i64) (.pair (.int .i64) (.pair (.int .i64) .unit))))), (0, .v .str)] 0 x) (kRes (.v .bool) 3) = porterlaw29_RootidBack N x.1 x.2.1 x.2.2.1 := by kernel_rfl

noncomputable def porterlaw29_RootidBack_res (N : Nat) : List A → Res := resOf [(0, .v (.pair .str (.pair (.int .i64) (.pair (.int .i64) (.pair (.int .i64) .unit))))), (0, .v (.pair .str (.pair (.int .i64) (.pair (.int .i64) (.pair (.int .i64) .unit))))), (0, .v .str)] (fun x => porterlaw29_RootidBack N x.1 x.2.1 x.2.2.1) (oRes (.v .bool) 3)

theorem porterlaw29_RootidBack_ct (N : Nat) : Contract Go.Proofs.Try.prog noGlob 4 (porterlaw29_RootidBack_res N) :=
  Contract.of (E := porterlaw29_RootidBack_E N) (H := porterlaw29_RootidBack_t N) (L := porterlaw29_RootidBack_L) (N := N) (body := porterlaw29_RootidBack_body) (K := (kRes (.v .bool) 3)) (porterlaw29_RootidBack_Eok N) Go.Proofs.Try.func4 (by kernel_rfl) (by decide) (fun _ hb => (TabOk.cons (porterlaw29_RootidBack_ok1 hb) TabOk.nil)) (fun x y h => by rw [porterlaw29_RootidBack_link]; exact h) (kRes_ok (s := (.v .bool)) (m := 3))

end Go.Proofs.YtlhfamaflkbkjaaLg
