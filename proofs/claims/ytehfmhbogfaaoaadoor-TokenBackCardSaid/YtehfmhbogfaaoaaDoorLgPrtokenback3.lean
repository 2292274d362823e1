import Derived.Test.YtehfmhbogfaaoaaDoorLgPrtokenback2
import Derived.Test.YtehfmhbogfaaoaaDoorLgPrtokenback1
import Derived.LaidEql
import Derived.Stop.Asserts
import Derived.RowKitTokens
import Derived.Deep.RegionHeld3
import Derived.WalkKit
import Derived.Tactics
import Derived.Tactics2
import Derived.Defers
import Derived.Lib.Hide
import Derived.Below
import Derived.Recover
import Derived.Orders
import Derived.WalkSmall
import Derived.LoopN
set_option linter.all false
set_option maxRecDepth 100000
namespace Go.Proofs.YtehfmhbogfaaoaaDoorLg
open Go Go.Lift

noncomputable def strings_Builder_WriteString_body : Code := (Go.Proofs.Tryd.f33.body).getD .skip

noncomputable def strings_Builder_WriteString_L : List (List Nat × List Nat) := [([0], [0, 1]), ([0, 1], [0, 1]), ([0, 1, 1], [1, 0]), ([0, 1, 1, 1], [4, 5, 0]), ([1, 1, 1, 1], [4, 5, 0])]

noncomputable def strings_Builder_WriteString_E (N : Nat) : Env := mkEnv tys noGlob [(55, cc_res)] [] [] [0] false [] []

theorem strings_Builder_WriteString_Eok (N : Nat) : EnvOk Go.Proofs.Tryd.prog (strings_Builder_WriteString_E N) := mkEnv_ok mixed tys_ok (FnsOk.cons (cc_ct noGlob) (FnsOk.nil)) (ItsOk.nil)

noncomputable def strings_Builder_WriteString (N : Nat) (b : (Unit × ((List Int) × Unit))) (s : (List UInt8)) : Option ((Int × Go.Value × Unit) × ((Unit × ((List Int) × Unit)) × Unit)) :=
 cond (decide ((((List.length b.2.1) + (List.length (Go.Lift.ofStr s))) * 1) ≤ 70368744177664))
 (some (((((List.length s) : Nat) : Int), (Go.Value.nilIface, ())), ((b.1, ((b.2.1 ++ (Go.Lift.ofStr s)), b.2.2)), ())))
 (none)

noncomputable def strings_Builder_WriteString_t (N : Nat) : Tab ((Int × Go.Value × Unit) × ((Unit × ((List Int) × Unit)) × Unit)) := []

theorem strings_Builder_WriteString_link (N : Nat) (x : denS [(0, .box (.pair (.self 70) (.pair (.own (.byt 5)) .unit))), (0, .v .str)]) : evFX (strings_Builder_WriteString_E N) N (strings_Builder_WriteString_t N) strings_Builder_WriteString_L Go.Proofs.Tryd.f33 (mkS [(0, .box (.pair (.self 70) (.pair (.own (.byt 5)) .unit))), (0, .v .str)] 0 x) (kResB (.tup [(.int .i64), .opq]) [(0, .box (.pair (.self 70) (.pair (.own (.byt 5)) .unit)))] 1) = strings_Builder_WriteString N x.1 x.2.1 := by kernel_rfl

noncomputable def strings_Builder_WriteString_res (N : Nat) : List A → Res := resOf [(0, .box (.pair (.self 70) (.pair (.own (.byt 5)) .unit))), (0, .v .str)] (fun x => strings_Builder_WriteString N x.1 x.2.1) (oResB (.tup [(.int .i64), .opq]) [(0, .box (.pair (.self 70) (.pair (.own (.byt 5)) .unit)))] 1)

theorem strings_Builder_WriteString_ct (N : Nat) : Contract Go.Proofs.Tryd.prog noGlob 33 (strings_Builder_WriteString_res N) :=
  Contract.of (E := strings_Builder_WriteString_E N) (H := strings_Builder_WriteString_t N) (L := strings_Builder_WriteString_L) (N := N) (body := strings_Builder_WriteString_body) (K := (kResB (.tup [(.int .i64), .opq]) [(0, .box (.pair (.self 70) (.pair (.own (.byt 5)) .unit)))] 1)) (strings_Builder_WriteString_Eok N) Go.Proofs.Tryd.func33 (by kernel_rfl) (by decide) (fun _ hb => TabOk.nil) (fun x y h => by rw [strings_Builder_WriteString_link]; exact h) (kResB_ok (s := (.tup [(.int .i64), .opq])) (os := [(0, .box (.pair (.self 70) (.pair (.own (.byt 5)) .unit)))]) (m := 1))

noncomputable def strings_Builder_WriteByte_body : Code := (Go.Proofs.Tryd.f36.body).getD .skip

noncomputable def strings_Builder_WriteByte_L : List (List Nat × List Nat) := [([0], [0, 1]), ([0, 1], [0, 1]), ([0, 1, 1], [0]), ([0, 1, 1, 1], [4, 0]), ([1, 1, 1, 1], [4, 0])]

noncomputable def strings_Builder_WriteByte_E (N : Nat) : Env := mkEnv tys noGlob [(55, cc_res)] [] [] [0] false [] []

theorem strings_Builder_WriteByte_Eok (N : Nat) : EnvOk Go.Proofs.Tryd.prog (strings_Builder_WriteByte_E N) := mkEnv_ok mixed tys_ok (FnsOk.cons (cc_ct noGlob) (FnsOk.nil)) (ItsOk.nil)

noncomputable def strings_Builder_WriteByte (N : Nat) (b : (Unit × ((List Int) × Unit))) (c : Int) : Option (Go.Value × ((Unit × ((List Int) × Unit)) × Unit)) :=
 cond (decide ((((List.length b.2.1) + 1) * 1) ≤ 70368744177664))
 (some (Go.Value.nilIface, ((b.1, ((b.2.1 ++ ([c] : List Int)), b.2.2)), ())))
 (none)

noncomputable def strings_Builder_WriteByte_t (N : Nat) : Tab (Go.Value × ((Unit × ((List Int) × Unit)) × Unit)) := []

theorem strings_Builder_WriteByte_link (N : Nat) (x : denS [(0, .box (.pair (.self 70) (.pair (.own (.byt 5)) .unit))), (0, .v (.int .u8))]) : evFX (strings_Builder_WriteByte_E N) N (strings_Builder_WriteByte_t N) strings_Builder_WriteByte_L Go.Proofs.Tryd.f36 (mkS [(0, .box (.pair (.self 70) (.pair (.own (.byt 5)) .unit))), (0, .v (.int .u8))] 0 x) (kResB (.v .opq) [(0, .box (.pair (.self 70) (.pair (.own (.byt 5)) .unit)))] 1) = strings_Builder_WriteByte N x.1 x.2.1 := by kernel_rfl

noncomputable def strings_Builder_WriteByte_res (N : Nat) : List A → Res := resOf [(0, .box (.pair (.self 70) (.pair (.own (.byt 5)) .unit))), (0, .v (.int .u8))] (fun x => strings_Builder_WriteByte N x.1 x.2.1) (oResB (.v .opq) [(0, .box (.pair (.self 70) (.pair (.own (.byt 5)) .unit)))] 1)

theorem strings_Builder_WriteByte_ct (N : Nat) : Contract Go.Proofs.Tryd.prog noGlob 36 (strings_Builder_WriteByte_res N) :=
  Contract.of (E := strings_Builder_WriteByte_E N) (H := strings_Builder_WriteByte_t N) (L := strings_Builder_WriteByte_L) (N := N) (body := strings_Builder_WriteByte_body) (K := (kResB (.v .opq) [(0, .box (.pair (.self 70) (.pair (.own (.byt 5)) .unit)))] 1)) (strings_Builder_WriteByte_Eok N) Go.Proofs.Tryd.func36 (by kernel_rfl) (by decide) (fun _ hb => TabOk.nil) (fun x y h => by rw [strings_Builder_WriteByte_link]; exact h) (kResB_ok (s := (.v .opq)) (os := [(0, .box (.pair (.self 70) (.pair (.own (.byt 5)) .unit)))]) (m := 1))

noncomputable def token_body_E (N : Nat) : Env := mkEnv tys noGlob [(36, strings_Builder_WriteByte_res N), (35, field_Num_res N), (33, strings_Builder_WriteString_res N), (34, field_Text_res N), (37, str_res)] [] [] [] false [(3, (.pair (.self 70) (.pair (.own (.byt 5)) .unit)))] []

theorem token_body_Eok (N : Nat) : EnvOk Go.Proofs.Tryd.prog (token_body_E N) := mkEnv_ok mixed tys_ok (FnsOk.cons (strings_Builder_WriteByte_ct N) (FnsOk.cons (field_Num_ct N) (FnsOk.cons (strings_Builder_WriteString_ct N) (FnsOk.cons (field_Text_ct N) (FnsOk.cons (str_ct noGlob) (FnsOk.nil)))))) (ItsOk.nil)

noncomputable def token_body_s1 (N : Nat) (x17 : (List ((List UInt8) × ((List UInt8) × Unit)))) (x18 : Int) (out : (Unit × ((List Int) × Unit))) (x19 : Int) (rec : (Unit × ((List Int) × Unit)) → Int → Option (List UInt8)) (k0 : (Unit × ((List Int) × Unit)) → Option (List UInt8)) : Option (List UInt8) :=
 cond (decide (x19 < x18))
 (cond (Go.Lift.inR x19 (List.length x17))
 (cond ((List.getD x17 (Int.toNat x19) (([] : List UInt8), (([] : List UInt8), ()))).2.1 == ([] : List UInt8))
 ((strings_Builder_WriteByte N out (0 : Int)).bind fun y =>
 (field_Text N (List.getD x17 (Int.toNat x19) (([] : List UInt8), (([] : List UInt8), ()))).1).bind fun y1 =>
 (strings_Builder_WriteString N y.2.1 y1).bind fun y2 =>
 rec y2.2.1 (Go.IntKind.wrap Go.IntKind.i64 (x19 + (1 : Int))))
 ((strings_Builder_WriteByte N out (1 : Int)).bind fun y3 =>
 (field_Text N (List.getD x17 (Int.toNat x19) (([] : List UInt8), (([] : List UInt8), ()))).1).bind fun y4 =>
 (strings_Builder_WriteString N y3.2.1 y4).bind fun y5 =>
 (field_Text N (List.getD x17 (Int.toNat x19) (([] : List UInt8), (([] : List UInt8), ()))).2.1).bind fun y6 =>
 (strings_Builder_WriteString N y5.2.1 y6).bind fun y7 =>
 rec y7.2.1 (Go.IntKind.wrap Go.IntKind.i64 (x19 + (1 : Int)))))
 (none))
 (k0 out)

noncomputable def token_body_p1 (N : Nat) (out : (Unit × ((List Int) × Unit))) (x17 : (List ((List UInt8) × ((List UInt8) × Unit)))) (x18 : Int) (x19 : Int) (k0 : (Unit × ((List Int) × Unit)) → Option (List UInt8)) : Option (List UInt8) :=
 iter (fun (v : ((Unit × ((List Int) × Unit)) × Int)) r => token_body_s1 N x17 x18 v.1 v.2 (fun out x19 => (r (out, x19))) k0) N (out, x19)

noncomputable def token_body_g1 (N : Nat) (i : ((List ((List UInt8) × ((List UInt8) × Unit))) × Int)) (v : ((Unit × ((List Int) × Unit)) × Int)) (r : ((Unit × ((List Int) × Unit)) × Int) → Option (List UInt8)) (K : Ex → List A → Option (List UInt8)) : Option (List UInt8) :=
 token_body_s1 N i.1 i.2 v.1 v.2 (fun out x19 => (r (out, x19))) (fun a0 => (K (.exit 0) (mkS [(3, .box (.pair (.self 70) (.pair (.own (.byt 5)) .unit)))] 38 (a0, ()))))

noncomputable def token_body_h1 (N : Nat) : Hd (List UInt8) := fun st K => (unS [(3, .box (.pair (.self 70) (.pair (.own (.byt 5)) .unit))), (13, .v (.sl (.pair .str (.pair .str .unit)))), (0, .v (.int .i64)), (0, .v (.int .i64))] 22 (restr [19, 18, 17, 3] 0 st)).bind fun x => iter (fun v r => token_body_g1 N ((fun x => (x.2.1, x.2.2.1)) x) v r K) N ((fun x => (x.1, x.2.2.2.1)) x)

theorem token_body_ok1 {N : Nat} {c : Ctx} (hb : Base Go.Proofs.Tryd.prog (token_body_E N) c) : CodeOk Go.Proofs.Tryd.prog c (nodeAt token_body_body [0, 1, 0, 1, 1, 1, 1]) (token_body_h1 N) :=
  loop_ok (s := [(3, .box (.pair (.self 70) (.pair (.own (.byt 5)) .unit))), (13, .v (.sl (.pair .str (.pair .str .unit)))), (0, .v (.int .i64)), (0, .v (.int .i64))]) (m := 22) (token_body_g1 N) [19, 18, 17, 3] N (fun x => (x.2.1, x.2.2.1)) (fun x => (x.1, x.2.2.2.1)) (fun i v => (v.1, i.1, i.2, v.2, ())) (fun _ => rfl) (evN_sound hb N (token_body_t1 N) token_body_L token_body_body TabOk.nil [0, 0, 1, 0, 1, 1, 1, 1] _ rfl) (fun i v r K => by kernel_rfl)

noncomputable def token_body (N : Nat) (t : ((List UInt8) × ((List ((List UInt8) × ((List UInt8) × Unit))) × ((List UInt8) × Unit)))) : Option (List UInt8) :=
 (field_Text N t.1).bind fun y =>
 (strings_Builder_WriteString N ((), (([] : List Int), ())) y).bind fun y1 =>
 (field_Num N (Go.IntKind.wrap Go.IntKind.u64 (((List.length t.2.1) : Nat) : Int))).bind fun y2 =>
 (strings_Builder_WriteString N y1.2.1 y2).bind fun y3 =>
 token_body_p1 N y3.2.1 t.2.1 (((List.length t.2.1) : Nat) : Int) (0 : Int)
 (fun out => (str_F (out, ())).bind fun y4 =>
 some y4.1)

noncomputable def token_body_t (N : Nat) : Tab (List UInt8) := [([0, 1, 0, 1, 1, 1, 1], token_body_h1 N)]

theorem token_body_link (N : Nat) (x : denS [(0, .v (.pair .str (.pair (.sl (.pair .str (.pair .str .unit))) (.pair .str .unit))))]) : evFX (token_body_E N) N (token_body_t N) token_body_L Go.Proofs.Tryd.f16 (mkS [(0, .v (.pair .str (.pair (.sl (.pair .str (.pair .str .unit))) (.pair .str .unit))))] 0 x) (kRes (.v .str) 1) = token_body N x.1 := by kernel_rfl

noncomputable def token_body_res (N : Nat) : List A → Res := resOf [(0, .v (.pair .str (.pair (.sl (.pair .str (.pair .str .unit))) (.pair .str .unit))))] (fun x => token_body N x.1) (oRes (.v .str) 1)

theorem token_body_ct (N : Nat) : Contract Go.Proofs.Tryd.prog noGlob 16 (token_body_res N) :=
  Contract.of (E := token_body_E N) (H := token_body_t N) (L := token_body_L) (N := N) (body := token_body_body) (K := (kRes (.v .str) 1)) (token_body_Eok N) Go.Proofs.Tryd.func16 (by kernel_rfl) (by decide) (fun _ hb => (TabOk.cons (token_body_ok1 hb) TabOk.nil)) (fun x y h => by rw [token_body_link]; exact h) (kRes_ok (s := (.v .str)) (m := 1))

theorem ends_of_fine {w w' : World} {S : Hp} {b : Nat} {x x' : RdrT.den} {rest : List A} {vals : List Value} {ob : Nat → List Nat} {rA : A} {rV : Value} {outs : List A}
    (hrest : ∀ y ∈ rest, isBoxA y = false) (hv0 : vals[0]? = some (.pointer (some ⟨b, 0, none⟩))) (hob : ob 0 = [b]) (hob' : ∀ i, i ≠ 0 → ob i = []) (houts : outs[0]? = some (.box RdrT x'))
    (hF : Fine w S b x' w') (hr : ∀ S', ARel (hp w') S' (fun _ => undef) rA rV []) (hrr : rA.refs = []) : Lift.Ends w S (.box RdrT x :: rest) vals ob rA outs (.returned rV) w' := by
  obtain ⟨S', h1, h2, h3, h4, h5, E, fr, h6, h7⟩ := hF
  have hmem : ∀ i k, k ∈ ob i → k = b := fun i k hk => by
    by_cases hi : i = 0
    · subst hi; rw [hob] at hk; exact List.mem_singleton.1 hk
    · rw [hob' i hi] at hk; cases hk
  refine ⟨rV, S', [], ob, rfl, ⟨h1.size, fun k hk hn => h1.same k hk (fun e => hn ⟨0, by rw [hob, e]; exact List.mem_singleton.2 rfl⟩), h1.tape, h1.os, h1.output⟩, h2, h4, fun k hk => ?_, ⟨hr S', hrr⟩, (fun k hk => by cases hk), .nil, ?_, ?_, ?_, ?_, fun _ h => h⟩
  · rcases h3 k hk with h | h
    · exact .inl h
    · exact .inr (.inr h)
  · intro i y hy hbx
    match i with
    | 0 =>
      cases hy
      exact ⟨_, _, houts, hv0, rfl, by rw [hob]; exact rdr_shut h6 h7⟩
    | i + 1 =>
      have := hrest y (List.mem_of_getElem? hy)
      rw [hbx] at this
      cases this
  · intro i k hk
    refine ⟨.inl ⟨i, hk⟩, ?_, fun h => by cases h⟩
    rw [hmem i k hk]; exact h5
  · intro i j k hi hj
    by_cases h0 : i = 0
    · by_cases h1 : j = 0
      · omega
      · rw [hob' j h1] at hj; cases hj
    · rw [hob' i h0] at hi; cases hi
  · intro i
    by_cases h0 : i = 0
    · subst h0; rw [hob]; exact List.nodup_cons.2 ⟨by simp, List.nodup_nil⟩
    · rw [hob' i h0]; exact .nil

theorem args_one {w : World} {S : Hp} {x : RdrT.den} {vals : List Value} {ob : Nat → List Nat} (hS : Lift.Sub S (hp w)) (har : ArgsRel (hp w) S [.box RdrT x] vals ob) :
    ∃ b, vals = [.pointer (some ⟨b, 0, none⟩)] ∧ ob 0 = [b] ∧ (∀ i, i ≠ 0 → ob i = []) ∧ Rdr w S b x := by
  obtain ⟨⟨v0, hv0, hA0⟩, _⟩ := har.rel 0 _ rfl
  obtain ⟨b, E, fr, ho, hv, hc, hf⟩ := rdr_open hA0
  have hlen := har.len
  have hvals : vals = [v0] := by
    match vals, hlen with
    | [a], _ => cases hv0; rfl
  subst hv
  exact ⟨b, hvals, ho, fun i hi => har.out i (by simp; omega), hS, har.hid 0 b (by rw [ho]; exact List.mem_singleton.2 rfl), E, fr, hc, hf⟩

theorem args_two {w : World} {S : Hp} {x : RdrT.den} {k : IntKind} {n : Int} {vals : List Value} {ob : Nat → List Nat} (hS : Lift.Sub S (hp w)) (har : ArgsRel (hp w) S [.box RdrT x, .v (.int k) n] vals ob) :
    ∃ b, vals = [.pointer (some ⟨b, 0, none⟩), .int k n] ∧ ob 0 = [b] ∧ (∀ i, i ≠ 0 → ob i = []) ∧ Rdr w S b x := by
  obtain ⟨⟨v0, hv0, hA0⟩, _⟩ := har.rel 0 _ rfl
  obtain ⟨⟨v1, hv1, hA1⟩, _⟩ := har.rel 1 _ rfl
  obtain ⟨b, E, fr, ho, hv, hc, hf⟩ := rdr_open hA0
  have hlen := har.len
  have hvals : vals = [v0, v1] := by
    match vals, hlen with
    | [a, c], _ => cases hv0; cases hv1; rfl
  have e1 := VR.int_inv hA1.1
  subst e1
  subst hv
  refine ⟨b, hvals, ho, fun i hi => ?_, hS, har.hid 0 b (by rw [ho]; exact List.mem_singleton.2 rfl), E, fr, hc, hf⟩
  match i with
  | 0 => exact absurd rfl hi
  | 1 => exact hA1.2
  | i + 2 => exact har.out _ (by simp)

noncomputable def field_Reader_Byte_res (N : Nat) : List A → Res := resOf [(0, .box (.pair .bool (.pair .str (.pair (.int .i64) .unit))))] (fun x => field_Reader_Byte N x.1) (oResB (.v (.int .u8)) [(0, .box (.pair .bool (.pair .str (.pair (.int .i64) .unit))))] 0)

theorem field_Reader_Byte_ct (N : Nat) : Contract Tryd.prog noGlob 26 (field_Reader_Byte_res N) := by
  refine Contract.hand ⟨_, Tryd.func26, by kernel_rfl, by decide⟩ ?_
  intro w S vals ob x y har hS hg hy
  obtain ⟨x, u⟩ := x
  cases u
  obtain ⟨b, rfl, ho, ho', hR⟩ := args_one hS har
  have fin : ∀ (n : Int) (x' : RdrT.den), y = (n, (x', ())) → Calls Tryd.prog 26 #[.pointer (some ⟨b, 0, none⟩)] w (fun r w' => r = .returned (.int .u8 n) ∧ Fine w S b x' w') →
      Calls Tryd.prog 26 [Value.pointer (some ⟨b, 0, none⟩)].toArray w fun e w' => Lift.Ends w S (mkS [(0, .box RdrT)] 0 (x, ())) [.pointer (some ⟨b, 0, none⟩)] ob (oResB (.v (.int .u8)) [(0, .box RdrT)] 0 y).1 (oResB (.v (.int .u8)) [(0, .box RdrT)] 0 y).2 e w' := by
    rintro n x' rfl hc
    refine hc.mono ?_
    rintro r w' ⟨rfl, hF⟩
    exact ends_of_fine (rest := []) (fun _ h => by cases h) rfl ho ho' rfl hF (fun S' => ⟨VR.int, rfl⟩) rfl
  have hy' : field_Reader_Byte N x = some y := hy
  unfold field_Reader_Byte at hy'
  cases hr : (x.1 && (x.2.2.1 == 0)) with
  | false =>
    rw [hr] at hy'
    cases hy'
    exact fin _ _ rfl (byte_off N hR hr)
  | true =>
    rw [hr] at hy'
    by_cases hle : 1 ≤ Go.IntKind.wrap .u64 (x.2.1.length : Int)
    · rw [decide_eq_true hle] at hy'
      cases hy'
      obtain ⟨m, s, e, u⟩ := x
      cases u
      cases s with
      | nil => exact absurd (show 1 ≤ Go.IntKind.wrap .u64 (0 : Int) from hle) (by decide)
      | cons a l => exact fin _ _ rfl (byte_on N hR hr hle)
    · rw [decide_eq_false hle] at hy'
      cases hy'
      refine fin _ _ rfl ?_
      have e : failS x 1 = (x.1, [], 1, ()) := by
        unfold failS
        rw [hr]
        rfl
      rw [← e]
      exact byte_end N hR hr hle

noncomputable def field_Reader_Num (N : Nat) (x : RdrT.den) (most : Int) : Option (Int × (RdrT.den × Unit)) :=
 cond (x.1 && (x.2.2.1 == 0))
 ((varint_Take N x.2.1).bind fun y =>
 cond (decide (y.2.2.1 = 0))
 (cond (decide (y.1 ≤ most))
 (cond (decide (0 ≤ y.2.1 ∧ y.2.1 ≤ x.2.1.length))
 (some (y.1, ((x.1, x.2.1.drop y.2.1.toNat, x.2.2.1, ()), ())))
 none)
 (some (0, ((x.1, [], 3, ()), ()))))
 (some (0, ((x.1, [], y.2.2.1, ()), ()))))
 (some (0, (x, ())))

theorem failS_on {x : RdrT.den} {e : Int} (hr : (x.1 && (x.2.2.1 == 0)) = true) (he : e ≠ 0) : failS x e = (x.1, [], e, ()) := by
  unfold failS
  rw [hr, bne_iff_ne.2 he]
  rfl

theorem num_call (N : Nat) {w : World} {S : Hp} {b : Nat} {x : RdrT.den} {most n : Int} {x' : RdrT.den} (h : Rdr w S b x) (hy : field_Reader_Num N x most = some (n, (x', ()))) :
    Calls Tryd.prog 24 #[.pointer (some ⟨b, 0, none⟩), .int .u64 most] w fun r w' => r = .returned (.int .u64 n) ∧ Fine w S b x' w' := by
  unfold field_Reader_Num at hy
  cases hr : (x.1 && (x.2.2.1 == 0)) with
  | false =>
    rw [hr] at hy
    cases hy
    exact num_off N h hr
  | true =>
    rw [hr] at hy
    cases ht : varint_Take N x.2.1 with
    | none => rw [ht] at hy; cases hy
    | some y =>
      rw [ht, Option.bind_some] at hy
      by_cases he : y.2.2.1 = 0
      · rw [decide_eq_true he] at hy
        by_cases hm : y.1 ≤ most
        · rw [decide_eq_true hm] at hy
          by_cases hu : 0 ≤ y.2.1 ∧ y.2.1 ≤ x.2.1.length
          · rw [decide_eq_true hu] at hy
            cases hy
            exact num_on N h hr (fun w1 S1 h1 => number_fine N h1 ht he hm hu.1 hu.2)
          · rw [decide_eq_false hu] at hy
            cases hy
        · rw [decide_eq_false hm] at hy
          cases hy
          rw [← failS_on hr (by decide : (3 : Int) ≠ 0)]
          exact num_stop N h hr (fun w1 S1 h1 => number_much N h1 ht he hm)
      · rw [decide_eq_false he] at hy
        cases hy
        rw [← failS_on hr he]
        exact num_stop N h hr (fun w1 S1 h1 => number_bad N h1 ht he)

noncomputable def field_Reader_Num_box (N : Nat) : List A → Res := resOf [(0, .box (.pair .bool (.pair .str (.pair (.int .i64) .unit)))), (0, .v (.int .u64))] (fun x => field_Reader_Num N x.1 x.2.1) (oResB (.v (.int .u64)) [(0, .box (.pair .bool (.pair .str (.pair (.int .i64) .unit))))] 1)

theorem field_Reader_Num_box_ct (N : Nat) : Contract Tryd.prog noGlob 24 (field_Reader_Num_box N) := by
  refine Contract.hand ⟨_, Tryd.func24, by kernel_rfl, by decide⟩ ?_
  intro w S vals ob x y har hS hg hy
  obtain ⟨x, most, u⟩ := x
  cases u
  obtain ⟨n, x', u⟩ := y
  cases u
  obtain ⟨b, rfl, ho, ho', hR⟩ := args_two hS har
  refine (num_call N hR hy).mono ?_
  rintro r w' ⟨rfl, hF⟩
  exact ends_of_fine (rest := [.v (.int .u64) most]) (fun _ h => by rw [List.mem_singleton.1 h]; rfl) rfl ho ho' rfl hF (fun S' => ⟨VR.int, rfl⟩) rfl

theorem reads_none (N : Nat) {w : World} {S : Hp} (hS : Lift.Sub S (hp w)) :
    Calls Tryd.prog 42 #[.pointer none] w fun r w' => r = .returned (.bool false) ∧
      ∃ S', WF w (fun _ => False) w' ∧ Lift.Sub S S' ∧ Lift.Sub S' (hp w') ∧ ∀ k, S' k ≠ none → S k ≠ none ∨ w.heap.size ≤ k := by
  have h := (field_Reader_reads_nil_ct N).2 w S [.v .opq (.pointer none)] [.pointer none] (fun _ => []) ⟨rfl, fun i x hx => ?_, fun _ _ => rfl, (fun i j b hb => by cases hb), fun _ => .nil, (fun i b hb => by cases hb)⟩ hS (glob_none S) false rfl
  · refine h.mono ?_
    rintro r w' ⟨v, S', o, ob', rfl, hwf, h3, h4, h5, ⟨⟨hv, _⟩, _⟩, _⟩
    refine ⟨by rw [VR.bool_inv hv], S', ⟨hwf.size, fun k hk _ => hwf.same k hk (by rintro ⟨i, hi⟩; cases hi), hwf.tape, hwf.os, hwf.output⟩, h3, h4, fun b hb => ?_⟩
    rcases h5 b hb with h | ⟨i, hi⟩ | h
    · exact .inl h
    · cases hi
    · exact .inr h
  · match i with
    | 0 => cases hx; exact ⟨⟨_, rfl, VR.of_one rfl ⟨rfl, rfl⟩, rfl⟩, rfl⟩
    | i + 1 => cases hx

theorem num_nil (N : Nat) {w : World} {S : Hp} {most : Int} (hS : Lift.Sub S (hp w)) :
    Calls Tryd.prog 24 #[.pointer none, .int .u64 most] w fun r w' => r = .returned (.int .u64 0) ∧
      ∃ S', WF w (fun _ => False) w' ∧ Lift.Sub S S' ∧ Lift.Sub S' (hp w') ∧ ∀ k, S' k ≠ none → S k ≠ none ∨ w.heap.size ≤ k := by
  have hmf : ∀ (fn : Fn) (first cap : Array Value) (w : World), (Instr.makeFunc fn first cap).run Tryd.prog w = .ok (.func fn first cap) w := fun _ _ _ _ => rfl
  have hA := alloc_cell w (.pointer none) 48
  have hh : (w.alloc (.cells #[.pointer none] 48)).heap = w.heap.push (.cells #[.pointer none] 48 (0, 0)) := rfl
  have hk : ∀ k, k < w.heap.size → (w.alloc (.cells #[.pointer none] 48)).heap[k]? = w.heap[k]? := fun k hk => by
    rw [hh, Array.getElem?_push, if_neg (by omega)]
  have hz : (w.alloc (.cells #[.pointer none] 48)).heap.size = w.heap.size + 1 := by rw [hh, Array.size_push]
  have hS1 : Lift.Sub S (hp (w.alloc (.cells #[.pointer none] 48))) := fun k o ho => by
    have := hS k o ho
    simp only [hp] at this ⊢
    rw [hk k (Array.getElem?_eq_some_iff.1 this).1]
    exact this
  have hcr := reads_none N hS1
  clear hh
  go_enter_defers Tryd.func24, Tryd.ntmps24
  go_wp2_with (go_at_call 42; refine hcr.mono ?_; rintro r w2 ⟨rfl, hF2⟩; have HM := Go.Lib.hid hF2; clear hcr hF2)
  obtain ⟨S2, g1, g2, g3, g4⟩ := HM.out
  have hc2 : w2.cell? ⟨w.heap.size, 0, none⟩ = some (.pointer none) := by
    have := g1.same w.heap.size (by rw [hz]; omega) (fun h => h)
    simp only [World.cell?] at hA ⊢
    rw [this]; exact hA
  refine leaves_cons (f := 45) (args := #[.pointer (some ⟨w.heap.size, 0, none⟩)]) (by simp) (by simp [go_sem]) ?_
  refine (rdN_idle hc2).mono ?_
  rintro r u w3 ⟨⟨v, rfl⟩, rfl, rfl⟩
  refine ⟨_, ?_, rfl, S2, ⟨?_, fun k h1 _ => ?_, ?_, ?_, ?_⟩, g2, g3, fun k hk => ?_⟩
  · simp [results, Tryd.results24, go_sem]
  · have := g1.size
    rw [hz] at this
    exact Nat.le_of_succ_le this
  · have := g1.same k (by rw [hz]; omega) (fun h => h)
    exact this.trans (hk k h1)
  · exact g1.tape
  · exact g1.os
  · exact g1.output
  · rcases g4 k hk with h | h
    · exact .inl h
    · rw [hz] at h; exact .inr (by omega)

noncomputable def field_Reader_Num_res (N : Nat) : List A → Res := resAlt [(0, .nilp), (0, .v (.int .u64))] (fun _ => some 0) (oRes (.v (.int .u64)) 2) (field_Reader_Num_box N)

theorem field_Reader_Num_ct (N : Nat) : Contract Tryd.prog noGlob 24 (field_Reader_Num_res N) := by
  refine Contract.alt (Contract.hand ⟨_, Tryd.func24, by kernel_rfl, by decide⟩ ?_) (field_Reader_Num_box_ct N)
  intro w S vals ob x y har hS hg hy
  obtain ⟨p, most, u⟩ := x
  cases p
  cases u
  cases hy
  obtain ⟨⟨v0, hv0, hA0, ho0⟩, _⟩ := har.rel 0 _ rfl
  obtain ⟨⟨v1, hv1, hA1, ho1⟩, _⟩ := har.rel 1 _ rfl
  have hvals : vals = [v0, v1] := by
    match vals, har.len with
    | [a, c], _ => cases hv0; cases hv1; rfl
  have e0 := VR.opq_inv hA0
  have e1 := VR.int_inv hA1
  subst e0
  subst e1
  subst hvals
  have hnone : ∀ i, ob i = [] := fun i => by
    match i with
    | 0 => exact ho0
    | 1 => exact ho1
    | i + 2 => exact har.out _ (by simp [mkS, deads])
  refine (num_nil N hS).mono ?_
  rintro r w' ⟨rfl, S', h1, h2, h3, h4⟩
  refine ⟨_, S', [], ob, rfl, ⟨h1.size, fun k hk _ => h1.same k hk (fun h => h), h1.tape, h1.os, h1.output⟩, h2, h3, fun k hk => ?_, ⟨⟨VR.int, rfl⟩, rfl⟩, (fun k hk => by cases hk), .nil, ?_, ?_, har.inj, har.nd, fun _ h => h⟩
  · rcases h4 k hk with h | h
    · exact .inl h
    · exact .inr (.inr h)
  · intro i y hy hbx
    match i with
    | 0 => cases hy; cases hbx
    | 1 => cases hy; cases hbx
    | i + 2 => simp [mkS, deads] at hy
  · intro i k hk
    rw [hnone i] at hk
    cases hk

theorem wrap_len (n : Nat) : Go.IntKind.wrap .u64 (n : Int) ≤ n := by
  have e : Go.IntKind.wrap .u64 (n : Int) = (n : Int) % 18446744073709551616 := rfl
  rw [e]
  omega

theorem take_fine {w : World} {S : Hp} {b : Nat} {x : RdrT.den} (h : Rdr w S b x) {n : Int} (hn : 0 ≤ n) (hle : n ≤ Go.IntKind.wrap .u64 (x.2.1.length : Int)) :
    Calls Tryd.prog 43 #[.pointer (some ⟨b, 0, none⟩), .int .u64 n] w fun r w' => r = .returned (.string ⟨⟨x.2.1.take n.toNat⟩⟩) ∧ Fine w S b (x.1, x.2.1.drop n.toNat, x.2.2.1, ()) w' := by
  obtain ⟨c1, z1⟩ := rdr_cells h
  refine (take_walk c1 z1 hn hle (Int.le_trans hle (wrap_len _))).mono ?_
  rintro r w' ⟨rfl, rfl⟩
  exact ⟨rfl, fine_set h _⟩

theorem take_bad {w : World} {S : Hp} {b : Nat} {x : RdrT.den} (h : Rdr w S b x) {n : Int} (hle : ¬ n ≤ Go.IntKind.wrap .u64 (x.2.1.length : Int)) :
    Calls Tryd.prog 43 #[.pointer (some ⟨b, 0, none⟩), .int .u64 n] w fun r w' => r = .panicked [{ v := .iface 27 (.int .i64 1), recovered := false }] ∧ Fine w S b x w' := by
  obtain ⟨c1, z1⟩ := rdr_cells h
  refine (take_stop c1 z1 hle).mono ?_
  rintro r w' ⟨rfl, rfl⟩
  exact ⟨rfl, fine_refl h⟩

noncomputable def field_Reader_Text (N : Nat) (x : RdrT.den) (most : Int) : Option (List UInt8 × (RdrT.den × Unit)) :=
 cond (x.1 && (x.2.2.1 == 0))
 ((varint_Take N x.2.1).bind fun y =>
 cond (decide (y.2.2.1 = 0))
 (cond (decide (y.1 ≤ Go.IntKind.wrap .u64 (if most < 0 then 0 else most)))
 (cond (decide (0 ≤ y.1 ∧ 0 ≤ y.2.1 ∧ y.2.1 ≤ x.2.1.length))
 (cond (decide (y.1 ≤ Go.IntKind.wrap .u64 ((x.2.1.drop y.2.1.toNat).length : Int)))
 (some ((x.2.1.drop y.2.1.toNat).take y.1.toNat, ((x.1, (x.2.1.drop y.2.1.toNat).drop y.1.toNat, x.2.2.1, ()), ())))
 (some ([], ((x.1, [], 1, ()), ()))))
 none)
 (some ([], ((x.1, [], 3, ()), ()))))
 (some ([], ((x.1, [], y.2.2.1, ()), ()))))
 (some ([], (x, ())))

theorem text_call (N : Nat) {w : World} {S : Hp} {b : Nat} {x : RdrT.den} {most : Int} {s : List UInt8} {x' : RdrT.den} (h : Rdr w S b x) (hy : field_Reader_Text N x most = some (s, (x', ()))) :
    Calls Tryd.prog 23 #[.pointer (some ⟨b, 0, none⟩), .int .i64 most] w fun r w' => r = .returned (.string ⟨⟨s⟩⟩) ∧ Fine w S b x' w' := by
  unfold field_Reader_Text at hy
  cases hr : (x.1 && (x.2.2.1 == 0)) with
  | false =>
    rw [hr] at hy
    cases hy
    exact text_off N h hr
  | true =>
    rw [hr] at hy
    cases ht : varint_Take N x.2.1 with
    | none => rw [ht] at hy; cases hy
    | some y =>
      rw [ht, Option.bind_some] at hy
      by_cases he : y.2.2.1 = 0
      · rw [decide_eq_true he] at hy
        by_cases hm : y.1 ≤ Go.IntKind.wrap .u64 (if most < 0 then 0 else most)
        · rw [decide_eq_true hm] at hy
          by_cases hu : 0 ≤ y.1 ∧ 0 ≤ y.2.1 ∧ y.2.1 ≤ x.2.1.length
          · rw [decide_eq_true hu] at hy
            by_cases hl : y.1 ≤ Go.IntKind.wrap .u64 ((x.2.1.drop y.2.1.toNat).length : Int)
            · rw [decide_eq_true hl] at hy
              cases hy
              exact text_on N h rfl hr (fun w1 S1 h1 => number_fine N h1 ht he hm hu.2.1 hu.2.2) (fun w1 S1 h1 => take_fine h1 hu.1 hl)
            · rw [decide_eq_false hl] at hy
              cases hy
              have e := failS_on (x := (x.1, x.2.1.drop y.2.1.toNat, x.2.2.1, ())) (e := 1) hr (by decide)
              have k := text_end N h rfl hr (fun w1 S1 h1 => number_fine N h1 ht he hm hu.2.1 hu.2.2) (fun w1 S1 h1 => take_bad h1 hl)
              rw [e] at k
              exact k
          · rw [decide_eq_false hu] at hy
            cases hy
        · rw [decide_eq_false hm] at hy
          cases hy
          rw [← failS_on hr (by decide : (3 : Int) ≠ 0)]
          exact text_stop N h rfl hr (fun w1 S1 h1 => number_much N h1 ht he hm)
      · rw [decide_eq_false he] at hy
        cases hy
        rw [← failS_on hr he]
        exact text_stop N h rfl hr (fun w1 S1 h1 => number_bad N h1 ht he)

noncomputable def field_Reader_Text_res (N : Nat) : List A → Res := resOf [(0, .box (.pair .bool (.pair .str (.pair (.int .i64) .unit)))), (0, .v (.int .i64))] (fun x => field_Reader_Text N x.1 x.2.1) (oResB (.v .str) [(0, .box (.pair .bool (.pair .str (.pair (.int .i64) .unit))))] 1)

theorem field_Reader_Text_ct (N : Nat) : Contract Tryd.prog noGlob 23 (field_Reader_Text_res N) := by
  refine Contract.hand ⟨_, Tryd.func23, by kernel_rfl, by decide⟩ ?_
  intro w S vals ob x y har hS hg hy
  obtain ⟨x, most, u⟩ := x
  cases u
  obtain ⟨s, x', u⟩ := y
  cases u
  obtain ⟨b, rfl, ho, ho', hR⟩ := args_two hS har
  refine (text_call N hR hy).mono ?_
  rintro r w' ⟨rfl, hF⟩
  exact ends_of_fine (rest := [.v (.int .i64) most]) (fun _ h => by rw [List.mem_singleton.1 h]; rfl) rfl ho ho' rfl hF (fun S' => ⟨VR.str, rfl⟩) rfl

noncomputable def token_getLink_body : Code := (Go.Proofs.Tryd.f25.body).getD .skip

noncomputable def token_getLink_L : List (List Nat × List Nat) := [([0], [0, 2]), ([0, 1], [0, 3, 2]), ([0, 0, 1, 1], [5, 0, 3, 2]), ([0, 0, 1, 0, 1, 1], [8, 0, 3, 2, 5]), ([1, 0, 1, 0, 1, 1], [3, 2, 0]), ([0, 1, 1, 0, 1, 0, 1, 1], [13, 0, 3, 2]), ([1, 1, 1, 0, 1, 0, 1, 1], [3, 2, 0]), ([1, 1, 1, 1, 0, 1, 0, 1, 1], [3, 2, 0]), ([0, 0, 1, 1, 1, 0, 1, 0, 1, 1], [0, 3, 2]), ([0, 1, 0, 1, 1, 1, 0, 1, 0, 1, 1], [3, 0, 2]), ([0, 1, 1, 0, 1, 1, 1, 0, 1, 0, 1, 1], [23, 0, 3, 2]), ([1, 1, 1, 0, 1, 1, 1, 0, 1, 0, 1, 1], [3, 2, 0]), ([0, 1, 1, 1, 0, 1, 1, 1, 0, 1, 0, 1, 1], [3, 2, 0]), ([0, 1, 0, 1, 0, 1, 1], [3, 2, 0]), ([1, 0, 1, 1], [3, 2, 0]), ([0, 1, 1, 1], [2, 0]), ([1, 1, 1, 1], [2, 0])]

noncomputable def token_getLink_E (N : Nat) : Env := mkEnv tys noGlob [(26, field_Reader_Byte_res N), (23, field_Reader_Text_res N), (46, field_Reader_Fail_nil_all N)] [] [] [0] false [] []

theorem token_getLink_Eok (N : Nat) : EnvOk Go.Proofs.Tryd.prog (token_getLink_E N) := mkEnv_ok mixed tys_ok (FnsOk.cons (field_Reader_Byte_ct N) (FnsOk.cons (field_Reader_Text_ct N) (FnsOk.cons (field_Reader_Fail_nil_allct N) (FnsOk.nil)))) (ItsOk.nil)

noncomputable def token_getLink (N : Nat) (f : (Bool × ((List UInt8) × (Int × Unit)))) : Option (((List UInt8) × ((List UInt8) × Unit)) × ((Bool × ((List UInt8) × (Int × Unit))) × Unit)) :=
 (field_Reader_Byte N f).bind fun y =>
 cond (y.1 == (0 : Int))
 ((field_Reader_Text N y.2.1 (2048 : Int)).bind fun y1 =>
 some ((y1.1, (([] : List UInt8), ())), (y1.2.1, ())))
 (cond (y.1 == (1 : Int))
 ((field_Reader_Text N y.2.1 (4144 : Int)).bind fun y2 =>
 (field_Reader_Text N y2.2.1 (4144 : Int)).bind fun y3 =>
 cond (y3.1 == ([] : List UInt8))
 ((field_Reader_Fail N y3.2.1 (2 : Int)).bind fun y4 =>
 some ((y2.1, (y3.1, ())), (y4.2.1, ())))
 (some ((y2.1, (y3.1, ())), (y3.2.1, ()))))
 ((field_Reader_Fail N y.2.1 (2 : Int)).bind fun y5 =>
 some ((([] : List UInt8), (([] : List UInt8), ())), (y5.2.1, ()))))

noncomputable def token_getLink_t (N : Nat) : Tab (((List UInt8) × ((List UInt8) × Unit)) × ((Bool × ((List UInt8) × (Int × Unit))) × Unit)) := []

theorem token_getLink_link (N : Nat) (x : denS [(0, .box (.pair .bool (.pair .str (.pair (.int .i64) .unit))))]) : evFX (token_getLink_E N) N (token_getLink_t N) token_getLink_L Go.Proofs.Tryd.f25 (mkS [(0, .box (.pair .bool (.pair .str (.pair (.int .i64) .unit))))] 0 x) (kResB (.v (.pair .str (.pair .str .unit))) [(0, .box (.pair .bool (.pair .str (.pair (.int .i64) .unit))))] 0) = token_getLink N x.1 := by kernel_rfl

noncomputable def token_getLink_res (N : Nat) : List A → Res := resOf [(0, .box (.pair .bool (.pair .str (.pair (.int .i64) .unit))))] (fun x => token_getLink N x.1) (oResB (.v (.pair .str (.pair .str .unit))) [(0, .box (.pair .bool (.pair .str (.pair (.int .i64) .unit))))] 0)

theorem token_getLink_ct (N : Nat) : Contract Go.Proofs.Tryd.prog noGlob 25 (token_getLink_res N) :=
  Contract.of (E := token_getLink_E N) (H := token_getLink_t N) (L := token_getLink_L) (N := N) (body := token_getLink_body) (K := (kResB (.v (.pair .str (.pair .str .unit))) [(0, .box (.pair .bool (.pair .str (.pair (.int .i64) .unit))))] 0)) (token_getLink_Eok N) Go.Proofs.Tryd.func25 (by kernel_rfl) (by decide) (fun _ hb => TabOk.nil) (fun x y h => by rw [token_getLink_link]; exact h) (kResB_ok (s := (.v (.pair .str (.pair .str .unit)))) (os := [(0, .box (.pair .bool (.pair .str (.pair (.int .i64) .unit))))]) (m := 0))

noncomputable def field_Reader_Left_body : Code := (Go.Proofs.Tryd.f48.body).getD .skip

noncomputable def field_Reader_Left_L : List (List Nat × List Nat) := [([0], [0]), ([0, 0, 1], [4, 0]), ([1, 0, 1], [0]), ([0, 0, 1, 0, 1], [2, 0]), ([1, 0, 1, 0, 1], [2, 0]), ([0, 1, 1], [2, 0]), ([1, 1, 1], [2, 0])]

noncomputable def field_Reader_Left_E (N : Nat) : Env := mkEnv tys noGlob [] [] [] [0] false [] []

theorem field_Reader_Left_Eok (N : Nat) : EnvOk Go.Proofs.Tryd.prog (field_Reader_Left_E N) := mkEnv_ok mixed tys_ok (FnsOk.nil) (ItsOk.nil)

noncomputable def field_Reader_Left (N : Nat) (r_ : (Bool × ((List UInt8) × (Int × Unit)))) : Option (Int × ((Bool × ((List UInt8) × (Int × Unit))) × Unit)) :=
 some ((((List.length r_.2.1) : Nat) : Int), (r_, ()))

noncomputable def field_Reader_Left_t (N : Nat) : Tab (Int × ((Bool × ((List UInt8) × (Int × Unit))) × Unit)) := []

theorem field_Reader_Left_link (N : Nat) (x : denS [(0, .box (.pair .bool (.pair .str (.pair (.int .i64) .unit))))]) : evFX (field_Reader_Left_E N) N (field_Reader_Left_t N) field_Reader_Left_L Go.Proofs.Tryd.f48 (mkS [(0, .box (.pair .bool (.pair .str (.pair (.int .i64) .unit))))] 0 x) (kResB (.v (.int .i64)) [(0, .box (.pair .bool (.pair .str (.pair (.int .i64) .unit))))] 0) = field_Reader_Left N x.1 := by kernel_rfl

noncomputable def field_Reader_Left_res (N : Nat) : List A → Res := resOf [(0, .box (.pair .bool (.pair .str (.pair (.int .i64) .unit))))] (fun x => field_Reader_Left N x.1) (oResB (.v (.int .i64)) [(0, .box (.pair .bool (.pair .str (.pair (.int .i64) .unit))))] 0)

theorem field_Reader_Left_ct (N : Nat) : Contract Go.Proofs.Tryd.prog noGlob 48 (field_Reader_Left_res N) :=
  Contract.of (E := field_Reader_Left_E N) (H := field_Reader_Left_t N) (L := field_Reader_Left_L) (N := N) (body := field_Reader_Left_body) (K := (kResB (.v (.int .i64)) [(0, .box (.pair .bool (.pair .str (.pair (.int .i64) .unit))))] 0)) (field_Reader_Left_Eok N) Go.Proofs.Tryd.func48 (by kernel_rfl) (by decide) (fun _ hb => TabOk.nil) (fun x y h => by rw [field_Reader_Left_link]; exact h) (kResB_ok (s := (.v (.int .i64))) (os := [(0, .box (.pair .bool (.pair .str (.pair (.int .i64) .unit))))]) (m := 0))

noncomputable def field_Reader_Left_nil_body : Code := (Go.Proofs.Tryd.f48.body).getD .skip

noncomputable def field_Reader_Left_nil_L : List (List Nat × List Nat) := [([0], [0]), ([0, 0, 1], [4, 0]), ([1, 0, 1], [0]), ([0, 0, 1, 0, 1], [2]), ([1, 0, 1, 0, 1], [2]), ([0, 1, 1], [2]), ([1, 1, 1], [2])]

noncomputable def field_Reader_Left_nil_E (N : Nat) : Env := mkEnv tys noGlob [] [] [] [] false [] []

theorem field_Reader_Left_nil_Eok (N : Nat) : EnvOk Go.Proofs.Tryd.prog (field_Reader_Left_nil_E N) := mkEnv_ok mixed tys_ok (FnsOk.nil) (ItsOk.nil)

noncomputable def field_Reader_Left_nil (N : Nat) : Option Int :=
 some (0 : Int)

noncomputable def field_Reader_Left_nil_t (N : Nat) : Tab Int := []

theorem field_Reader_Left_nil_link (N : Nat) (x : denS [(0, .nilp)]) : evFX (field_Reader_Left_nil_E N) N (field_Reader_Left_nil_t N) field_Reader_Left_nil_L Go.Proofs.Tryd.f48 (mkS [(0, .nilp)] 0 x) (kRes (.v (.int .i64)) 1) = field_Reader_Left_nil N := by kernel_rfl

noncomputable def field_Reader_Left_nil_res (N : Nat) : List A → Res := resOf [(0, .nilp)] (fun x => field_Reader_Left_nil N) (oRes (.v (.int .i64)) 1)

theorem field_Reader_Left_nil_ct (N : Nat) : Contract Go.Proofs.Tryd.prog noGlob 48 (field_Reader_Left_nil_res N) :=
  Contract.of (E := field_Reader_Left_nil_E N) (H := field_Reader_Left_nil_t N) (L := field_Reader_Left_nil_L) (N := N) (body := field_Reader_Left_nil_body) (K := (kRes (.v (.int .i64)) 1)) (field_Reader_Left_nil_Eok N) Go.Proofs.Tryd.func48 (by kernel_rfl) (by decide) (fun _ hb => TabOk.nil) (fun x y h => by rw [field_Reader_Left_nil_link]; exact h) (kRes_ok (s := (.v (.int .i64))) (m := 1))

noncomputable def field_Reader_Left_nil_all (N : Nat) : List A → Res := resAlt [(0, .nilp)] (fun x => field_Reader_Left_nil N) (oRes (.v (.int .i64)) 1) (field_Reader_Left_res N)

theorem field_Reader_Left_nil_allct (N : Nat) : Contract Go.Proofs.Tryd.prog noGlob 48 (field_Reader_Left_nil_all N) := Contract.alt (field_Reader_Left_nil_ct N) (field_Reader_Left_ct N)

noncomputable def field_Reader_Err_body : Code := (Go.Proofs.Tryd.f49.body).getD .skip

noncomputable def field_Reader_Err_L : List (List Nat × List Nat) := [([0], [0]), ([0, 0, 1], [11, 0]), ([1, 0, 1], [0]), ([0, 0, 1, 0, 1], [2, 0]), ([1, 0, 1, 0, 1], [2, 0]), ([0, 1, 1], [2, 0]), ([1, 1, 1], [2, 0])]

noncomputable def field_Reader_Err_E (N : Nat) : Env := mkEnv tys noGlob [] [] [] [0] false [] []

theorem field_Reader_Err_Eok (N : Nat) : EnvOk Go.Proofs.Tryd.prog (field_Reader_Err_E N) := mkEnv_ok mixed tys_ok (FnsOk.nil) (ItsOk.nil)

noncomputable def field_Reader_Err_p2 (N : Nat) (r_ : (Bool × ((List UInt8) × (Int × Unit)))) (k0 : Bool → Option (Int × ((Bool × ((List UInt8) × (Int × Unit))) × Unit))) : Option (Int × ((Bool × ((List UInt8) × (Int × Unit))) × Unit)) :=
 k0 (!r_.1)

noncomputable def field_Reader_Err_g2 (N : Nat) (x : denS [(0, .box (.pair .bool (.pair .str (.pair (.int .i64) .unit))))]) (K : Ex → List A → Option (Int × ((Bool × ((List UInt8) × (Int × Unit))) × Unit))) : Option (Int × ((Bool × ((List UInt8) × (Int × Unit))) × Unit)) :=
 field_Reader_Err_p2 N x.1 (fun a1 => (K .normal (mkS [(0, .box (.pair .bool (.pair .str (.pair (.int .i64) .unit)))), (10, .v .bool)] 4 (x.1, a1, ()))))

noncomputable def field_Reader_Err_h2 (N : Nat) : Hd (Int × ((Bool × ((List UInt8) × (Int × Unit))) × Unit)) := fun st K => (unS [(0, .box (.pair .bool (.pair .str (.pair (.int .i64) .unit))))] 15 (restr [0] 0 st)).bind fun x => field_Reader_Err_g2 N x K

noncomputable def field_Reader_Err_t2 (N : Nat) : Tab (Int × ((Bool × ((List UInt8) × (Int × Unit))) × Unit)) := []

theorem field_Reader_Err_ok2 {N : Nat} {c : Ctx} (hb : Base Go.Proofs.Tryd.prog (field_Reader_Err_E N) c) : CodeOk Go.Proofs.Tryd.prog c (nodeAt field_Reader_Err_body [0, 0, 1]) (field_Reader_Err_h2 N) :=
  piece_ok (s := [(0, .box (.pair .bool (.pair .str (.pair (.int .i64) .unit))))]) (m := 15) (g := field_Reader_Err_g2 N) [0] (evN_sound hb N (field_Reader_Err_t2 N) field_Reader_Err_L field_Reader_Err_body TabOk.nil [0, 0, 1] _ rfl) (fun x K => by kernel_rfl)

noncomputable def field_Reader_Err_p1 (N : Nat) (r_ : (Bool × ((List UInt8) × (Int × Unit)))) (k0 : Int → Option (Int × ((Bool × ((List UInt8) × (Int × Unit))) × Unit))) (k1 : Option (Int × ((Bool × ((List UInt8) × (Int × Unit))) × Unit))) : Option (Int × ((Bool × ((List UInt8) × (Int × Unit))) × Unit)) :=
 field_Reader_Err_p2 N r_
 (fun x11 => cond x11
 (k0 (21 : Int))
 (k1))

noncomputable def field_Reader_Err_g1 (N : Nat) (x : denS [(0, .box (.pair .bool (.pair .str (.pair (.int .i64) .unit))))]) (K : Ex → List A → Option (Int × ((Bool × ((List UInt8) × (Int × Unit))) × Unit))) : Option (Int × ((Bool × ((List UInt8) × (Int × Unit))) × Unit)) :=
 field_Reader_Err_p1 N x.1 (fun a1 => (K .ret (mkS [(0, .box (.pair .bool (.pair .str (.pair (.int .i64) .unit)))), (1, .v (.int .i64))] 13 (x.1, a1, ())))) (K .normal (mkS [(0, .box (.pair .bool (.pair .str (.pair (.int .i64) .unit))))] 15 (x.1, ())))

noncomputable def field_Reader_Err_h1 (N : Nat) : Hd (Int × ((Bool × ((List UInt8) × (Int × Unit))) × Unit)) := fun st K => (unS [(0, .box (.pair .bool (.pair .str (.pair (.int .i64) .unit))))] 15 (restr [0] 0 st)).bind fun x => field_Reader_Err_g1 N x K

noncomputable def field_Reader_Err_t1 (N : Nat) : Tab (Int × ((Bool × ((List UInt8) × (Int × Unit))) × Unit)) := [([0, 0, 1], field_Reader_Err_h2 N)]

theorem field_Reader_Err_ok1 {N : Nat} {c : Ctx} (hb : Base Go.Proofs.Tryd.prog (field_Reader_Err_E N) c) : CodeOk Go.Proofs.Tryd.prog c (nodeAt field_Reader_Err_body [0, 1]) (field_Reader_Err_h1 N) :=
  piece_ok (s := [(0, .box (.pair .bool (.pair .str (.pair (.int .i64) .unit))))]) (m := 15) (g := field_Reader_Err_g1 N) [0] (evN_sound hb N (field_Reader_Err_t1 N) field_Reader_Err_L field_Reader_Err_body (TabOk.cons (field_Reader_Err_ok2 hb) TabOk.nil) [0, 1] _ rfl) (fun x K => by kernel_rfl)

noncomputable def field_Reader_Err (N : Nat) (r_ : (Bool × ((List UInt8) × (Int × Unit)))) : Option (Int × ((Bool × ((List UInt8) × (Int × Unit))) × Unit)) :=
 field_Reader_Err_p1 N r_
 (fun x2 => some (x2, (r_, ())))
 (some (r_.2.2.1, (r_, ())))

noncomputable def field_Reader_Err_t (N : Nat) : Tab (Int × ((Bool × ((List UInt8) × (Int × Unit))) × Unit)) := [([0, 1], field_Reader_Err_h1 N)]

theorem field_Reader_Err_link (N : Nat) (x : denS [(0, .box (.pair .bool (.pair .str (.pair (.int .i64) .unit))))]) : evFX (field_Reader_Err_E N) N (field_Reader_Err_t N) field_Reader_Err_L Go.Proofs.Tryd.f49 (mkS [(0, .box (.pair .bool (.pair .str (.pair (.int .i64) .unit))))] 0 x) (kResB (.v (.int .i64)) [(0, .box (.pair .bool (.pair .str (.pair (.int .i64) .unit))))] 0) = field_Reader_Err N x.1 := by kernel_rfl

noncomputable def field_Reader_Err_res (N : Nat) : List A → Res := resOf [(0, .box (.pair .bool (.pair .str (.pair (.int .i64) .unit))))] (fun x => field_Reader_Err N x.1) (oResB (.v (.int .i64)) [(0, .box (.pair .bool (.pair .str (.pair (.int .i64) .unit))))] 0)

theorem field_Reader_Err_ct (N : Nat) : Contract Go.Proofs.Tryd.prog noGlob 49 (field_Reader_Err_res N) :=
  Contract.of (E := field_Reader_Err_E N) (H := field_Reader_Err_t N) (L := field_Reader_Err_L) (N := N) (body := field_Reader_Err_body) (K := (kResB (.v (.int .i64)) [(0, .box (.pair .bool (.pair .str (.pair (.int .i64) .unit))))] 0)) (field_Reader_Err_Eok N) Go.Proofs.Tryd.func49 (by kernel_rfl) (by decide) (fun _ hb => (TabOk.cons (field_Reader_Err_ok1 hb) TabOk.nil)) (fun x y h => by rw [field_Reader_Err_link]; exact h) (kResB_ok (s := (.v (.int .i64))) (os := [(0, .box (.pair .bool (.pair .str (.pair (.int .i64) .unit))))]) (m := 0))

noncomputable def field_Reader_Err_nil_body : Code := (Go.Proofs.Tryd.f49.body).getD .skip

noncomputable def field_Reader_Err_nil_L : List (List Nat × List Nat) := [([0], [0]), ([0, 0, 1], [11, 0]), ([1, 0, 1], [0]), ([0, 0, 1, 0, 1], [2]), ([1, 0, 1, 0, 1], [2]), ([0, 1, 1], [2]), ([1, 1, 1], [2])]

noncomputable def field_Reader_Err_nil_E (N : Nat) : Env := mkEnv tys noGlob [] [] [] [] false [] []

theorem field_Reader_Err_nil_Eok (N : Nat) : EnvOk Go.Proofs.Tryd.prog (field_Reader_Err_nil_E N) := mkEnv_ok mixed tys_ok (FnsOk.nil) (ItsOk.nil)

noncomputable def field_Reader_Err_nil_p2 (N : Nat) (k0 : Bool → Option Int) : Option Int :=
 k0 true

noncomputable def field_Reader_Err_nil_g2 (N : Nat) (x : denS [(0, .nilp)]) (K : Ex → List A → Option Int) : Option Int :=
 field_Reader_Err_nil_p2 N (fun a0 => (K .normal (mkS [(0, .nilp), (10, .v .bool)] 4 ((), a0, ()))))

noncomputable def field_Reader_Err_nil_h2 (N : Nat) : Hd Int := fun st K => (unS [(0, .nilp)] 15 (restr [0] 0 st)).bind fun x => field_Reader_Err_nil_g2 N x K

noncomputable def field_Reader_Err_nil_t2 (N : Nat) : Tab Int := []

theorem field_Reader_Err_nil_ok2 {N : Nat} {c : Ctx} (hb : Base Go.Proofs.Tryd.prog (field_Reader_Err_nil_E N) c) : CodeOk Go.Proofs.Tryd.prog c (nodeAt field_Reader_Err_nil_body [0, 0, 1]) (field_Reader_Err_nil_h2 N) :=
  piece_ok (s := [(0, .nilp)]) (m := 15) (g := field_Reader_Err_nil_g2 N) [0] (evN_sound hb N (field_Reader_Err_nil_t2 N) field_Reader_Err_nil_L field_Reader_Err_nil_body TabOk.nil [0, 0, 1] _ rfl) (fun x K => by kernel_rfl)

noncomputable def field_Reader_Err_nil_p1 (N : Nat) (k0 : Int → Option Int) (k1 : Option Int) : Option Int :=
 field_Reader_Err_nil_p2 N
 (fun x11 => cond x11
 (k0 (21 : Int))
 (k1))

noncomputable def field_Reader_Err_nil_g1 (N : Nat) (x : denS [(0, .nilp)]) (K : Ex → List A → Option Int) : Option Int :=
 field_Reader_Err_nil_p1 N (fun a0 => (K .ret (mkS [(2, .v (.int .i64))] 13 (a0, ())))) (K .normal (mkS [(0, .nilp)] 15 ((), ())))

noncomputable def field_Reader_Err_nil_h1 (N : Nat) : Hd Int := fun st K => (unS [(0, .nilp)] 15 (restr [0] 0 st)).bind fun x => field_Reader_Err_nil_g1 N x K

noncomputable def field_Reader_Err_nil_t1 (N : Nat) : Tab Int := [([0, 0, 1], field_Reader_Err_nil_h2 N)]

theorem field_Reader_Err_nil_ok1 {N : Nat} {c : Ctx} (hb : Base Go.Proofs.Tryd.prog (field_Reader_Err_nil_E N) c) : CodeOk Go.Proofs.Tryd.prog c (nodeAt field_Reader_Err_nil_body [0, 1]) (field_Reader_Err_nil_h1 N) :=
  piece_ok (s := [(0, .nilp)]) (m := 15) (g := field_Reader_Err_nil_g1 N) [0] (evN_sound hb N (field_Reader_Err_nil_t1 N) field_Reader_Err_nil_L field_Reader_Err_nil_body (TabOk.cons (field_Reader_Err_nil_ok2 hb) TabOk.nil) [0, 1] _ rfl) (fun x K => by kernel_rfl)

noncomputable def field_Reader_Err_nil (N : Nat) : Option Int :=
 field_Reader_Err_nil_p1 N
 (fun x2 => some x2)
 (none)

noncomputable def field_Reader_Err_nil_t (N : Nat) : Tab Int := [([0, 1], field_Reader_Err_nil_h1 N)]

theorem field_Reader_Err_nil_link (N : Nat) (x : denS [(0, .nilp)]) : evFX (field_Reader_Err_nil_E N) N (field_Reader_Err_nil_t N) field_Reader_Err_nil_L Go.Proofs.Tryd.f49 (mkS [(0, .nilp)] 0 x) (kRes (.v (.int .i64)) 1) = field_Reader_Err_nil N := by kernel_rfl

noncomputable def field_Reader_Err_nil_res (N : Nat) : List A → Res := resOf [(0, .nilp)] (fun x => field_Reader_Err_nil N) (oRes (.v (.int .i64)) 1)

theorem field_Reader_Err_nil_ct (N : Nat) : Contract Go.Proofs.Tryd.prog noGlob 49 (field_Reader_Err_nil_res N) :=
  Contract.of (E := field_Reader_Err_nil_E N) (H := field_Reader_Err_nil_t N) (L := field_Reader_Err_nil_L) (N := N) (body := field_Reader_Err_nil_body) (K := (kRes (.v (.int .i64)) 1)) (field_Reader_Err_nil_Eok N) Go.Proofs.Tryd.func49 (by kernel_rfl) (by decide) (fun _ hb => (TabOk.cons (field_Reader_Err_nil_ok1 hb) TabOk.nil)) (fun x y h => by rw [field_Reader_Err_nil_link]; exact h) (kRes_ok (s := (.v (.int .i64))) (m := 1))

noncomputable def field_Reader_Err_nil_all (N : Nat) : List A → Res := resAlt [(0, .nilp)] (fun x => field_Reader_Err_nil N) (oRes (.v (.int .i64)) 1) (field_Reader_Err_res N)

theorem field_Reader_Err_nil_allct (N : Nat) : Contract Go.Proofs.Tryd.prog noGlob 49 (field_Reader_Err_nil_all N) := Contract.alt (field_Reader_Err_nil_ct N) (field_Reader_Err_ct N)

noncomputable def field_Reader_End_body : Code := (Go.Proofs.Tryd.f27.body).getD .skip

noncomputable def field_Reader_End_L : List (List Nat × List Nat) := [([0], [0]), ([0, 0, 1], [5, 0]), ([1, 0, 1], [0]), ([0, 1, 0, 1], [0]), ([0, 1, 1], [2, 0]), ([1, 1, 1], [2, 0])]

noncomputable def field_Reader_End_E (N : Nat) : Env := mkEnv tys noGlob [(49, field_Reader_Err_nil_all N), (48, field_Reader_Left_nil_all N), (46, field_Reader_Fail_nil_all N)] [] [] [0] false [] []

theorem field_Reader_End_Eok (N : Nat) : EnvOk Go.Proofs.Tryd.prog (field_Reader_End_E N) := mkEnv_ok mixed tys_ok (FnsOk.cons (field_Reader_Err_nil_allct N) (FnsOk.cons (field_Reader_Left_nil_allct N) (FnsOk.cons (field_Reader_Fail_nil_allct N) (FnsOk.nil)))) (ItsOk.nil)

noncomputable def field_Reader_End_p1 (N : Nat) (r_ : (Bool × ((List UInt8) × (Int × Unit)))) (k0 : (Bool × ((List UInt8) × (Int × Unit))) → Option (Int × ((Bool × ((List UInt8) × (Int × Unit))) × Unit))) : Option (Int × ((Bool × ((List UInt8) × (Int × Unit))) × Unit)) :=
 cond (decide ((0 : Int) < (((List.length r_.2.1) : Nat) : Int)))
 ((field_Reader_Fail N r_ (2 : Int)).bind fun y =>
 k0 y.2.1)
 (k0 r_)

noncomputable def field_Reader_End_g1 (N : Nat) (x : denS [(0, .box (.pair .bool (.pair .str (.pair (.int .i64) .unit))))]) (K : Ex → List A → Option (Int × ((Bool × ((List UInt8) × (Int × Unit))) × Unit))) : Option (Int × ((Bool × ((List UInt8) × (Int × Unit))) × Unit)) :=
 field_Reader_End_p1 N x.1 (fun a0 => (K .normal (mkS [(0, .box (.pair .bool (.pair .str (.pair (.int .i64) .unit))))] 9 (a0, ()))))

noncomputable def field_Reader_End_h1 (N : Nat) : Hd (Int × ((Bool × ((List UInt8) × (Int × Unit))) × Unit)) := fun st K => (unS [(0, .box (.pair .bool (.pair .str (.pair (.int .i64) .unit))))] 9 (restr [0] 0 st)).bind fun x => field_Reader_End_g1 N x K

noncomputable def field_Reader_End_t1 (N : Nat) : Tab (Int × ((Bool × ((List UInt8) × (Int × Unit))) × Unit)) := []

theorem field_Reader_End_ok1 {N : Nat} {c : Ctx} (hb : Base Go.Proofs.Tryd.prog (field_Reader_End_E N) c) : CodeOk Go.Proofs.Tryd.prog c (nodeAt field_Reader_End_body [0, 1]) (field_Reader_End_h1 N) :=
  piece_ok (s := [(0, .box (.pair .bool (.pair .str (.pair (.int .i64) .unit))))]) (m := 9) (g := field_Reader_End_g1 N) [0] (evN_sound hb N (field_Reader_End_t1 N) field_Reader_End_L field_Reader_End_body TabOk.nil [0, 1] _ rfl) (fun x K => by kernel_rfl)

noncomputable def field_Reader_End (N : Nat) (r_ : (Bool × ((List UInt8) × (Int × Unit)))) : Option (Int × ((Bool × ((List UInt8) × (Int × Unit))) × Unit)) :=
 field_Reader_End_p1 N r_
 (fun r_1 => (field_Reader_Err N r_1).bind fun y =>
 some (y.1, (y.2.1, ())))

noncomputable def field_Reader_End_t (N : Nat) : Tab (Int × ((Bool × ((List UInt8) × (Int × Unit))) × Unit)) := [([0, 1], field_Reader_End_h1 N)]

theorem field_Reader_End_link (N : Nat) (x : denS [(0, .box (.pair .bool (.pair .str (.pair (.int .i64) .unit))))]) : evFX (field_Reader_End_E N) N (field_Reader_End_t N) field_Reader_End_L Go.Proofs.Tryd.f27 (mkS [(0, .box (.pair .bool (.pair .str (.pair (.int .i64) .unit))))] 0 x) (kResB (.v (.int .i64)) [(0, .box (.pair .bool (.pair .str (.pair (.int .i64) .unit))))] 0) = field_Reader_End N x.1 := by kernel_rfl

noncomputable def field_Reader_End_res (N : Nat) : List A → Res := resOf [(0, .box (.pair .bool (.pair .str (.pair (.int .i64) .unit))))] (fun x => field_Reader_End N x.1) (oResB (.v (.int .i64)) [(0, .box (.pair .bool (.pair .str (.pair (.int .i64) .unit))))] 0)

theorem field_Reader_End_ct (N : Nat) : Contract Go.Proofs.Tryd.prog noGlob 27 (field_Reader_End_res N) :=
  Contract.of (E := field_Reader_End_E N) (H := field_Reader_End_t N) (L := field_Reader_End_L) (N := N) (body := field_Reader_End_body) (K := (kResB (.v (.int .i64)) [(0, .box (.pair .bool (.pair .str (.pair (.int .i64) .unit))))] 0)) (field_Reader_End_Eok N) Go.Proofs.Tryd.func27 (by kernel_rfl) (by decide) (fun _ hb => (TabOk.cons (field_Reader_End_ok1 hb) TabOk.nil)) (fun x y h => by rw [field_Reader_End_link]; exact h) (kResB_ok (s := (.v (.int .i64))) (os := [(0, .box (.pair .bool (.pair .str (.pair (.int .i64) .unit))))]) (m := 0))

noncomputable def field_Reader_End_nil_body : Code := (Go.Proofs.Tryd.f27.body).getD .skip

noncomputable def field_Reader_End_nil_L : List (List Nat × List Nat) := [([0], [0]), ([0, 0, 1], [5, 0]), ([1, 0, 1], [0]), ([0, 1, 0, 1], [0]), ([0, 1, 1], [2]), ([1, 1, 1], [2])]

noncomputable def field_Reader_End_nil_E (N : Nat) : Env := mkEnv tys noGlob [(49, field_Reader_Err_nil_all N), (48, field_Reader_Left_nil_all N), (46, field_Reader_Fail_nil_all N)] [] [] [] false [] []

theorem field_Reader_End_nil_Eok (N : Nat) : EnvOk Go.Proofs.Tryd.prog (field_Reader_End_nil_E N) := mkEnv_ok mixed tys_ok (FnsOk.cons (field_Reader_Err_nil_allct N) (FnsOk.cons (field_Reader_Left_nil_allct N) (FnsOk.cons (field_Reader_Fail_nil_allct N) (FnsOk.nil)))) (ItsOk.nil)

noncomputable def field_Reader_End_nil_p1 (N : Nat) (k0 : Option Int) : Option Int :=
 k0

noncomputable def field_Reader_End_nil_g1 (N : Nat) (x : denS [(0, .nilp)]) (K : Ex → List A → Option Int) : Option Int :=
 field_Reader_End_nil_p1 N (K .normal (mkS [(0, .nilp)] 9 ((), ())))

noncomputable def field_Reader_End_nil_h1 (N : Nat) : Hd Int := fun st K => (unS [(0, .nilp)] 9 (restr [0] 0 st)).bind fun x => field_Reader_End_nil_g1 N x K

noncomputable def field_Reader_End_nil_t1 (N : Nat) : Tab Int := []

theorem field_Reader_End_nil_ok1 {N : Nat} {c : Ctx} (hb : Base Go.Proofs.Tryd.prog (field_Reader_End_nil_E N) c) : CodeOk Go.Proofs.Tryd.prog c (nodeAt field_Reader_End_nil_body [0, 1]) (field_Reader_End_nil_h1 N) :=
  piece_ok (s := [(0, .nilp)]) (m := 9) (g := field_Reader_End_nil_g1 N) [0] (evN_sound hb N (field_Reader_End_nil_t1 N) field_Reader_End_nil_L field_Reader_End_nil_body TabOk.nil [0, 1] _ rfl) (fun x K => by kernel_rfl)

noncomputable def field_Reader_End_nil (N : Nat) : Option Int :=
 field_Reader_End_nil_p1 N
 (some (21 : Int))

noncomputable def field_Reader_End_nil_t (N : Nat) : Tab Int := [([0, 1], field_Reader_End_nil_h1 N)]

theorem field_Reader_End_nil_link (N : Nat) (x : denS [(0, .nilp)]) : evFX (field_Reader_End_nil_E N) N (field_Reader_End_nil_t N) field_Reader_End_nil_L Go.Proofs.Tryd.f27 (mkS [(0, .nilp)] 0 x) (kRes (.v (.int .i64)) 1) = field_Reader_End_nil N := by kernel_rfl

noncomputable def field_Reader_End_nil_res (N : Nat) : List A → Res := resOf [(0, .nilp)] (fun x => field_Reader_End_nil N) (oRes (.v (.int .i64)) 1)

theorem field_Reader_End_nil_ct (N : Nat) : Contract Go.Proofs.Tryd.prog noGlob 27 (field_Reader_End_nil_res N) :=
  Contract.of (E := field_Reader_End_nil_E N) (H := field_Reader_End_nil_t N) (L := field_Reader_End_nil_L) (N := N) (body := field_Reader_End_nil_body) (K := (kRes (.v (.int .i64)) 1)) (field_Reader_End_nil_Eok N) Go.Proofs.Tryd.func27 (by kernel_rfl) (by decide) (fun _ hb => (TabOk.cons (field_Reader_End_nil_ok1 hb) TabOk.nil)) (fun x y h => by rw [field_Reader_End_nil_link]; exact h) (kRes_ok (s := (.v (.int .i64))) (m := 1))

noncomputable def field_Reader_End_nil_all (N : Nat) : List A → Res := resAlt [(0, .nilp)] (fun x => field_Reader_End_nil N) (oRes (.v (.int .i64)) 1) (field_Reader_End_res N)

theorem field_Reader_End_nil_allct (N : Nat) : Contract Go.Proofs.Tryd.prog noGlob 27 (field_Reader_End_nil_all N) := Contract.alt (field_Reader_End_nil_ct N) (field_Reader_End_ct N)

noncomputable def token_Get_body : Code := (Go.Proofs.Tryd.f11.body).getD .skip

noncomputable def token_Get_L : List (List Nat × List Nat) := [([0], [0, 2]), ([0, 1], [4, 2]), ([0, 1, 1], [4, 5, 2]), ([0, 0, 1, 1, 1], [16, 15, 5, 4, 2]), ([0, 1, 0, 1, 1, 1], [16, 15, 5, 4, 2]), ([0, 0, 0, 1, 0, 1, 1, 1], [17, 5, 4, 16, 15, 2]), ([0, 1, 0, 0, 1, 0, 1, 1, 1], [5, 4, 16, 15, 2]), ([1, 0, 1, 0, 0, 1, 0, 1, 1, 1], [4, 5, 2]), ([0, 0, 1, 1, 0, 0, 1, 0, 1, 1, 1], [16, 15, 5, 4, 2]), ([0, 1, 1, 0, 0, 1, 0, 1, 1, 1], [16, 15, 5, 4, 2]), ([1, 1, 1, 0, 0, 1, 0, 1, 1, 1], [16, 15, 5, 4, 2]), ([1, 0, 1, 1, 1], [4, 5, 2]), ([0, 1, 1, 1, 1], [6, 4, 5, 2]), ([0, 0, 1, 1, 1, 1, 1], [29, 28, 6, 4, 5, 2]), ([0, 1, 0, 1, 1, 1, 1, 1], [29, 28, 6, 4, 5, 2]), ([0, 0, 0, 1, 0, 1, 1, 1, 1, 1], [30, 29, 6, 4, 28, 5, 2]), ([0, 1, 0, 0, 1, 0, 1, 1, 1, 1, 1], [29, 6, 4, 28, 5, 2]), ([1, 0, 1, 0, 0, 1, 0, 1, 1, 1, 1, 1], [6, 5, 4, 2]), ([0, 0, 0, 1, 1, 0, 0, 1, 0, 1, 1, 1, 1, 1], [6, 7, 4, 29, 28, 5, 2]), ([1, 0, 0, 1, 1, 0, 0, 1, 0, 1, 1, 1, 1, 1], [29, 28, 6, 4, 5, 2]), ([0, 1, 1, 0, 0, 1, 0, 1, 1, 1, 1, 1], [29, 28, 6, 4, 5, 2]), ([1, 1, 1, 0, 0, 1, 0, 1, 1, 1, 1, 1], [29, 28, 6, 4, 5, 2]), ([1, 0, 1, 1, 1, 1, 1], [6, 5, 4, 2]), ([0, 1, 1, 1, 1, 1, 1], [4, 2, 5]), ([0, 0, 1, 1, 1, 1, 1, 1, 1], [8, 2, 5]), ([0, 1, 0, 1, 1, 1, 1, 1, 1, 1], [44, 8, 2, 5]), ([1, 1, 0, 1, 1, 1, 1, 1, 1, 1], [5, 2]), ([0, 0, 1, 1, 0, 1, 1, 1, 1, 1, 1, 1], [2, 3]), ([1, 0, 1, 1, 0, 1, 1, 1, 1, 1, 1, 1], [2, 3]), ([0, 1, 1, 1, 1, 1, 1, 1, 1], [2, 3]), ([1, 1, 1, 1, 1, 1, 1, 1, 1], [2, 3])]

noncomputable def token_Get_E (N : Nat) : Env := mkEnv tys noGlob [(27, field_Reader_End_nil_all N), (25, token_getLink_res N), (26, field_Reader_Byte_res N), (24, field_Reader_Num_res N), (23, field_Reader_Text_res N), (22, field_New_res N)] [(6, (.int .u8))] [] [] false [(13, (.pair .str (.pair (.own (.pair .str (.pair .str .unit))) (.pair .str .unit)))), (5, (.pair .str (.pair (.own (.pair .str (.pair .str .unit))) (.pair .str .unit))))] []

theorem token_Get_Eok (N : Nat) : EnvOk Go.Proofs.Tryd.prog (token_Get_E N) := mkEnv_ok mixed tys_ok (FnsOk.cons (field_Reader_End_nil_allct N) (FnsOk.cons (token_getLink_ct N) (FnsOk.cons (field_Reader_Byte_ct N) (FnsOk.cons (field_Reader_Num_ct N) (FnsOk.cons (field_Reader_Text_ct N) (FnsOk.cons (field_New_ct N) (FnsOk.nil))))))) (ItsOk.nil)

noncomputable def token_Get_s1 (N : Nat) (x2 : ((List UInt8) × ((List ((List UInt8) × ((List UInt8) × Unit))) × ((List UInt8) × Unit)))) (x15 : Int) (f : (Bool × ((List UInt8) × (Int × Unit)))) (t : ((List UInt8) × ((List ((List UInt8) × ((List UInt8) × Unit))) × ((List UInt8) × Unit)))) (x16 : Int) (rec : (Bool × ((List UInt8) × (Int × Unit))) → ((List UInt8) × ((List ((List UInt8) × ((List UInt8) × Unit))) × ((List UInt8) × Unit))) → Int → Option (((List UInt8) × ((List ((List UInt8) × ((List UInt8) × Unit))) × ((List UInt8) × Unit))) × Int × Unit)) (k0 : (Bool × ((List UInt8) × (Int × Unit))) → ((List UInt8) × ((List ((List UInt8) × ((List UInt8) × Unit))) × ((List UInt8) × Unit))) → Option (((List UInt8) × ((List ((List UInt8) × ((List UInt8) × Unit))) × ((List UInt8) × Unit))) × Int × Unit)) : Option (((List UInt8) × ((List ((List UInt8) × ((List UInt8) × Unit))) × ((List UInt8) × Unit))) × Int × Unit) :=
 cond (decide (x16 < x15))
 ((token_getLink N f).bind fun y =>
 cond (decide ((((List.length t.2.1) + 1) * 32) ≤ 70368744177664))
 (rec y.2.1 (t.1, ((t.2.1 ++ ([y.1] : List ((List UInt8) × ((List UInt8) × Unit)))), t.2.2)) (Go.IntKind.wrap Go.IntKind.u64 (x16 + (1 : Int))))
 (none))
 (k0 f t)

noncomputable def token_Get_p1 (N : Nat) (x2 : ((List UInt8) × ((List ((List UInt8) × ((List UInt8) × Unit))) × ((List UInt8) × Unit)))) (f : (Bool × ((List UInt8) × (Int × Unit)))) (t : ((List UInt8) × ((List ((List UInt8) × ((List UInt8) × Unit))) × ((List UInt8) × Unit)))) (x15 : Int) (x16 : Int) (k0 : (Bool × ((List UInt8) × (Int × Unit))) → ((List UInt8) × ((List ((List UInt8) × ((List UInt8) × Unit))) × ((List UInt8) × Unit))) → Option (((List UInt8) × ((List ((List UInt8) × ((List UInt8) × Unit))) × ((List UInt8) × Unit))) × Int × Unit)) : Option (((List UInt8) × ((List ((List UInt8) × ((List UInt8) × Unit))) × ((List UInt8) × Unit))) × Int × Unit) :=
 iter (fun (v : ((Bool × ((List UInt8) × (Int × Unit))) × ((List UInt8) × ((List ((List UInt8) × ((List UInt8) × Unit))) × ((List UInt8) × Unit))) × Int)) r => token_Get_s1 N x2 x15 v.1 v.2.1 v.2.2 (fun f t x16 => (r (f, t, x16))) k0) N (f, t, x16)

noncomputable def token_Get_g1 (N : Nat) (i : (((List UInt8) × ((List ((List UInt8) × ((List UInt8) × Unit))) × ((List UInt8) × Unit))) × Int)) (v : ((Bool × ((List UInt8) × (Int × Unit))) × ((List UInt8) × ((List ((List UInt8) × ((List UInt8) × Unit))) × ((List UInt8) × Unit))) × Int)) (r : ((Bool × ((List UInt8) × (Int × Unit))) × ((List UInt8) × ((List ((List UInt8) × ((List UInt8) × Unit))) × ((List UInt8) × Unit))) × Int) → Option (((List UInt8) × ((List ((List UInt8) × ((List UInt8) × Unit))) × ((List UInt8) × Unit))) × Int × Unit)) (K : Ex → List A → Option (((List UInt8) × ((List ((List UInt8) × ((List UInt8) × Unit))) × ((List UInt8) × Unit))) × Int × Unit)) : Option (((List UInt8) × ((List ((List UInt8) × ((List UInt8) × Unit))) × ((List UInt8) × Unit))) × Int × Unit) :=
 token_Get_s1 N i.1 i.2 v.1 v.2.1 v.2.2 (fun f t x16 => (r (f, t, x16))) (fun a1 a2 => (K (.exit 0) (mkS [(2, .box (.pair .str (.pair (.sl (.pair .str (.pair .str .unit))) (.pair .str .unit)))), (1, .box (.pair .bool (.pair .str (.pair (.int .i64) .unit)))), (0, .box (.pair .str (.pair (.own (.pair .str (.pair .str .unit))) (.pair .str .unit))))] 42 (i.1, a1, a2, ()))))

noncomputable def token_Get_h1 (N : Nat) : Hd (((List UInt8) × ((List ((List UInt8) × ((List UInt8) × Unit))) × ((List UInt8) × Unit))) × Int × Unit) := fun st K => (unS [(2, .box (.pair .str (.pair (.sl (.pair .str (.pair .str .unit))) (.pair .str .unit)))), (1, .box (.pair .bool (.pair .str (.pair (.int .i64) .unit)))), (0, .box (.pair .str (.pair (.own (.pair .str (.pair .str .unit))) (.pair .str .unit)))), (9, .v (.int .u64)), (0, .v (.int .u64))] 31 (restr [16, 15, 5, 4, 2] 0 st)).bind fun x => iter (fun v r => token_Get_g1 N ((fun x => (x.1, x.2.2.2.1)) x) v r K) N ((fun x => (x.2.1, x.2.2.1, x.2.2.2.2.1)) x)

noncomputable def token_Get_t1 (N : Nat) : Tab (((List UInt8) × ((List ((List UInt8) × ((List UInt8) × Unit))) × ((List UInt8) × Unit))) × Int × Unit) := []

theorem token_Get_ok1 {N : Nat} {c : Ctx} (hb : Base Go.Proofs.Tryd.prog (token_Get_E N) c) : CodeOk Go.Proofs.Tryd.prog c (nodeAt token_Get_body [0, 1, 0, 1, 1, 1]) (token_Get_h1 N) :=
  loop_ok (s := [(2, .box (.pair .str (.pair (.sl (.pair .str (.pair .str .unit))) (.pair .str .unit)))), (1, .box (.pair .bool (.pair .str (.pair (.int .i64) .unit)))), (0, .box (.pair .str (.pair (.own (.pair .str (.pair .str .unit))) (.pair .str .unit)))), (9, .v (.int .u64)), (0, .v (.int .u64))]) (m := 31) (token_Get_g1 N) [16, 15, 5, 4, 2] N (fun x => (x.1, x.2.2.2.1)) (fun x => (x.2.1, x.2.2.1, x.2.2.2.2.1)) (fun i v => (i.1, v.1, v.2.1, i.2, v.2.2, ())) (fun _ => rfl) (evN_sound hb N (token_Get_t1 N) token_Get_L token_Get_body TabOk.nil [0, 0, 1, 0, 1, 1, 1] _ rfl) (fun i v r K => by kernel_rfl)

noncomputable def token_Get_s2 (N : Nat) (x2 : ((List UInt8) × ((List ((List UInt8) × ((List UInt8) × Unit))) × ((List UInt8) × Unit)))) (t : ((List UInt8) × ((List ((List UInt8) × ((List UInt8) × Unit))) × ((List UInt8) × Unit)))) (x28 : Int) (f : (Bool × ((List UInt8) × (Int × Unit)))) (tag : (List Int)) (x29 : Int) (rec : (Bool × ((List UInt8) × (Int × Unit))) → (List Int) → Int → Option (((List UInt8) × ((List ((List UInt8) × ((List UInt8) × Unit))) × ((List UInt8) × Unit))) × Int × Unit)) (k0 : (Bool × ((List UInt8) × (Int × Unit))) → (List Int) → Option (((List UInt8) × ((List ((List UInt8) × ((List UInt8) × Unit))) × ((List UInt8) × Unit))) × Int × Unit)) : Option (((List UInt8) × ((List ((List UInt8) × ((List UInt8) × Unit))) × ((List UInt8) × Unit))) × Int × Unit) :=
 cond (decide (x29 < x28))
 ((field_Reader_Byte N f).bind fun y =>
 cond (Go.Lift.inR x29 (List.length tag))
 (cond (decide ((Int.toNat x29) < (List.length tag)))
 (rec y.2.1 (List.set tag (Int.toNat x29) y.1) (Go.IntKind.wrap Go.IntKind.i64 (x29 + (1 : Int))))
 (none))
 (none))
 (k0 f tag)

noncomputable def token_Get_p2 (N : Nat) (x2 : ((List UInt8) × ((List ((List UInt8) × ((List UInt8) × Unit))) × ((List UInt8) × Unit)))) (f : (Bool × ((List UInt8) × (Int × Unit)))) (t : ((List UInt8) × ((List ((List UInt8) × ((List UInt8) × Unit))) × ((List UInt8) × Unit)))) (tag : (List Int)) (x28 : Int) (x29 : Int) (k0 : (Bool × ((List UInt8) × (Int × Unit))) → (List Int) → Option (((List UInt8) × ((List ((List UInt8) × ((List UInt8) × Unit))) × ((List UInt8) × Unit))) × Int × Unit)) : Option (((List UInt8) × ((List ((List UInt8) × ((List UInt8) × Unit))) × ((List UInt8) × Unit))) × Int × Unit) :=
 iter (fun (v : ((Bool × ((List UInt8) × (Int × Unit))) × (List Int) × Int)) r => token_Get_s2 N x2 t x28 v.1 v.2.1 v.2.2 (fun f tag x29 => (r (f, tag, x29))) k0) N (f, tag, x29)

noncomputable def token_Get_g2 (N : Nat) (i : (((List UInt8) × ((List ((List UInt8) × ((List UInt8) × Unit))) × ((List UInt8) × Unit))) × ((List UInt8) × ((List ((List UInt8) × ((List UInt8) × Unit))) × ((List UInt8) × Unit))) × Int)) (v : ((Bool × ((List UInt8) × (Int × Unit))) × (List Int) × Int)) (r : ((Bool × ((List UInt8) × (Int × Unit))) × (List Int) × Int) → Option (((List UInt8) × ((List ((List UInt8) × ((List UInt8) × Unit))) × ((List UInt8) × Unit))) × Int × Unit)) (K : Ex → List A → Option (((List UInt8) × ((List ((List UInt8) × ((List UInt8) × Unit))) × ((List UInt8) × Unit))) × Int × Unit)) : Option (((List UInt8) × ((List ((List UInt8) × ((List UInt8) × Unit))) × ((List UInt8) × Unit))) × Int × Unit) :=
 token_Get_s2 N i.1 i.2.1 i.2.2 v.1 v.2.1 v.2.2 (fun f tag x29 => (r (f, tag, x29))) (fun a1 a3 => (K (.exit 2) (mkS [(2, .box (.pair .str (.pair (.sl (.pair .str (.pair .str .unit))) (.pair .str .unit)))), (1, .box (.pair .bool (.pair .str (.pair (.int .i64) .unit)))), (0, .box (.pair .str (.pair (.own (.pair .str (.pair .str .unit))) (.pair .str .unit)))), (0, .row (.int .u8))] 41 (i.1, a1, i.2.1, a3, ()))))

noncomputable def token_Get_h2 (N : Nat) : Hd (((List UInt8) × ((List ((List UInt8) × ((List UInt8) × Unit))) × ((List UInt8) × Unit))) × Int × Unit) := fun st K => (unS [(2, .box (.pair .str (.pair (.sl (.pair .str (.pair .str .unit))) (.pair .str .unit)))), (1, .box (.pair .bool (.pair .str (.pair (.int .i64) .unit)))), (0, .box (.pair .str (.pair (.own (.pair .str (.pair .str .unit))) (.pair .str .unit)))), (0, .row (.int .u8)), (21, .v (.int .i64)), (0, .v (.int .i64))] 18 (restr [29, 28, 6, 4, 5, 2] 0 st)).bind fun x => iter (fun v r => token_Get_g2 N ((fun x => (x.1, x.2.2.1, x.2.2.2.2.1)) x) v r K) N ((fun x => (x.2.1, x.2.2.2.1, x.2.2.2.2.2.1)) x)

noncomputable def token_Get_t2 (N : Nat) : Tab (((List UInt8) × ((List ((List UInt8) × ((List UInt8) × Unit))) × ((List UInt8) × Unit))) × Int × Unit) := []

theorem token_Get_ok2 {N : Nat} {c : Ctx} (hb : Base Go.Proofs.Tryd.prog (token_Get_E N) c) : CodeOk Go.Proofs.Tryd.prog c (nodeAt token_Get_body [0, 1, 0, 1, 1, 1, 1, 1]) (token_Get_h2 N) :=
  loop_ok (s := [(2, .box (.pair .str (.pair (.sl (.pair .str (.pair .str .unit))) (.pair .str .unit)))), (1, .box (.pair .bool (.pair .str (.pair (.int .i64) .unit)))), (0, .box (.pair .str (.pair (.own (.pair .str (.pair .str .unit))) (.pair .str .unit)))), (0, .row (.int .u8)), (21, .v (.int .i64)), (0, .v (.int .i64))]) (m := 18) (token_Get_g2 N) [29, 28, 6, 4, 5, 2] N (fun x => (x.1, x.2.2.1, x.2.2.2.2.1)) (fun x => (x.2.1, x.2.2.2.1, x.2.2.2.2.2.1)) (fun i v => (i.1, v.1, i.2.1, v.2.1, i.2.2, v.2.2, ())) (fun _ => rfl) (evN_sound hb N (token_Get_t2 N) token_Get_L token_Get_body TabOk.nil [0, 0, 1, 0, 1, 1, 1, 1, 1] _ rfl) (fun i v r K => by kernel_rfl)

noncomputable def token_Get (N : Nat) (s : (List UInt8)) : Option (((List UInt8) × ((List ((List UInt8) × ((List UInt8) × Unit))) × ((List UInt8) × Unit))) × Int × Unit) :=
 (field_Reader_Text N (true, (s, ((0 : Int), ()))) (4144 : Int)).bind fun y =>
 (field_Reader_Num N y.2.1 (64 : Int)).bind fun y1 =>
 token_Get_p1 N (([] : List UInt8), (([] : List ((List UInt8) × ((List UInt8) × Unit))), (([] : List UInt8), ()))) y1.2.1 (y.1, (([] : List ((List UInt8) × ((List UInt8) × Unit))), (([] : List UInt8), ()))) y1.1 (0 : Int)
 (fun f t => token_Get_p2 N (([] : List UInt8), (([] : List ((List UInt8) × ((List UInt8) × Unit))), (([] : List UInt8), ()))) f t (List.replicate 32 (0 : Int)) (((List.length (List.replicate 32 (0 : Int))) : Nat) : Int) (0 : Int)
 (fun f1 tag => (field_Reader_End N f1).bind fun y2 =>
 cond (y2.1 != (0 : Int))
 (some ((([] : List UInt8), (([] : List ((List UInt8) × ((List UInt8) × Unit))), (([] : List UInt8), ()))), (y2.1, ())))
 (some ((t.1, (t.2.1, ((Go.Lift.toStr tag), t.2.2.2))), ((0 : Int), ())))))

noncomputable def token_Get_t (N : Nat) : Tab (((List UInt8) × ((List ((List UInt8) × ((List UInt8) × Unit))) × ((List UInt8) × Unit))) × Int × Unit) := [([0, 1, 0, 1, 1, 1], token_Get_h1 N), ([0, 1, 0, 1, 1, 1, 1, 1], token_Get_h2 N)]

theorem token_Get_link (N : Nat) (x : denS [(0, .v .str)]) : evFX (token_Get_E N) N (token_Get_t N) token_Get_L Go.Proofs.Tryd.f11 (mkS [(0, .v .str)] 0 x) (kRes (.tup [(.pair .str (.pair (.sl (.pair .str (.pair .str .unit))) (.pair .str .unit))), (.int .i64)]) 1) = token_Get N x.1 := by kernel_rfl

noncomputable def token_Get_res (N : Nat) : List A → Res := resOf [(0, .v .str)] (fun x => token_Get N x.1) (oRes (.tup [(.pair .str (.pair (.sl (.pair .str (.pair .str .unit))) (.pair .str .unit))), (.int .i64)]) 1)

theorem token_Get_ct (N : Nat) : Contract Go.Proofs.Tryd.prog noGlob 11 (token_Get_res N) :=
  Contract.of (E := token_Get_E N) (H := token_Get_t N) (L := token_Get_L) (N := N) (body := token_Get_body) (K := (kRes (.tup [(.pair .str (.pair (.sl (.pair .str (.pair .str .unit))) (.pair .str .unit))), (.int .i64)]) 1)) (token_Get_Eok N) Go.Proofs.Tryd.func11 (by kernel_rfl) (by decide) (fun _ hb => (TabOk.cons (token_Get_ok1 hb) (TabOk.cons (token_Get_ok2 hb) TabOk.nil))) (fun x y h => by rw [token_Get_link]; exact h) (kRes_ok (s := (.tup [(.pair .str (.pair (.sl (.pair .str (.pair .str .unit))) (.pair .str .unit))), (.int .i64)])) (m := 1))

noncomputable def porterref30_Great_body : Code := (Go.Proofs.Tryd.f6.body).getD .skip

noncomputable def porterref30_Great_L : List (List Nat × List Nat) := [([0], [1]), ([0, 0, 1], [20, 1]), ([1, 0, 1], [1]), ([0, 0, 1, 0, 1], [2]), ([1, 0, 1, 0, 1], [2]), ([0, 1, 1], [1, 3]), ([0, 0, 1, 1, 1], [4, 1, 3]), ([0, 1, 0, 1, 1, 1], [4, 1, 3]), ([0, 0, 0, 0, 1, 0, 1, 1, 1], [25, 1, 4, 3]), ([1, 0, 0, 0, 1, 0, 1, 1, 1], [1, 4, 3]), ([1, 1, 0, 0, 0, 1, 0, 1, 1, 1], [3]), ([0, 0, 0, 0, 1, 0, 0, 1, 0, 1, 1, 1], [45, 3, 1, 4]), ([1, 0, 0, 0, 1, 0, 0, 1, 0, 1, 1, 1], [3, 1, 4]), ([0, 0, 1, 0, 0, 0, 1, 0, 0, 1, 0, 1, 1, 1], [2]), ([1, 0, 1, 0, 0, 0, 1, 0, 0, 1, 0, 1, 1, 1], [2]), ([1, 0, 0, 1, 0, 0, 1, 0, 1, 1, 1], [4, 1, 3]), ([0, 1, 0, 0, 1, 0, 1, 1, 1], [4, 1, 3]), ([1, 1, 0, 0, 1, 0, 1, 1, 1], [4, 1, 3]), ([1, 0, 1, 1, 1], [3]), ([0, 1, 1, 1, 1], [2]), ([1, 1, 1, 1, 1], [2])]

noncomputable def porterref30_Great_E (N : Nat) : Env := mkEnv tys noGlob [] [] [] [] false [] []

theorem porterref30_Great_Eok (N : Nat) : EnvOk Go.Proofs.Tryd.prog (porterref30_Great_E N) := mkEnv_ok mixed tys_ok (FnsOk.nil) (ItsOk.nil)

noncomputable def porterref30_Great_p2 (N : Nat) (t : ((List UInt8) × ((List ((List UInt8) × ((List UInt8) × Unit))) × ((List UInt8) × Unit)))) (k0 : Bool → Option Bool) : Option Bool :=
 cond (decide ((4200 : Int) < (((List.length t.1) : Nat) : Int)))
 (k0 true)
 (cond (decide ((100 : Int) < (((List.length t.2.2.1) : Nat) : Int)))
 (k0 true)
 (k0 (decide ((70 : Int) < (((List.length t.2.1) : Nat) : Int)))))

noncomputable def porterref30_Great_g2 (N : Nat) (x : denS [(1, .box (.pair .str (.pair (.sl (.pair .str (.pair .str .unit))) (.pair .str .unit))))]) (K : Ex → List A → Option Bool) : Option Bool :=
 porterref30_Great_p2 N x.1 (fun a1 => (K .normal (mkS [(1, .box (.pair .str (.pair (.sl (.pair .str (.pair .str .unit))) (.pair .str .unit)))), (18, .v .bool)] 44 (x.1, a1, ()))))

noncomputable def porterref30_Great_h2 (N : Nat) : Hd Bool := fun st K => (unS [(1, .box (.pair .str (.pair (.sl (.pair .str (.pair .str .unit))) (.pair .str .unit))))] 63 (restr [1] 0 st)).bind fun x => porterref30_Great_g2 N x K

noncomputable def porterref30_Great_t2 (N : Nat) : Tab Bool := []

theorem porterref30_Great_ok2 {N : Nat} {c : Ctx} (hb : Base Go.Proofs.Tryd.prog (porterref30_Great_E N) c) : CodeOk Go.Proofs.Tryd.prog c (nodeAt porterref30_Great_body [0, 0, 1]) (porterref30_Great_h2 N) :=
  piece_ok (s := [(1, .box (.pair .str (.pair (.sl (.pair .str (.pair .str .unit))) (.pair .str .unit))))]) (m := 63) (g := porterref30_Great_g2 N) [1] (evN_sound hb N (porterref30_Great_t2 N) porterref30_Great_L porterref30_Great_body TabOk.nil [0, 0, 1] _ rfl) (fun x K => by kernel_rfl)

noncomputable def porterref30_Great_p1 (N : Nat) (t : ((List UInt8) × ((List ((List UInt8) × ((List UInt8) × Unit))) × ((List UInt8) × Unit)))) (k0 : Bool → Option Bool) (k1 : Option Bool) : Option Bool :=
 porterref30_Great_p2 N t
 (fun x20 => cond x20
 (k0 true)
 (k1))

noncomputable def porterref30_Great_g1 (N : Nat) (x : denS [(1, .box (.pair .str (.pair (.sl (.pair .str (.pair .str .unit))) (.pair .str .unit))))]) (K : Ex → List A → Option Bool) : Option Bool :=
 porterref30_Great_p1 N x.1 (fun a0 => (K .ret (mkS [(2, .v .bool)] 62 (a0, ())))) (K .normal (mkS [(1, .box (.pair .str (.pair (.sl (.pair .str (.pair .str .unit))) (.pair .str .unit))))] 63 (x.1, ())))

noncomputable def porterref30_Great_h1 (N : Nat) : Hd Bool := fun st K => (unS [(1, .box (.pair .str (.pair (.sl (.pair .str (.pair .str .unit))) (.pair .str .unit))))] 63 (restr [1] 0 st)).bind fun x => porterref30_Great_g1 N x K

noncomputable def porterref30_Great_t1 (N : Nat) : Tab Bool := [([0, 0, 1], porterref30_Great_h2 N)]

theorem porterref30_Great_ok1 {N : Nat} {c : Ctx} (hb : Base Go.Proofs.Tryd.prog (porterref30_Great_E N) c) : CodeOk Go.Proofs.Tryd.prog c (nodeAt porterref30_Great_body [0, 1]) (porterref30_Great_h1 N) :=
  piece_ok (s := [(1, .box (.pair .str (.pair (.sl (.pair .str (.pair .str .unit))) (.pair .str .unit))))]) (m := 63) (g := porterref30_Great_g1 N) [1] (evN_sound hb N (porterref30_Great_t1 N) porterref30_Great_L porterref30_Great_body (TabOk.cons (porterref30_Great_ok2 hb) TabOk.nil) [0, 1] _ rfl) (fun x K => by kernel_rfl)

noncomputable def porterref30_Great_p6 (N : Nat) (t : ((List UInt8) × ((List ((List UInt8) × ((List UInt8) × Unit))) × ((List UInt8) × Unit)))) (all : Int) (i : Int) (k0 : Bool → Option Bool) : Option Bool :=
 cond (Go.Lift.inR i (List.length t.2.1))
 (cond (decide ((4200 : Int) < (((List.length (List.getD t.2.1 (Int.toNat i) (([] : List UInt8), (([] : List UInt8), ()))).1) : Nat) : Int)))
 (k0 true)
 (cond (Go.Lift.inR i (List.length t.2.1))
 (k0 (decide ((4200 : Int) < (((List.length (List.getD t.2.1 (Int.toNat i) (([] : List UInt8), (([] : List UInt8), ()))).2.1) : Nat) : Int))))
 (none)))
 (none)

noncomputable def porterref30_Great_g6 (N : Nat) (x : denS [(1, .box (.pair .str (.pair (.sl (.pair .str (.pair .str .unit))) (.pair .str .unit)))), (1, .v (.int .i64)), (0, .v (.int .i64))]) (K : Ex → List A → Option Bool) : Option Bool :=
 porterref30_Great_p6 N x.1 x.2.1 x.2.2.1 (fun a3 => (K .normal (mkS [(1, .box (.pair .str (.pair (.sl (.pair .str (.pair .str .unit))) (.pair .str .unit)))), (1, .v (.int .i64)), (0, .v (.int .i64)), (40, .v .bool)] 19 (x.1, x.2.1, x.2.2.1, a3, ()))))

noncomputable def porterref30_Great_h6 (N : Nat) : Hd Bool := fun st K => (unS [(1, .box (.pair .str (.pair (.sl (.pair .str (.pair .str .unit))) (.pair .str .unit)))), (1, .v (.int .i64)), (0, .v (.int .i64))] 60 (restr [1, 4, 3] 0 st)).bind fun x => porterref30_Great_g6 N x K

noncomputable def porterref30_Great_t6 (N : Nat) : Tab Bool := []

theorem porterref30_Great_ok6 {N : Nat} {c : Ctx} (hb : Base Go.Proofs.Tryd.prog (porterref30_Great_E N) c) : CodeOk Go.Proofs.Tryd.prog c (nodeAt porterref30_Great_body [0, 0, 0, 0, 1, 0, 0, 1, 0, 1, 1, 1]) (porterref30_Great_h6 N) :=
  piece_ok (s := [(1, .box (.pair .str (.pair (.sl (.pair .str (.pair .str .unit))) (.pair .str .unit)))), (1, .v (.int .i64)), (0, .v (.int .i64))]) (m := 60) (g := porterref30_Great_g6 N) [1, 4, 3] (evN_sound hb N (porterref30_Great_t6 N) porterref30_Great_L porterref30_Great_body TabOk.nil [0, 0, 0, 0, 1, 0, 0, 1, 0, 1, 1, 1] _ rfl) (fun x K => by kernel_rfl)

noncomputable def porterref30_Great_p5 (N : Nat) (t : ((List UInt8) × ((List ((List UInt8) × ((List UInt8) × Unit))) × ((List UInt8) × Unit)))) (all : Int) (i : Int) (k0 : Bool → Option Bool) (k1 : Option Bool) : Option Bool :=
 porterref30_Great_p6 N t all i
 (fun x45 => cond x45
 (k0 true)
 (k1))

noncomputable def porterref30_Great_g5 (N : Nat) (x : denS [(1, .box (.pair .str (.pair (.sl (.pair .str (.pair .str .unit))) (.pair .str .unit)))), (1, .v (.int .i64)), (0, .v (.int .i64))]) (K : Ex → List A → Option Bool) : Option Bool :=
 porterref30_Great_p5 N x.1 x.2.1 x.2.2.1 (fun a0 => (K .ret (mkS [(2, .v .bool)] 62 (a0, ())))) (K .normal (mkS [(1, .box (.pair .str (.pair (.sl (.pair .str (.pair .str .unit))) (.pair .str .unit)))), (1, .v (.int .i64)), (0, .v (.int .i64))] 60 (x.1, x.2.1, x.2.2.1, ())))

noncomputable def porterref30_Great_h5 (N : Nat) : Hd Bool := fun st K => (unS [(1, .box (.pair .str (.pair (.sl (.pair .str (.pair .str .unit))) (.pair .str .unit)))), (1, .v (.int .i64)), (0, .v (.int .i64))] 60 (restr [1, 4, 3] 0 st)).bind fun x => porterref30_Great_g5 N x K

noncomputable def porterref30_Great_t5 (N : Nat) : Tab Bool := [([0, 0, 0, 0, 1, 0, 0, 1, 0, 1, 1, 1], porterref30_Great_h6 N)]

theorem porterref30_Great_ok5 {N : Nat} {c : Ctx} (hb : Base Go.Proofs.Tryd.prog (porterref30_Great_E N) c) : CodeOk Go.Proofs.Tryd.prog c (nodeAt porterref30_Great_body [0, 0, 0, 1, 0, 0, 1, 0, 1, 1, 1]) (porterref30_Great_h5 N) :=
  piece_ok (s := [(1, .box (.pair .str (.pair (.sl (.pair .str (.pair .str .unit))) (.pair .str .unit)))), (1, .v (.int .i64)), (0, .v (.int .i64))]) (m := 60) (g := porterref30_Great_g5 N) [1, 4, 3] (evN_sound hb N (porterref30_Great_t5 N) porterref30_Great_L porterref30_Great_body (TabOk.cons (porterref30_Great_ok6 hb) TabOk.nil) [0, 0, 0, 1, 0, 0, 1, 0, 1, 1, 1] _ rfl) (fun x K => by kernel_rfl)

noncomputable def porterref30_Great_p4 (N : Nat) (t : ((List UInt8) × ((List ((List UInt8) × ((List UInt8) × Unit))) × ((List UInt8) × Unit)))) (all : Int) (i : Int) (k0 : Bool → Option Bool) (k1 : Int → Option Bool) : Option Bool :=
 porterref30_Great_p5 N t all i
 (fun x2 => k0 x2)
 (cond (Go.Lift.inR i (List.length t.2.1))
 (cond (Go.Lift.inR i (List.length t.2.1))
 (k1 (Go.IntKind.wrap Go.IntKind.i64 ((Go.IntKind.wrap Go.IntKind.i64 (all + (((List.length (List.getD t.2.1 (Int.toNat i) (([] : List UInt8), (([] : List UInt8), ()))).1) : Nat) : Int))) + (((List.length (List.getD t.2.1 (Int.toNat i) (([] : List UInt8), (([] : List UInt8), ()))).2.1) : Nat) : Int))))
 (none))
 (none))

noncomputable def porterref30_Great_g4 (N : Nat) (x : denS [(1, .box (.pair .str (.pair (.sl (.pair .str (.pair .str .unit))) (.pair .str .unit)))), (1, .v (.int .i64)), (0, .v (.int .i64))]) (K : Ex → List A → Option Bool) : Option Bool :=
 porterref30_Great_p4 N x.1 x.2.1 x.2.2.1 (fun a0 => (K .ret (mkS [(2, .v .bool)] 62 (a0, ())))) (fun a1 => (K .normal (mkS [(1, .box (.pair .str (.pair (.sl (.pair .str (.pair .str .unit))) (.pair .str .unit)))), (1, .v (.int .i64)), (0, .v (.int .i64))] 60 (x.1, a1, x.2.2.1, ()))))

noncomputable def porterref30_Great_h4 (N : Nat) : Hd Bool := fun st K => (unS [(1, .box (.pair .str (.pair (.sl (.pair .str (.pair .str .unit))) (.pair .str .unit)))), (1, .v (.int .i64)), (0, .v (.int .i64))] 60 (restr [1, 4, 3] 0 st)).bind fun x => porterref30_Great_g4 N x K

noncomputable def porterref30_Great_t4 (N : Nat) : Tab Bool := [([0, 0, 0, 1, 0, 0, 1, 0, 1, 1, 1], porterref30_Great_h5 N)]

theorem porterref30_Great_ok4 {N : Nat} {c : Ctx} (hb : Base Go.Proofs.Tryd.prog (porterref30_Great_E N) c) : CodeOk Go.Proofs.Tryd.prog c (nodeAt porterref30_Great_body [0, 1, 0, 0, 1, 0, 1, 1, 1]) (porterref30_Great_h4 N) :=
  piece_ok (s := [(1, .box (.pair .str (.pair (.sl (.pair .str (.pair .str .unit))) (.pair .str .unit)))), (1, .v (.int .i64)), (0, .v (.int .i64))]) (m := 60) (g := porterref30_Great_g4 N) [1, 4, 3] (evN_sound hb N (porterref30_Great_t4 N) porterref30_Great_L porterref30_Great_body (TabOk.cons (porterref30_Great_ok5 hb) TabOk.nil) [0, 1, 0, 0, 1, 0, 1, 1, 1] _ rfl) (fun x K => by kernel_rfl)

noncomputable def porterref30_Great_s3 (N : Nat) (t : ((List UInt8) × ((List ((List UInt8) × ((List UInt8) × Unit))) × ((List UInt8) × Unit)))) (all : Int) (i : Int) (rec : Int → Int → Option Bool) (k0 : Bool → Option Bool) (k1 : Int → Option Bool) : Option Bool :=
 cond (decide (i < (((List.length t.2.1) : Nat) : Int)))
 (porterref30_Great_p4 N t all i
 (fun x2 => k0 x2)
 (fun all1 => rec all1 (Go.IntKind.wrap Go.IntKind.i64 (i + (1 : Int)))))
 (k1 all)

noncomputable def porterref30_Great_p3 (N : Nat) (t : ((List UInt8) × ((List ((List UInt8) × ((List UInt8) × Unit))) × ((List UInt8) × Unit)))) (all : Int) (i : Int) (k0 : Bool → Option Bool) (k1 : Int → Option Bool) : Option Bool :=
 iter (fun (v : (Int × Int)) r => porterref30_Great_s3 N t v.1 v.2 (fun all i => (r (all, i))) k0 k1) N (all, i)

noncomputable def porterref30_Great_g3 (N : Nat) (i : ((List UInt8) × ((List ((List UInt8) × ((List UInt8) × Unit))) × ((List UInt8) × Unit)))) (v : (Int × Int)) (r : (Int × Int) → Option Bool) (K : Ex → List A → Option Bool) : Option Bool :=
 porterref30_Great_s3 N i v.1 v.2 (fun all i => (r (all, i))) (fun a0 => (K .ret (mkS [(2, .v .bool)] 62 (a0, ())))) (fun a0 => (K (.exit 0) (mkS [(3, .v (.int .i64))] 61 (a0, ()))))

noncomputable def porterref30_Great_h3 (N : Nat) : Hd Bool := fun st K => (unS [(1, .box (.pair .str (.pair (.sl (.pair .str (.pair .str .unit))) (.pair .str .unit)))), (1, .v (.int .i64)), (0, .v (.int .i64))] 60 (restr [4, 1, 3] 0 st)).bind fun x => iter (fun v r => porterref30_Great_g3 N ((fun x => x.1) x) v r K) N ((fun x => (x.2.1, x.2.2.1)) x)

noncomputable def porterref30_Great_t3 (N : Nat) : Tab Bool := [([0, 1, 0, 0, 1, 0, 1, 1, 1], porterref30_Great_h4 N)]

theorem porterref30_Great_ok3 {N : Nat} {c : Ctx} (hb : Base Go.Proofs.Tryd.prog (porterref30_Great_E N) c) : CodeOk Go.Proofs.Tryd.prog c (nodeAt porterref30_Great_body [0, 1, 0, 1, 1, 1]) (porterref30_Great_h3 N) :=
  loop_ok (s := [(1, .box (.pair .str (.pair (.sl (.pair .str (.pair .str .unit))) (.pair .str .unit)))), (1, .v (.int .i64)), (0, .v (.int .i64))]) (m := 60) (porterref30_Great_g3 N) [4, 1, 3] N (fun x => x.1) (fun x => (x.2.1, x.2.2.1)) (fun i v => (i, v.1, v.2, ())) (fun _ => rfl) (evN_sound hb N (porterref30_Great_t3 N) porterref30_Great_L porterref30_Great_body (TabOk.cons (porterref30_Great_ok4 hb) TabOk.nil) [0, 0, 1, 0, 1, 1, 1] _ rfl) (fun i v r K => by kernel_rfl)

noncomputable def porterref30_Great (N : Nat) (t : ((List UInt8) × ((List ((List UInt8) × ((List UInt8) × Unit))) × ((List UInt8) × Unit)))) : Option Bool :=
 porterref30_Great_p1 N t
 (fun x2 => some x2)
 (porterref30_Great_p3 N t (0 : Int) (0 : Int)
 (fun x21 => some x21)
 (fun all => some (decide ((20000 : Int) < all))))

noncomputable def porterref30_Great_t (N : Nat) : Tab Bool := [([0, 1], porterref30_Great_h1 N), ([0, 1, 0, 1, 1, 1], porterref30_Great_h3 N)]

theorem porterref30_Great_link (N : Nat) (x : denS [(0, .v (.pair .str (.pair (.sl (.pair .str (.pair .str .unit))) (.pair .str .unit))))]) : evFX (porterref30_Great_E N) N (porterref30_Great_t N) porterref30_Great_L Go.Proofs.Tryd.f6 (mkS [(0, .v (.pair .str (.pair (.sl (.pair .str (.pair .str .unit))) (.pair .str .unit))))] 0 x) (kRes (.v .bool) 1) = porterref30_Great N x.1 := by kernel_rfl

noncomputable def porterref30_Great_res (N : Nat) : List A → Res := resOf [(0, .v (.pair .str (.pair (.sl (.pair .str (.pair .str .unit))) (.pair .str .unit))))] (fun x => porterref30_Great N x.1) (oRes (.v .bool) 1)

theorem porterref30_Great_ct (N : Nat) : Contract Go.Proofs.Tryd.prog noGlob 6 (porterref30_Great_res N) :=
  Contract.of (E := porterref30_Great_E N) (H := porterref30_Great_t N) (L := porterref30_Great_L) (N := N) (body := porterref30_Great_body) (K := (kRes (.v .bool) 1)) (porterref30_Great_Eok N) Go.Proofs.Tryd.func6 (by kernel_rfl) (by decide) (fun _ hb => (TabOk.cons (porterref30_Great_ok1 hb) (TabOk.cons (porterref30_Great_ok3 hb) TabOk.nil))) (fun x y h => by rw [porterref30_Great_link]; exact h) (kRes_ok (s := (.v .bool)) (m := 1))

noncomputable def porterbase_SameToken_body : Code := (Go.Proofs.Tryd.f13.body).getD .skip

noncomputable def porterbase_SameToken_L : List (List Nat × List Nat) := [([0], [2, 3]), ([0, 0, 1], [26, 2, 3]), ([1, 0, 1], [2, 3]), ([0, 0, 1, 0, 1], [4]), ([1, 0, 1, 0, 1], [4]), ([0, 0, 1, 1], [5, 2, 3]), ([0, 1, 0, 1, 1], [5, 2, 3]), ([0, 0, 0, 0, 1, 0, 1, 1], [31, 2, 5, 3]), ([1, 0, 0, 0, 1, 0, 1, 1], [2, 5, 3]), ([1, 1, 0, 0, 0, 1, 0, 1, 1], []), ([0, 0, 0, 1, 0, 0, 1, 0, 1, 1], [44, 5, 2, 3]), ([1, 0, 0, 1, 0, 0, 1, 0, 1, 1], [5, 2, 3]), ([0, 0, 1, 0, 0, 1, 0, 0, 1, 0, 1, 1], [4]), ([1, 0, 1, 0, 0, 1, 0, 0, 1, 0, 1, 1], [4]), ([0, 1, 0, 0, 1, 0, 1, 1], [5, 2, 3]), ([1, 1, 0, 0, 1, 0, 1, 1], [5, 2, 3]), ([1, 0, 1, 1], []), ([0, 1, 1, 1], [4]), ([1, 1, 1, 1], [4])]

noncomputable def porterbase_SameToken_E (N : Nat) : Env := mkEnv tys noGlob [] [] [] [] false [] []

theorem porterbase_SameToken_Eok (N : Nat) : EnvOk Go.Proofs.Tryd.prog (porterbase_SameToken_E N) := mkEnv_ok mixed tys_ok (FnsOk.nil) (ItsOk.nil)

noncomputable def porterbase_SameToken_p2 (N : Nat) (a : ((List UInt8) × ((List ((List UInt8) × ((List UInt8) × Unit))) × ((List UInt8) × Unit)))) (b : ((List UInt8) × ((List ((List UInt8) × ((List UInt8) × Unit))) × ((List UInt8) × Unit)))) (k0 : Bool → Option Bool) : Option Bool :=
 cond (!(a.1 == b.1))
 (k0 true)
 (cond (!(a.2.2.1 == b.2.2.1))
 (k0 true)
 (k0 ((((List.length a.2.1) : Nat) : Int) != (((List.length b.2.1) : Nat) : Int))))

noncomputable def porterbase_SameToken_g2 (N : Nat) (x : denS [(2, .box (.pair .str (.pair (.sl (.pair .str (.pair .str .unit))) (.pair .str .unit)))), (0, .box (.pair .str (.pair (.sl (.pair .str (.pair .str .unit))) (.pair .str .unit))))]) (K : Ex → List A → Option Bool) : Option Bool :=
 porterbase_SameToken_p2 N x.1 x.2.1 (fun a2 => (K .normal (mkS [(2, .box (.pair .str (.pair (.sl (.pair .str (.pair .str .unit))) (.pair .str .unit)))), (0, .box (.pair .str (.pair (.sl (.pair .str (.pair .str .unit))) (.pair .str .unit)))), (22, .v .bool)] 18 (x.1, x.2.1, a2, ()))))

noncomputable def porterbase_SameToken_h2 (N : Nat) : Hd Bool := fun st K => (unS [(2, .box (.pair .str (.pair (.sl (.pair .str (.pair .str .unit))) (.pair .str .unit)))), (0, .box (.pair .str (.pair (.sl (.pair .str (.pair .str .unit))) (.pair .str .unit))))] 41 (restr [2, 3] 0 st)).bind fun x => porterbase_SameToken_g2 N x K

noncomputable def porterbase_SameToken_t2 (N : Nat) : Tab Bool := []

theorem porterbase_SameToken_ok2 {N : Nat} {c : Ctx} (hb : Base Go.Proofs.Tryd.prog (porterbase_SameToken_E N) c) : CodeOk Go.Proofs.Tryd.prog c (nodeAt porterbase_SameToken_body [0, 0, 1]) (porterbase_SameToken_h2 N) :=
  piece_ok (s := [(2, .box (.pair .str (.pair (.sl (.pair .str (.pair .str .unit))) (.pair .str .unit)))), (0, .box (.pair .str (.pair (.sl (.pair .str (.pair .str .unit))) (.pair .str .unit))))]) (m := 41) (g := porterbase_SameToken_g2 N) [2, 3] (evN_sound hb N (porterbase_SameToken_t2 N) porterbase_SameToken_L porterbase_SameToken_body TabOk.nil [0, 0, 1] _ rfl) (fun x K => by kernel_rfl)

noncomputable def porterbase_SameToken_p1 (N : Nat) (a : ((List UInt8) × ((List ((List UInt8) × ((List UInt8) × Unit))) × ((List UInt8) × Unit)))) (b : ((List UInt8) × ((List ((List UInt8) × ((List UInt8) × Unit))) × ((List UInt8) × Unit)))) (k0 : Bool → Option Bool) (k1 : Option Bool) : Option Bool :=
 porterbase_SameToken_p2 N a b
 (fun x26 => cond x26
 (k0 false)
 (k1))

noncomputable def porterbase_SameToken_g1 (N : Nat) (x : denS [(2, .box (.pair .str (.pair (.sl (.pair .str (.pair .str .unit))) (.pair .str .unit)))), (0, .box (.pair .str (.pair (.sl (.pair .str (.pair .str .unit))) (.pair .str .unit))))]) (K : Ex → List A → Option Bool) : Option Bool :=
 porterbase_SameToken_p1 N x.1 x.2.1 (fun a0 => (K .ret (mkS [(4, .v .bool)] 40 (a0, ())))) (K .normal (mkS [(2, .box (.pair .str (.pair (.sl (.pair .str (.pair .str .unit))) (.pair .str .unit)))), (0, .box (.pair .str (.pair (.sl (.pair .str (.pair .str .unit))) (.pair .str .unit))))] 41 (x.1, x.2.1, ())))

noncomputable def porterbase_SameToken_h1 (N : Nat) : Hd Bool := fun st K => (unS [(2, .box (.pair .str (.pair (.sl (.pair .str (.pair .str .unit))) (.pair .str .unit)))), (0, .box (.pair .str (.pair (.sl (.pair .str (.pair .str .unit))) (.pair .str .unit))))] 41 (restr [2, 3] 0 st)).bind fun x => porterbase_SameToken_g1 N x K

noncomputable def porterbase_SameToken_t1 (N : Nat) : Tab Bool := [([0, 0, 1], porterbase_SameToken_h2 N)]

theorem porterbase_SameToken_ok1 {N : Nat} {c : Ctx} (hb : Base Go.Proofs.Tryd.prog (porterbase_SameToken_E N) c) : CodeOk Go.Proofs.Tryd.prog c (nodeAt porterbase_SameToken_body [0, 1]) (porterbase_SameToken_h1 N) :=
  piece_ok (s := [(2, .box (.pair .str (.pair (.sl (.pair .str (.pair .str .unit))) (.pair .str .unit)))), (0, .box (.pair .str (.pair (.sl (.pair .str (.pair .str .unit))) (.pair .str .unit))))]) (m := 41) (g := porterbase_SameToken_g1 N) [2, 3] (evN_sound hb N (porterbase_SameToken_t1 N) porterbase_SameToken_L porterbase_SameToken_body (TabOk.cons (porterbase_SameToken_ok2 hb) TabOk.nil) [0, 1] _ rfl) (fun x K => by kernel_rfl)

noncomputable def porterbase_SameToken_s3 (N : Nat) (a : ((List UInt8) × ((List ((List UInt8) × ((List UInt8) × Unit))) × ((List UInt8) × Unit)))) (b : ((List UInt8) × ((List ((List UInt8) × ((List UInt8) × Unit))) × ((List UInt8) × Unit)))) (i : Int) (rec : Int → Option Bool) (k0 : Bool → Option Bool) (k1 : Option Bool) : Option Bool :=
 cond (decide (i < (((List.length a.2.1) : Nat) : Int)))
 (cond (Go.Lift.inR i (List.length a.2.1))
 (cond (Go.Lift.inR i (List.length b.2.1))
 (cond (!(Go.Lift.eqD (Go.Lift.T.pair Go.Lift.T.str (Go.Lift.T.pair Go.Lift.T.str Go.Lift.T.unit)) (List.getD a.2.1 (Int.toNat i) (([] : List UInt8), (([] : List UInt8), ()))) (List.getD b.2.1 (Int.toNat i) (([] : List UInt8), (([] : List UInt8), ())))))
 (k0 false)
 (rec (Go.IntKind.wrap Go.IntKind.i64 (i + (1 : Int)))))
 (none))
 (none))
 (k1)

noncomputable def porterbase_SameToken_p3 (N : Nat) (a : ((List UInt8) × ((List ((List UInt8) × ((List UInt8) × Unit))) × ((List UInt8) × Unit)))) (b : ((List UInt8) × ((List ((List UInt8) × ((List UInt8) × Unit))) × ((List UInt8) × Unit)))) (i : Int) (k0 : Bool → Option Bool) (k1 : Option Bool) : Option Bool :=
 iter (fun (v : Int) r => porterbase_SameToken_s3 N a b v (fun i => (r i)) k0 k1) N i

noncomputable def porterbase_SameToken_g3 (N : Nat) (i : (((List UInt8) × ((List ((List UInt8) × ((List UInt8) × Unit))) × ((List UInt8) × Unit))) × ((List UInt8) × ((List ((List UInt8) × ((List UInt8) × Unit))) × ((List UInt8) × Unit))))) (v : Int) (r : Int → Option Bool) (K : Ex → List A → Option Bool) : Option Bool :=
 porterbase_SameToken_s3 N i.1 i.2 v (fun i => (r i)) (fun a0 => (K .ret (mkS [(4, .v .bool)] 40 (a0, ())))) (K (.exit 0) (mkS [] 45 ()))

noncomputable def porterbase_SameToken_h3 (N : Nat) : Hd Bool := fun st K => (unS [(2, .box (.pair .str (.pair (.sl (.pair .str (.pair .str .unit))) (.pair .str .unit)))), (0, .box (.pair .str (.pair (.sl (.pair .str (.pair .str .unit))) (.pair .str .unit)))), (1, .v (.int .i64))] 39 (restr [5, 2, 3] 0 st)).bind fun x => iter (fun v r => porterbase_SameToken_g3 N ((fun x => (x.1, x.2.1)) x) v r K) N ((fun x => x.2.2.1) x)

noncomputable def porterbase_SameToken_t3 (N : Nat) : Tab Bool := []

theorem porterbase_SameToken_ok3 {N : Nat} {c : Ctx} (hb : Base Go.Proofs.Tryd.prog (porterbase_SameToken_E N) c) : CodeOk Go.Proofs.Tryd.prog c (nodeAt porterbase_SameToken_body [0, 1, 0, 1, 1]) (porterbase_SameToken_h3 N) :=
  loop_ok (s := [(2, .box (.pair .str (.pair (.sl (.pair .str (.pair .str .unit))) (.pair .str .unit)))), (0, .box (.pair .str (.pair (.sl (.pair .str (.pair .str .unit))) (.pair .str .unit)))), (1, .v (.int .i64))]) (m := 39) (porterbase_SameToken_g3 N) [5, 2, 3] N (fun x => (x.1, x.2.1)) (fun x => x.2.2.1) (fun i v => (i.1, i.2, v, ())) (fun _ => rfl) (evN_sound hb N (porterbase_SameToken_t3 N) porterbase_SameToken_L porterbase_SameToken_body TabOk.nil [0, 0, 1, 0, 1, 1] _ rfl) (fun i v r K => by kernel_rfl)

noncomputable def porterbase_SameToken (N : Nat) (a : ((List UInt8) × ((List ((List UInt8) × ((List UInt8) × Unit))) × ((List UInt8) × Unit)))) (b : ((List UInt8) × ((List ((List UInt8) × ((List UInt8) × Unit))) × ((List UInt8) × Unit)))) : Option Bool :=
 porterbase_SameToken_p1 N a b
 (fun x4 => some x4)
 (porterbase_SameToken_p3 N a b (0 : Int)
 (fun x41 => some x41)
 (some true))

noncomputable def porterbase_SameToken_t (N : Nat) : Tab Bool := [([0, 1], porterbase_SameToken_h1 N), ([0, 1, 0, 1, 1], porterbase_SameToken_h3 N)]

theorem porterbase_SameToken_link (N : Nat) (x : denS [(0, .v (.pair .str (.pair (.sl (.pair .str (.pair .str .unit))) (.pair .str .unit)))), (0, .v (.pair .str (.pair (.sl (.pair .str (.pair .str .unit))) (.pair .str .unit))))]) : evFX (porterbase_SameToken_E N) N (porterbase_SameToken_t N) porterbase_SameToken_L Go.Proofs.Tryd.f13 (mkS [(0, .v (.pair .str (.pair (.sl (.pair .str (.pair .str .unit))) (.pair .str .unit)))), (0, .v (.pair .str (.pair (.sl (.pair .str (.pair .str .unit))) (.pair .str .unit))))] 0 x) (kRes (.v .bool) 2) = porterbase_SameToken N x.1 x.2.1 := by kernel_rfl

noncomputable def porterbase_SameToken_res (N : Nat) : List A → Res := resOf [(0, .v (.pair .str (.pair (.sl (.pair .str (.pair .str .unit))) (.pair .str .unit)))), (0, .v (.pair .str (.pair (.sl (.pair .str (.pair .str .unit))) (.pair .str .unit))))] (fun x => porterbase_SameToken N x.1 x.2.1) (oRes (.v .bool) 2)

theorem porterbase_SameToken_ct (N : Nat) : Contract Go.Proofs.Tryd.prog noGlob 13 (porterbase_SameToken_res N) :=
  Contract.of (E := porterbase_SameToken_E N) (H := porterbase_SameToken_t N) (L := porterbase_SameToken_L) (N := N) (body := porterbase_SameToken_body) (K := (kRes (.v .bool) 2)) (porterbase_SameToken_Eok N) Go.Proofs.Tryd.func13 (by kernel_rfl) (by decide) (fun _ hb => (TabOk.cons (porterbase_SameToken_ok1 hb) (TabOk.cons (porterbase_SameToken_ok3 hb) TabOk.nil))) (fun x y h => by rw [porterbase_SameToken_link]; exact h) (kRes_ok (s := (.v .bool)) (m := 2))

noncomputable def glob : Nat → Option Dat := lk [(0, ⟨.opq, Value.iface 99 (.agg #[.pointer (some ⟨1, 40, none⟩)])⟩)]

open Go.RowKit Go.Extern.Stop Go.Stop Go.Extern

theorem as_nil (t : Value) (w : World) :
    Calls Tryd.prog 32 #[.nilIface, t] w fun e w' => e = .returned (.bool false) ∧ w' = w := by
  go_enter Tryd.func32, Tryd.ntmps32
  go_wp2
  go_ret
  exact ⟨rfl, rfl⟩

theorem as_valueOfP (t : Addr) (w : World) : (ReflectliteValue.unpack (.iface 67 (.pointer (some t)))).run Tryd.prog w
    = .ok (.agg #[.pointer (some ⟨1, 67, none⟩), .pointer (some ⟨w.heap.size, 0, none⟩), .int .u64 150]) (w.alloc (.cells #[.pointer (some t)] 67)) := by kernel_rfl

theorem as_typeP (a : Addr) (w : World) : (ReflectliteValue.methodAny (ReflectliteValue.valueError "reflectlite.Value.Type" 0) (fun t _ _ _ => ReflectliteType.toType t) #[.agg #[.pointer (some ⟨1, 67, none⟩), .pointer (some a), .int .u64 150]]).run Tryd.prog w
    = .ok (.iface 99 (.agg #[.pointer (some ⟨1, 67, none⟩)])) w := by kernel_rfl

theorem as_methodKind (h : Value) (w : World) : (Go.method 244 99 (.agg #[h]) "Kind").run Tryd.prog w = .ok (78, h) w := by kernel_rfl

theorem as_kindP (w : World) : ((ReflectliteType.abiMethod fun t => (fun a : Nat => Value.int IntKind.u8 (a : Int)) <$> Rtype.kind t) #[.pointer (some ⟨1, 67, none⟩)]).run Tryd.prog w = .ok (.int .u8 22) w := by kernel_rfl

theorem as_kindE (w : World) : ((ReflectliteType.abiMethod fun t => (fun a : Nat => Value.int IntKind.u8 (a : Int)) <$> Rtype.kind t) #[.pointer (some ⟨1, 65, none⟩)]).run Tryd.prog w = .ok (.int .u8 25) w := by kernel_rfl

theorem as_rlm (z : Sem Value) (f : TypeId → Addr → Nat → Nat → Sem Value) (v : Value) :
    ReflectliteValue.method z f #[v] = (do match ← ReflectliteValue.parts v with | none => z | some (t, a, fl) => f t a fl (fl % 32)) := rfl

theorem as_partsP (a : Addr) (w : World) : (ReflectliteValue.parts (.agg #[.pointer (some ⟨1, 67, none⟩), .pointer (some a), .int .u64 150])).run Tryd.prog w = .ok (some (67, a, 150)) w := by kernel_rfl

theorem as_isNilP (a p : Addr) (W : World) (ha : W.cell? a = some (.pointer (some p))) :
    (ReflectliteValue.method (ReflectliteValue.valueError "reflectlite.Value.IsNil" 0) ReflectliteValue.isNil #[.agg #[.pointer (some ⟨1, 67, none⟩), .pointer (some a), .int .u64 150]]).run Tryd.prog W = .ok (.bool false) W := by
  rw [as_rlm]
  simp only [Sem.run_bind, as_partsP, Result.andThen]
  simp [ReflectliteValue.isNil, loadVar, isAgg, underlying, Tryd.underlying67, ha, Result.andThen]

theorem as_methodElem (h : Value) (w : World) : (Go.method 244 99 (.agg #[h]) "Elem").run Tryd.prog w = .ok (90, .agg #[h]) w := by kernel_rfl

theorem as_methodImplements (h : Value) (w : World) : (Go.method 244 99 (.agg #[h]) "Implements").run Tryd.prog w = .ok (91, .agg #[h]) w := by kernel_rfl

theorem as_methodAssignableTo (h : Value) (w : World) : (Go.method 244 99 (.agg #[h]) "AssignableTo").run Tryd.prog w = .ok (88, .agg #[h]) w := by kernel_rfl

theorem as_elemT (w : World) : (ReflectliteType.method ReflectliteType.elem #[.agg #[.pointer (some ⟨1, 67, none⟩)]]).run Tryd.prog w = .ok (.iface 99 (.agg #[.pointer (some ⟨1, 65, none⟩)])) w := by kernel_rfl

theorem as_impl (w : World) : (ReflectliteType.relation "Implements" ReflectliteType.implements_ #[.agg #[.pointer (some ⟨1, 65, none⟩)], .iface 99 (.agg #[.pointer (some ⟨1, 40, none⟩)])]).run Tryd.prog w = .ok (.bool true) w := by kernel_rfl

theorem as_typeOf (v : Value) (w : World) : (ReflectliteType.typeOf #[.iface 65 v]).run Tryd.prog w = .ok (.iface 99 (.agg #[.pointer (some ⟨1, 65, none⟩)])) w := by kernel_rfl

theorem as_assignable (w : World) : (ReflectliteType.relation "AssignableTo" ReflectliteType.assignableTo #[.agg #[.pointer (some ⟨1, 65, none⟩)], .iface 99 (.agg #[.pointer (some ⟨1, 65, none⟩)])]).run Tryd.prog w = .ok (.bool true) w := by kernel_rfl

theorem as_valueOfE (c : Int) (w : World) : (ReflectliteValue.unpack (.iface 65 (.agg #[.int .i64 c]))).run Tryd.prog w
    = .ok (.agg #[.pointer (some ⟨1, 65, none⟩), .pointer (some ⟨w.heap.size, 0, none⟩), .int .u64 153]) (w.alloc (.cells #[.int .i64 c] 65)) := by kernel_rfl

theorem as_elemOf (w : World) : (Rtype.elem? 67).run Tryd.prog w = .ok (some 65) w := by kernel_rfl

theorem as_mk (p : Addr) (w : World) : (ReflectliteValue.mk 65 p ReflectliteValue.flagAddr).run Tryd.prog w = .ok (.agg #[.pointer (some ⟨1, 65, none⟩), .pointer (some p), .int .u64 409]) w := by kernel_rfl

theorem as_elemV (a p : Addr) (W : World) (ha : W.cell? a = some (.pointer (some p))) :
    (ReflectliteValue.method (ReflectliteValue.valueError "reflectlite.Value.Elem" 0) ReflectliteValue.elem #[.agg #[.pointer (some ⟨1, 67, none⟩), .pointer (some a), .int .u64 150]]).run Tryd.prog W
      = .ok (.agg #[.pointer (some ⟨1, 65, none⟩), .pointer (some p), .int .u64 409]) W := by
  rw [as_rlm]
  simp only [Sem.run_bind, as_partsP, Result.andThen]
  simp [ReflectliteValue.elem, loadVar, isAgg, underlying, Tryd.underlying67, ha, Result.andThen, as_elemOf, as_mk]

theorem as_rls (v x : Value) : ReflectliteValue.set #[v, x] = (do
    let (some (dst, a, fl), some (src, b, _)) := (← ReflectliteValue.parts v, ← ReflectliteValue.parts x)
      | unsupported (.noEntry "extern/(internal/reflectlite.Value).Set.zeroValue")
    if fl / ReflectliteValue.flagAddr % 2 == 0 then unsupported (.noEntry "extern/(internal/reflectlite.Value).Set.unaddressable")
    let val ← loadVar src b
    if ← Rtype.directlyAssignable dst src then storeVar dst a val
    else if ← Rtype.implements dst src then
      if (← Rtype.kind src) == 20 then
        match val with
        | .nilIface => unsupported (.noEntry "extern/reflectlite: a nil value of one interface type handed on as a value of another")
        | _ => storeVar dst a val
      else storeVar dst a (.iface src val)
    else panicString ("reflectlite.Set: value of type " ++ (← Rtype.spelt src) ++ " is not assignable to type " ++ (← Rtype.spelt dst))
    pure (.tuple #[])) := rfl

theorem as_partsA (a : Addr) (w : World) : (ReflectliteValue.parts (.agg #[.pointer (some ⟨1, 65, none⟩), .pointer (some a), .int .u64 409])).run Tryd.prog w = .ok (some (65, a, 409)) w := by kernel_rfl

theorem as_partsE (a : Addr) (w : World) : (ReflectliteValue.parts (.agg #[.pointer (some ⟨1, 65, none⟩), .pointer (some a), .int .u64 153])).run Tryd.prog w = .ok (some (65, a, 153)) w := by kernel_rfl

theorem as_direct (w : World) : (Rtype.directlyAssignable 65 65).run Tryd.prog w = .ok true w := by kernel_rfl

theorem as_set (ta b : Addr) (c : Int) (old : Value) (W : World) (hb : W.cell? b = some (.int .i64 c)) (ht : W.cell? ta = some old) (hf : W.frozen? ta = false) :
    (ReflectliteValue.set #[.agg #[.pointer (some ⟨1, 65, none⟩), .pointer (some ta), .int .u64 409], .agg #[.pointer (some ⟨1, 65, none⟩), .pointer (some b), .int .u64 153]]).run Tryd.prog W
      = .ok (.tuple #[]) (W.setCell ta (.int .i64 c)) := by
  have lc : (loadCells b 1).run Tryd.prog W = .ok #[.int .i64 c] W := by
    simp [loadCells, loadCellsFrom, hb, Result.andThen, Addr.add]
  rw [as_rls]
  simp only [Sem.run_bind, as_partsA, as_partsE, Result.andThen]
  simp [ReflectliteValue.flagAddr, loadVar, isAgg, underlying, Tryd.underlying65, lc, Result.andThen, as_direct, storeVar, Value.cells, storeCells, Addr.add]
  rw [run_store Tryd.prog W ta _ _ (by rfl)]
  simp [ht, hf]

set_option maxHeartbeats 4000000 in
theorem as_hit (c : Int) (t : Addr) (old : Value) (w : World) (hg : w.cell? ⟨0, 0, none⟩ = some (.iface 99 (.agg #[.pointer (some ⟨1, 40, none⟩)]))) (ht0 : w.cell? t = some old) (hf0 : w.frozen? t = false) :
    Calls Tryd.prog 32 #[.iface 65 (.agg #[.int .i64 c]), .iface 67 (.pointer (some t))] w fun ev w' => ev = .returned (.bool true) ∧ w' = ((((w.alloc (.cells #[.pointer (some t)] 67)).alloc (.cells #[.pointer (some ⟨1, 67, none⟩), .pointer (some ⟨w.heap.size, 0, none⟩), .int .u64 150] 87)).alloc (.cells #[.pointer (some ⟨1, 67, none⟩), .pointer (some ⟨w.heap.size, 0, none⟩), .int .u64 150] 87)).alloc (.cells #[.int .i64 c] 65)).setCell t (.int .i64 c) := by
  have h6 := @run_callFunc_extern Tryd.prog 51 _ (fun args => ReflectliteValue.unpack (args.getD 0 (.tuple #[]))) Tryd.func51 (by kernel_rfl) (by kernel_rfl) (by kernel_rfl) (by kernel_rfl)
  have h7 := @run_callFunc_extern Tryd.prog 52 _ (ReflectliteValue.methodAny (ReflectliteValue.valueError "reflectlite.Value.Type" 0) (fun t _ _ _ => ReflectliteType.toType t)) Tryd.func52 (by kernel_rfl) (by kernel_rfl) (by kernel_rfl) (by kernel_rfl)
  have h8 := @run_callFunc_extern Tryd.prog 53 _ (ReflectliteValue.method (ReflectliteValue.valueError "reflectlite.Value.IsNil" 0) ReflectliteValue.isNil) Tryd.func53 (by kernel_rfl) (by kernel_rfl) (by kernel_rfl) (by kernel_rfl)
  have h27 := @run_callFunc_extern Tryd.prog 78 _ (ReflectliteType.abiMethod fun t => do pure (.int .u8 (← Rtype.kind t))) Tryd.func78 (by kernel_rfl) (by kernel_rfl) (by kernel_rfl) (by kernel_rfl)
  have h37 := @run_callFunc_extern Tryd.prog 90 _ (ReflectliteType.method ReflectliteType.elem) Tryd.func90 (by kernel_rfl) (by kernel_rfl) (by kernel_rfl) (by kernel_rfl)
  have h38 := @run_callFunc_extern Tryd.prog 91 _ (ReflectliteType.relation "Implements" ReflectliteType.implements_) Tryd.func91 (by kernel_rfl) (by kernel_rfl) (by kernel_rfl) (by kernel_rfl)
  have h10 := @run_callFunc_extern Tryd.prog 58 _ ReflectliteType.typeOf Tryd.func58 (by kernel_rfl) (by kernel_rfl) (by kernel_rfl) (by kernel_rfl)
  have h35 := @run_callFunc_extern Tryd.prog 88 _ (ReflectliteType.relation "AssignableTo" ReflectliteType.assignableTo) Tryd.func88 (by kernel_rfl) (by kernel_rfl) (by kernel_rfl) (by kernel_rfl)
  have h11 := @run_callFunc_extern Tryd.prog 59 _ (ReflectliteValue.method (ReflectliteValue.valueError "reflectlite.Value.Elem" 0) ReflectliteValue.elem) Tryd.func59 (by kernel_rfl) (by kernel_rfl) (by kernel_rfl) (by kernel_rfl)
  have h12 := @run_callFunc_extern Tryd.prog 60 _ ReflectliteValue.set Tryd.func60 (by kernel_rfl) (by kernel_rfl) (by kernel_rfl) (by kernel_rfl)
  have tO := as_typeOf
  have mA := as_methodAssignableTo
  have a25 := as_assignable
  have v25 := as_valueOfE
  have f6 := as_valueOfP
  have f7 := as_typeP
  have mK := as_methodKind
  have mE := as_methodElem
  have mI := as_methodImplements
  have k27 := as_kindP
  have k25 := as_kindE
  have e27 := as_elemT
  have i25 := as_impl
  have n8 := as_isNilP ⟨w.heap.size, 0, none⟩ t ((w.alloc (.cells #[.pointer (some t)] 67)).alloc (.cells #[.pointer (some ⟨1, 67, none⟩), .pointer (some ⟨w.heap.size, 0, none⟩), .int .u64 150] 87)) (by simp)
  have hlt : 0 < w.heap.size := by
    rcases Nat.eq_zero_or_pos w.heap.size with h0 | h
    · simp [World.cell?, h0] at hg
    · exact h
  have hg2 : ((w.alloc (.cells #[.pointer (some t)] 67)).alloc (.cells #[.pointer (some ⟨1, 67, none⟩), .pointer (some ⟨w.heap.size, 0, none⟩), .int .u64 150] 87)).cell? ⟨0, 0, none⟩ = some (.iface 99 (.agg #[.pointer (some ⟨1, 40, none⟩)])) := by
    rw [World.cell?_alloc_lt _ _ ⟨0, 0, none⟩ (by simp), World.cell?_alloc_lt _ _ ⟨0, 0, none⟩ hlt]; exact hg
  have htl : t.block < w.heap.size := by
    rcases Nat.lt_or_ge t.block w.heap.size with h | h
    · exact h
    · simp [World.cell?, Array.getElem?_eq_none h] at ht0
  have el := as_elemV ⟨w.heap.size, 0, none⟩ t (((w.alloc (.cells #[.pointer (some t)] 67)).alloc (.cells #[.pointer (some ⟨1, 67, none⟩), .pointer (some ⟨w.heap.size, 0, none⟩), .int .u64 150] 87)).alloc (.cells #[.pointer (some ⟨1, 67, none⟩), .pointer (some ⟨w.heap.size, 0, none⟩), .int .u64 150] 87)) (by rw [World.cell?_alloc_lt _ _ ⟨w.heap.size, 0, none⟩ (by simp; omega)]; simp)
  have st := as_set t ⟨w.heap.size + 1 + 1 + 1, 0, none⟩ c old ((((w.alloc (.cells #[.pointer (some t)] 67)).alloc (.cells #[.pointer (some ⟨1, 67, none⟩), .pointer (some ⟨w.heap.size, 0, none⟩), .int .u64 150] 87)).alloc (.cells #[.pointer (some ⟨1, 67, none⟩), .pointer (some ⟨w.heap.size, 0, none⟩), .int .u64 150] 87)).alloc (.cells #[.int .i64 c] 65))
    (by rw [World.cell?_alloc_at _ _ _ _ (by simp)]; rfl)
    (by rw [World.cell?_alloc_lt _ _ t (by simp; omega), World.cell?_alloc_lt _ _ t (by simp; omega), World.cell?_alloc_lt _ _ t (by simp; omega), World.cell?_alloc_lt _ _ t htl]; exact ht0)
    (by rw [World.frozen?_alloc_old _ _ t (by simp; omega), World.frozen?_alloc_old _ _ t (by simp; omega), World.frozen?_alloc_old _ _ t (by simp; omega), World.frozen?_alloc_old _ _ t (Nat.ne_of_lt htl)]; exact hf0)
  go_enter Tryd.func32, Tryd.ntmps32
  go_wp2
  refine wp_loop_rounds 1 ?_
  rw [rounds_succ]
  go_wp2
  go_ret
  exact ⟨rfl, rfl⟩

theorem codeOf_nil (w : World) : Calls Tryd.prog 14 #[.nilIface] w fun e w' => e = .returned (.int .i64 0) ∧ w' = w.alloc (.cells #[.int .i64 0] 65) := by
  go_enter Tryd.func14, Tryd.ntmps14
  go_wp2_with (first | (go_at_call 32; refine (as_nil _ _).mono ?_; rintro e w' ⟨rfl, rfl⟩))
  go_ret
  exact ⟨rfl, rfl⟩

noncomputable def asW (w : World) (c : Int) : World := (((((w.alloc (.cells #[.int .i64 0] 65)).alloc (.cells #[.pointer (some ⟨w.heap.size, 0, none⟩)] 67)).alloc (.cells #[.pointer (some ⟨1, 67, none⟩), .pointer (some ⟨w.heap.size + 1, 0, none⟩), .int .u64 150] 87)).alloc (.cells #[.pointer (some ⟨1, 67, none⟩), .pointer (some ⟨w.heap.size + 1, 0, none⟩), .int .u64 150] 87)).alloc (.cells #[.int .i64 c] 65)).setCell ⟨w.heap.size, 0, none⟩ (.int .i64 c)

theorem as_here (c : Int) (w : World) (hg : w.cell? ⟨0, 0, none⟩ = some (.iface 99 (.agg #[.pointer (some ⟨1, 40, none⟩)]))) : Calls Tryd.prog 32 #[.iface 65 (.agg #[.int .i64 c]), .iface 67 (.pointer (some ⟨w.heap.size, 0, none⟩))] (w.alloc (.cells #[.int .i64 0] 65)) fun e w' => e = .returned (.bool true) ∧ w' = asW w c := by
  have hlt : 0 < w.heap.size := by
    rcases Nat.eq_zero_or_pos w.heap.size with h0 | h
    · simp [World.cell?, h0] at hg
    · exact h
  have h1 : (w.alloc (.cells #[.int .i64 0] 65)).cell? ⟨0, 0, none⟩ = some (.iface 99 (.agg #[.pointer (some ⟨1, 40, none⟩)])) := by
    rw [World.cell?_alloc_lt _ _ ⟨0, 0, none⟩ hlt]; exact hg
  have hs : (w.alloc (.cells #[.int .i64 0] 65)).heap.size = w.heap.size + 1 := by simp
  refine (as_hit c ⟨w.heap.size, 0, none⟩ (.int .i64 0) (w.alloc (.cells #[.int .i64 0] 65)) h1 (by simp) (by simp)).mono fun e w' ⟨h2, h3⟩ => ⟨h2, ?_⟩
  rw [h3, hs]; rfl

theorem asW_cell (w : World) (c : Int) : (asW w c).cell? ⟨w.heap.size, 0, none⟩ = some (.int .i64 c) := by
  have h : (((((w.alloc (.cells #[.int .i64 0] 65)).alloc (.cells #[.pointer (some ⟨w.heap.size, 0, none⟩)] 67)).alloc (.cells #[.pointer (some ⟨1, 67, none⟩), .pointer (some ⟨w.heap.size + 1, 0, none⟩), .int .u64 150] 87)).alloc (.cells #[.pointer (some ⟨1, 67, none⟩), .pointer (some ⟨w.heap.size + 1, 0, none⟩), .int .u64 150] 87)).alloc (.cells #[.int .i64 c] 65)).heap[w.heap.size]? = some (.cells #[.int .i64 0] 65 (0, 0)) := by
    simp only [World.alloc, Array.getElem?_push, Array.size_push]
    rw [if_neg (by omega), if_neg (by omega), if_neg (by omega), if_neg (by omega), if_pos trivial]
  unfold asW
  simp only [World.setCell, World.cell?]
  rw [Array.getElem?_modify, if_pos rfl, h]
  rfl

theorem codeOf_hit (c : Int) (w : World) (hg : w.cell? ⟨0, 0, none⟩ = some (.iface 99 (.agg #[.pointer (some ⟨1, 40, none⟩)]))) : Calls Tryd.prog 14 #[.iface 65 (.agg #[.int .i64 c])] w fun e w' => e = .returned (.int .i64 c) ∧ w' = asW w c := by
  have hc := asW_cell w c
  go_enter Tryd.func14, Tryd.ntmps14
  go_wp2_with (first | (go_at_call 32; refine (as_here c w hg).mono ?_; rintro e w' ⟨rfl, rfl⟩))
  go_ret
  exact ⟨rfl, rfl⟩

theorem asW_heap (w : World) (c : Int) : w.heap.size ≤ (asW w c).heap.size ∧ (∀ k, k < w.heap.size → (asW w c).heap[k]? = w.heap[k]?) ∧ (asW w c).tape = w.tape ∧ (asW w c).os = w.os ∧ (asW w c).output = w.output := by
  unfold asW
  refine ⟨by simp [World.setCell]; omega, fun k hk => ?_, rfl, rfl, rfl⟩
  simp only [World.setCell, World.alloc, Array.getElem?_modify, Array.getElem?_push, Array.size_push]
  rw [if_neg (by omega), if_neg (by omega), if_neg (by omega), if_neg (by omega), if_neg (by omega), if_neg (by omega)]

noncomputable def errP (v : Value) : Option Int := match v with
  | .nilIface => some 0
  | .iface t (.agg cs) => match cs.toList with
    | [.int .i64 c] => cond (Nat.beq t 65) (some c) none
    | _ => none
  | _ => none

noncomputable def eV (c : Int) : Value := .iface 65 (.agg #[.int .i64 c])

theorem errP_inv {v : Value} {c : Int} (h : errP v = some c) : (v = .nilIface ∧ c = 0) ∨ v = .iface 65 (.agg #[.int .i64 c]) := by
  unfold errP at h
  split at h
  · exact .inl ⟨rfl, (Option.some.inj h).symm⟩
  · rename_i t cs
    split at h
    · rename_i c' hc
      cases ht : Nat.beq t 65 with
      | false => rw [ht] at h; cases h
      | true =>
        rw [ht] at h
        have e1 := Nat.eq_of_beq_eq_true ht
        have e2 : c' = c := Option.some.inj h
        refine .inr ?_
        rw [e1, ← e2]
        congr 2
        apply Array.toList_inj.1
        rw [hc]
    · cases h
  · cases h

theorem calm_ends {w w' : World} {S : Hp} {args : List A} {vals : List Value} {ob : Nat → List Nat} {rA : A} {rV : Value} {outs : List A} (hS : Lift.Sub S (hp w))
    (hb : ∀ y ∈ args, isBoxA y = false) (hob : ∀ i, ob i = []) (hw : w.heap.size ≤ w'.heap.size ∧ (∀ k, k < w.heap.size → w'.heap[k]? = w.heap[k]?) ∧ w'.tape = w.tape ∧ w'.os = w.os ∧ w'.output = w.output) (hr : ∀ S', ARel (hp w') S' (fun _ => undef) rA rV []) (hrr : rA.refs = []) : Lift.Ends w S args vals ob rA outs (.returned rV) w' := by
  obtain ⟨h1, h2, h3, h4, h5⟩ := hw
  refine ⟨rV, S, [], ob, rfl, ⟨h1, fun k hk _ => h2 k hk, h3, h4, h5⟩, Lift.Sub.refl S, fun k q hq => ?_, fun k hk => .inl hk, ⟨hr S, hrr⟩, (fun k hk => by cases hk), .nil, ?_, ?_, ?_, ?_, fun _ h => h⟩
  · have := hS k q hq
    simp only [hp] at this ⊢
    rw [h2 k (Array.getElem?_eq_some_iff.1 this).1]; exact this
  · intro i y hy hbx
    have := hb y (List.mem_of_getElem? hy)
    rw [hbx] at this; cases this
  · intro i k hk
    rw [hob i] at hk; cases hk
  · intro i j k hi
    rw [hob i] at hi; cases hi
  · intro i
    rw [hob i]; exact .nil

theorem errorType_cell {w : World} {S : Hp} (hS : Lift.Sub S (hp w)) (hg : GlobOk glob S) : w.cell? ⟨0, 0, none⟩ = some (.iface 99 (.agg #[.pointer (some ⟨1, 40, none⟩)])) := by
  have h := hg 0 ⟨.opq, .iface 99 (.agg #[.pointer (some ⟨1, 40, none⟩)])⟩ rfl
  obtain ⟨b, off, c1, e, ⟨all, E, fr, c0, c2, h1, h2, h3⟩, h4, _⟩ := VR.ptr_inv h
  have e0 : (some (⟨0, 0, none⟩ : Addr)) = some ⟨b, off, none⟩ := Value.pointer.inj e
  have e1 := Option.some.inj e0
  have eb : b = 0 := (congrArg Addr.block e1).symm
  have eo : off = 0 := (congrArg Addr.off e1).symm
  subst eb eo
  have hw : w.heap[0]? = some (.cells all E fr) := hS 0 _ h1
  simp only [World.cell?, hw]
  have hc0 : c0 = [] := List.length_eq_zero_iff.1 h3
  have : all.toList[0]? = some (.iface 99 (.agg #[.pointer (some ⟨1, 40, none⟩)])) := by
    rw [h2, hc0, h4]; rfl
  simpa using this

noncomputable def token_codeOf (N : Nat) (v : Value) : Option Int := errP v

noncomputable def token_codeOf_res (N : Nat) : List A → Res := resOf [(0, .v .opq)] (fun x => token_codeOf N x.1) (oRes (.v (.int .i64)) 1)

theorem token_codeOf_ct (N : Nat) : Contract Tryd.prog glob 14 (token_codeOf_res N) := by
  refine Contract.hand ⟨_, Tryd.func14, by kernel_rfl, by decide⟩ ?_
  rintro w S vals ob ⟨v, ⟨⟩⟩ y har hS hg hy
  have hy' : errP v = some y := hy
  obtain ⟨⟨u1, e1, r1⟩, _⟩ := har.rel 0 _ rfl
  have hob : ∀ i, ob i = [] := by
    intro i
    match i with
    | 0 => exact r1.2
    | i + 1 => exact har.out _ (by simp [mkS, deads])
  have hv : vals = [u1] := by
    match vals, har.len, e1 with
    | [a], _, h1 => simp at h1; rw [h1]
  subst hv
  have hu := VR.opq_inv r1.1
  subst hu
  have hbx : ∀ y ∈ (mkS [(0, .v .opq)] 0 ((u1, ()) : denS [(0, .v .opq)])), isBoxA y = false := by
    intro y hy
    have hy : y ∈ [A.v .opq u1] := hy
    rw [List.mem_singleton.1 hy]; rfl
  rcases errP_inv hy' with ⟨rfl, rfl⟩ | rfl
  · refine (codeOf_nil w).mono fun e w' ⟨h1, h2⟩ => ?_
    subst h1 h2
    exact calm_ends hS hbx hob ⟨by simp, fun k hk => by simp only [World.alloc, Array.getElem?_push]; rw [if_neg (by omega)], rfl, rfl, rfl⟩ (fun S' => ⟨VR.int, rfl⟩) rfl
  · refine (codeOf_hit y w (errorType_cell hS hg)).mono fun e w' ⟨h1, h2⟩ => ?_
    subst h1 h2
    exact calm_ends hS hbx hob (asW_heap w y) (fun S' => ⟨VR.int, rfl⟩) rfl

noncomputable def token_Put_body : Code := (Go.Proofs.Tryd.f8.body).getD .skip

noncomputable def token_Put_L : List (List Nat × List Nat) := [([0], [1]), ([0, 0, 1], [4, 1]), ([0, 1, 0, 1], [9, 4, 1]), ([1, 1, 0, 1], [1]), ([0, 0, 1, 1, 0, 1], [2, 3]), ([1, 0, 1, 1, 0, 1], [2, 3]), ([0, 1, 1], [2, 3]), ([1, 1, 1], [2, 3])]

noncomputable def token_Put_E (N : Nat) : Env := mkEnv tys glob [(14, token_codeOf_res N), (16, token_body_res N), (15, token_check_res N)] [] [] [] false [] []

theorem token_Put_Eok (N : Nat) : EnvOk Go.Proofs.Tryd.prog (token_Put_E N) := mkEnv_ok mixed tys_ok (FnsOk.cons (token_codeOf_ct N) (FnsOk.cons ((Contract.up (token_body_ct N) glob)) (FnsOk.cons ((Contract.up (token_check_ct N) glob)) (FnsOk.nil)))) (ItsOk.nil)

noncomputable def token_Put (N : Nat) (t : ((List UInt8) × ((List ((List UInt8) × ((List UInt8) × Unit))) × ((List UInt8) × Unit)))) : Option ((List UInt8) × Int × Unit) :=
 (token_check N t).bind fun y =>
 (token_codeOf N y).bind fun y1 =>
 cond (y1 != (0 : Int))
 (some (([] : List UInt8), (y1, ())))
 ((token_body N t).bind fun y2 =>
 cond (decide (((List.length y2) + (List.length t.2.2.1)) ≤ 9223372036854775807))
 (some ((y2 ++ t.2.2.1), ((0 : Int), ())))
 (none))

noncomputable def token_Put_t (N : Nat) : Tab ((List UInt8) × Int × Unit) := []

theorem token_Put_link (N : Nat) (x : denS [(0, .v (.pair .str (.pair (.sl (.pair .str (.pair .str .unit))) (.pair .str .unit))))]) : evFX (token_Put_E N) N (token_Put_t N) token_Put_L Go.Proofs.Tryd.f8 (mkS [(0, .v (.pair .str (.pair (.sl (.pair .str (.pair .str .unit))) (.pair .str .unit))))] 0 x) (kRes (.tup [.str, (.int .i64)]) 1) = token_Put N x.1 := by kernel_rfl

noncomputable def token_Put_res (N : Nat) : List A → Res := resOf [(0, .v (.pair .str (.pair (.sl (.pair .str (.pair .str .unit))) (.pair .str .unit))))] (fun x => token_Put N x.1) (oRes (.tup [.str, (.int .i64)]) 1)

theorem token_Put_ct (N : Nat) : Contract Go.Proofs.Tryd.prog glob 8 (token_Put_res N) :=
  Contract.of (E := token_Put_E N) (H := token_Put_t N) (L := token_Put_L) (N := N) (body := token_Put_body) (K := (kRes (.tup [.str, (.int .i64)]) 1)) (token_Put_Eok N) Go.Proofs.Tryd.func8 (by kernel_rfl) (by decide) (fun _ hb => TabOk.nil) (fun x y h => by rw [token_Put_link]; exact h) (kRes_ok (s := (.tup [.str, (.int .i64)])) (m := 1))

noncomputable def token_Size_body : Code := (Go.Proofs.Tryd.f10.body).getD .skip

noncomputable def token_Size_L : List (List Nat × List Nat) := [([0], [1]), ([0, 0, 1], [6, 1]), ([1, 0, 1], [1]), ([0, 0, 1, 0, 1], [2]), ([1, 0, 1, 0, 1], [2]), ([0, 1, 1], [2]), ([1, 1, 1], [2])]

noncomputable def token_Size_E (N : Nat) : Env := mkEnv tys glob [(14, token_codeOf_res N), (16, token_body_res N), (21, token_checkBody_res N)] [] [] [] false [] []

theorem token_Size_Eok (N : Nat) : EnvOk Go.Proofs.Tryd.prog (token_Size_E N) := mkEnv_ok mixed tys_ok (FnsOk.cons (token_codeOf_ct N) (FnsOk.cons ((Contract.up (token_body_ct N) glob)) (FnsOk.cons ((Contract.up (token_checkBody_ct N) glob)) (FnsOk.nil)))) (ItsOk.nil)

noncomputable def token_Size (N : Nat) (t : ((List UInt8) × ((List ((List UInt8) × ((List UInt8) × Unit))) × ((List UInt8) × Unit)))) : Option Int :=
 (token_checkBody N t).bind fun y =>
 (token_codeOf N y).bind fun y1 =>
 cond (y1 != (0 : Int))
 (some (0 : Int))
 ((token_body N t).bind fun y2 =>
 some (Go.IntKind.wrap Go.IntKind.i64 ((((List.length y2) : Nat) : Int) + (32 : Int))))

noncomputable def token_Size_t (N : Nat) : Tab Int := []

theorem token_Size_link (N : Nat) (x : denS [(0, .v (.pair .str (.pair (.sl (.pair .str (.pair .str .unit))) (.pair .str .unit))))]) : evFX (token_Size_E N) N (token_Size_t N) token_Size_L Go.Proofs.Tryd.f10 (mkS [(0, .v (.pair .str (.pair (.sl (.pair .str (.pair .str .unit))) (.pair .str .unit))))] 0 x) (kRes (.v (.int .i64)) 1) = token_Size N x.1 := by kernel_rfl

noncomputable def token_Size_res (N : Nat) : List A → Res := resOf [(0, .v (.pair .str (.pair (.sl (.pair .str (.pair .str .unit))) (.pair .str .unit))))] (fun x => token_Size N x.1) (oRes (.v (.int .i64)) 1)

theorem token_Size_ct (N : Nat) : Contract Go.Proofs.Tryd.prog glob 10 (token_Size_res N) :=
  Contract.of (E := token_Size_E N) (H := token_Size_t N) (L := token_Size_L) (N := N) (body := token_Size_body) (K := (kRes (.v (.int .i64)) 1)) (token_Size_Eok N) Go.Proofs.Tryd.func10 (by kernel_rfl) (by decide) (fun _ hb => TabOk.nil) (fun x y h => by rw [token_Size_link]; exact h) (kRes_ok (s := (.v (.int .i64))) (m := 1))

noncomputable def porterlaw30_works_body : Code := (Go.Proofs.Tryd.f7.body).getD .skip

noncomputable def porterlaw30_works_L : List (List Nat × List Nat) := [([0], []), ([0, 1], [1]), ([0, 1, 1], [2, 3, 1]), ([0, 1, 1, 1], [2, 3, 4, 1, 5]), ([0, 1, 1, 1, 1], [0]), ([1, 1, 1, 1, 1], [0])]

noncomputable def porterlaw30_works_E (N : Nat) : Env := mkEnv tys glob [(10, token_Size_res N), (8, token_Put_res N), (13, porterbase_SameToken_res N), (11, token_Get_res N)] [] [] [] false [] []

theorem porterlaw30_works_Eok (N : Nat) : EnvOk Go.Proofs.Tryd.prog (porterlaw30_works_E N) := mkEnv_ok mixed tys_ok (FnsOk.cons (token_Size_ct N) (FnsOk.cons (token_Put_ct N) (FnsOk.cons ((Contract.up (porterbase_SameToken_ct N) glob)) (FnsOk.cons ((Contract.up (token_Get_ct N) glob)) (FnsOk.nil))))) (ItsOk.nil)

noncomputable def porterlaw30_works (N : Nat) : Option Bool :=
 (token_Put N (([(97 : UInt8)] : List UInt8), (([] : List ((List UInt8) × ((List UInt8) × Unit))), (([(48 : UInt8), (49 : UInt8), (50 : UInt8), (51 : UInt8), (52 : UInt8), (53 : UInt8), (54 : UInt8), (55 : UInt8), (56 : UInt8), (57 : UInt8), (97 : UInt8), (98 : UInt8), (99 : UInt8), (100 : UInt8), (101 : UInt8), (102 : UInt8), (48 : UInt8), (49 : UInt8), (50 : UInt8), (51 : UInt8), (52 : UInt8), (53 : UInt8), (54 : UInt8), (55 : UInt8), (56 : UInt8), (57 : UInt8), (97 : UInt8), (98 : UInt8), (99 : UInt8), (100 : UInt8), (101 : UInt8), (102 : UInt8)] : List UInt8), ())))).bind fun y =>
 (token_Get N y.1).bind fun y1 =>
 cond (y.1 == ([(1 : UInt8), (97 : UInt8), (0 : UInt8), (48 : UInt8), (49 : UInt8), (50 : UInt8), (51 : UInt8), (52 : UInt8), (53 : UInt8), (54 : UInt8), (55 : UInt8), (56 : UInt8), (57 : UInt8), (97 : UInt8), (98 : UInt8), (99 : UInt8), (100 : UInt8), (101 : UInt8), (102 : UInt8), (48 : UInt8), (49 : UInt8), (50 : UInt8), (51 : UInt8), (52 : UInt8), (53 : UInt8), (54 : UInt8), (55 : UInt8), (56 : UInt8), (57 : UInt8), (97 : UInt8), (98 : UInt8), (99 : UInt8), (100 : UInt8), (101 : UInt8), (102 : UInt8)] : List UInt8))
 (cond (y.2.1 == (0 : Int))
 ((porterbase_SameToken N y1.1 (([(97 : UInt8)] : List UInt8), (([] : List ((List UInt8) × ((List UInt8) × Unit))), (([(48 : UInt8), (49 : UInt8), (50 : UInt8), (51 : UInt8), (52 : UInt8), (53 : UInt8), (54 : UInt8), (55 : UInt8), (56 : UInt8), (57 : UInt8), (97 : UInt8), (98 : UInt8), (99 : UInt8), (100 : UInt8), (101 : UInt8), (102 : UInt8), (48 : UInt8), (49 : UInt8), (50 : UInt8), (51 : UInt8), (52 : UInt8), (53 : UInt8), (54 : UInt8), (55 : UInt8), (56 : UInt8), (57 : UInt8), (97 : UInt8), (98 : UInt8), (99 : UInt8), (100 : UInt8), (101 : UInt8), (102 : UInt8)] : List UInt8), ())))).bind fun y2 =>
 cond y2
 (cond (y1.2.1 == (0 : Int))
 ((token_Size N (([(97 : UInt8)] : List UInt8), (([] : List ((List UInt8) × ((List UInt8) × Unit))), (([(48 : UInt8), (49 : UInt8), (50 : UInt8), (51 : UInt8), (52 : UInt8), (53 : UInt8), (54 : UInt8), (55 : UInt8), (56 : UInt8), (57 : UInt8), (97 : UInt8), (98 : UInt8), (99 : UInt8), (100 : UInt8), (101 : UInt8), (102 : UInt8), (48 : UInt8), (49 : UInt8), (50 : UInt8), (51 : UInt8), (52 : UInt8), (53 : UInt8), (54 : UInt8), (55 : UInt8), (56 : UInt8), (57 : UInt8), (97 : UInt8), (98 : UInt8), (99 : UInt8), (100 : UInt8), (101 : UInt8), (102 : UInt8)] : List UInt8), ())))).bind fun y3 =>
 some (y3 == (35 : Int)))
 (some false))
 (some false))
 (some false))
 (some false)

noncomputable def porterlaw30_works_t (N : Nat) : Tab Bool := []

theorem porterlaw30_works_link (N : Nat) (x : denS []) : evFX (porterlaw30_works_E N) N (porterlaw30_works_t N) porterlaw30_works_L Go.Proofs.Tryd.f7 (mkS [] 0 x) (kRes (.v .bool) 0) = porterlaw30_works N := by kernel_rfl

noncomputable def porterlaw30_works_res (N : Nat) : List A → Res := resOf [] (fun x => porterlaw30_works N) (oRes (.v .bool) 0)

theorem porterlaw30_works_ct (N : Nat) : Contract Go.Proofs.Tryd.prog glob 7 (porterlaw30_works_res N) :=
  Contract.of (E := porterlaw30_works_E N) (H := porterlaw30_works_t N) (L := porterlaw30_works_L) (N := N) (body := porterlaw30_works_body) (K := (kRes (.v .bool) 0)) (porterlaw30_works_Eok N) Go.Proofs.Tryd.func7 (by kernel_rfl) (by decide) (fun _ hb => TabOk.nil) (fun x y h => by rw [porterlaw30_works_link]; exact h) (kRes_ok (s := (.v .bool)) (m := 0))

noncomputable def porterlaw30_TokenBack_body : Code := (Go.Proofs.Tryd.f5.body).getD .skip

noncomputable def porterlaw30_TokenBack_L : List (List Nat × List Nat) := [([0], [2, 1]), ([0, 0, 1], [19, 2, 1]), ([1, 0, 1], [2, 1]), ([0, 0, 1, 0, 1], [4]), ([1, 0, 1, 0, 1], [4]), ([0, 1, 1], [6, 5, 2, 1]), ([0, 0, 1, 1, 1], [27, 5, 2, 1]), ([1, 0, 1, 1, 1], [1]), ([0, 0, 1, 0, 1, 1, 1], [8, 7, 2, 1]), ([0, 1, 0, 1, 0, 1, 1, 1], [40, 1]), ([1, 1, 0, 1, 0, 1, 1, 1], [1]), ([0, 0, 1, 1, 0, 1, 0, 1, 1, 1], [4]), ([1, 0, 1, 1, 0, 1, 0, 1, 1, 1], [4]), ([0, 1, 1, 1, 1], [9, 10, 1]), ([0, 1, 1, 1, 1, 1], [10, 12, 11, 1]), ([0, 1, 1, 1, 1, 1, 1], [4]), ([1, 1, 1, 1, 1, 1, 1], [4])]

noncomputable def porterlaw30_TokenBack_E (N : Nat) : Env := mkEnv tys glob [(7, porterlaw30_works_res N), (8, token_Put_res N), (13, porterbase_SameToken_res N), (6, porterref30_Great_res N), (11, token_Get_res N)] [] [] [] false [] []

theorem porterlaw30_TokenBack_Eok (N : Nat) : EnvOk Go.Proofs.Tryd.prog (porterlaw30_TokenBack_E N) := mkEnv_ok mixed tys_ok (FnsOk.cons (porterlaw30_works_ct N) (FnsOk.cons (token_Put_ct N) (FnsOk.cons ((Contract.up (porterbase_SameToken_ct N) glob)) (FnsOk.cons ((Contract.up (porterref30_Great_ct N) glob)) (FnsOk.cons ((Contract.up (token_Get_ct N) glob)) (FnsOk.nil)))))) (ItsOk.nil)

noncomputable def porterlaw30_TokenBack_p2 (N : Nat) (s : (List UInt8)) (t : ((List UInt8) × ((List ((List UInt8) × ((List UInt8) × Unit))) × ((List UInt8) × Unit)))) (k0 : Bool → Option Bool) : Option Bool :=
 (porterref30_Great N t).bind fun y =>
 cond y
 (k0 true)
 (k0 (decide ((6000 : Int) < (((List.length s) : Nat) : Int))))

noncomputable def porterlaw30_TokenBack_g2 (N : Nat) (x : denS [(1, .v .str), (0, .box (.pair .str (.pair (.sl (.pair .str (.pair .str .unit))) (.pair .str .unit))))]) (K : Ex → List A → Option Bool) : Option Bool :=
 porterlaw30_TokenBack_p2 N x.1 x.2.1 (fun a2 => (K .normal (mkS [(1, .v .str), (0, .box (.pair .str (.pair (.sl (.pair .str (.pair .str .unit))) (.pair .str .unit)))), (16, .v .bool)] 45 (x.1, x.2.1, a2, ()))))

noncomputable def porterlaw30_TokenBack_h2 (N : Nat) : Hd Bool := fun st K => (unS [(1, .v .str), (0, .box (.pair .str (.pair (.sl (.pair .str (.pair .str .unit))) (.pair .str .unit))))] 62 (restr [2, 1] 0 st)).bind fun x => porterlaw30_TokenBack_g2 N x K

noncomputable def porterlaw30_TokenBack_t2 (N : Nat) : Tab Bool := []

theorem porterlaw30_TokenBack_ok2 {N : Nat} {c : Ctx} (hb : Base Go.Proofs.Tryd.prog (porterlaw30_TokenBack_E N) c) : CodeOk Go.Proofs.Tryd.prog c (nodeAt porterlaw30_TokenBack_body [0, 0, 1]) (porterlaw30_TokenBack_h2 N) :=
  piece_ok (s := [(1, .v .str), (0, .box (.pair .str (.pair (.sl (.pair .str (.pair .str .unit))) (.pair .str .unit))))]) (m := 62) (g := porterlaw30_TokenBack_g2 N) [2, 1] (evN_sound hb N (porterlaw30_TokenBack_t2 N) porterlaw30_TokenBack_L porterlaw30_TokenBack_body TabOk.nil [0, 0, 1] _ rfl) (fun x K => by kernel_rfl)

noncomputable def porterlaw30_TokenBack_p1 (N : Nat) (s : (List UInt8)) (t : ((List UInt8) × ((List ((List UInt8) × ((List UInt8) × Unit))) × ((List UInt8) × Unit)))) (k0 : Bool → Option Bool) (k1 : Option Bool) : Option Bool :=
 porterlaw30_TokenBack_p2 N s t
 (fun x19 => cond x19
 ((porterlaw30_works N).bind fun y =>
 k0 y)
 (k1))

noncomputable def porterlaw30_TokenBack_g1 (N : Nat) (x : denS [(1, .v .str), (0, .box (.pair .str (.pair (.sl (.pair .str (.pair .str .unit))) (.pair .str .unit))))]) (K : Ex → List A → Option Bool) : Option Bool :=
 porterlaw30_TokenBack_p1 N x.1 x.2.1 (fun a0 => (K .ret (mkS [(4, .v .bool)] 60 (a0, ())))) (K .normal (mkS [(1, .v .str), (0, .box (.pair .str (.pair (.sl (.pair .str (.pair .str .unit))) (.pair .str .unit))))] 62 (x.1, x.2.1, ())))

noncomputable def porterlaw30_TokenBack_h1 (N : Nat) : Hd Bool := fun st K => (unS [(1, .v .str), (0, .box (.pair .str (.pair (.sl (.pair .str (.pair .str .unit))) (.pair .str .unit))))] 62 (restr [2, 1] 0 st)).bind fun x => porterlaw30_TokenBack_g1 N x K

noncomputable def porterlaw30_TokenBack_t1 (N : Nat) : Tab Bool := [([0, 0, 1], porterlaw30_TokenBack_h2 N)]

theorem porterlaw30_TokenBack_ok1 {N : Nat} {c : Ctx} (hb : Base Go.Proofs.Tryd.prog (porterlaw30_TokenBack_E N) c) : CodeOk Go.Proofs.Tryd.prog c (nodeAt porterlaw30_TokenBack_body [0, 1]) (porterlaw30_TokenBack_h1 N) :=
  piece_ok (s := [(1, .v .str), (0, .box (.pair .str (.pair (.sl (.pair .str (.pair .str .unit))) (.pair .str .unit))))]) (m := 62) (g := porterlaw30_TokenBack_g1 N) [2, 1] (evN_sound hb N (porterlaw30_TokenBack_t1 N) porterlaw30_TokenBack_L porterlaw30_TokenBack_body (TabOk.cons (porterlaw30_TokenBack_ok2 hb) TabOk.nil) [0, 1] _ rfl) (fun x K => by kernel_rfl)

noncomputable def porterlaw30_TokenBack_p4 (N : Nat) (s : (List UInt8)) (t : ((List UInt8) × ((List ((List UInt8) × ((List UInt8) × Unit))) × ((List UInt8) × Unit)))) (u : ((List UInt8) × ((List ((List UInt8) × ((List UInt8) × Unit))) × ((List UInt8) × Unit)))) (f : Int) (k0 : Bool → Option Bool) : Option Bool :=
 cond (f != (0 : Int))
 (k0 true)
 ((porterbase_SameToken N u t).bind fun y =>
 k0 (!y))

noncomputable def porterlaw30_TokenBack_g4 (N : Nat) (x : denS [(1, .v .str), (0, .box (.pair .str (.pair (.sl (.pair .str (.pair .str .unit))) (.pair .str .unit)))), (4, .box (.pair .str (.pair (.sl (.pair .str (.pair .str .unit))) (.pair .str .unit)))), (0, .v (.int .i64))]) (K : Ex → List A → Option Bool) : Option Bool :=
 porterlaw30_TokenBack_p4 N x.1 x.2.1 x.2.2.1 x.2.2.2.1 (fun a1 => (K .normal (mkS [(1, .v .str), (38, .v .bool)] 24 (x.1, a1, ()))))

noncomputable def porterlaw30_TokenBack_h4 (N : Nat) : Hd Bool := fun st K => (unS [(1, .v .str), (0, .box (.pair .str (.pair (.sl (.pair .str (.pair .str .unit))) (.pair .str .unit)))), (4, .box (.pair .str (.pair (.sl (.pair .str (.pair .str .unit))) (.pair .str .unit)))), (0, .v (.int .i64))] 56 (restr [8, 7, 2, 1] 0 st)).bind fun x => porterlaw30_TokenBack_g4 N x K

noncomputable def porterlaw30_TokenBack_t4 (N : Nat) : Tab Bool := []

theorem porterlaw30_TokenBack_ok4 {N : Nat} {c : Ctx} (hb : Base Go.Proofs.Tryd.prog (porterlaw30_TokenBack_E N) c) : CodeOk Go.Proofs.Tryd.prog c (nodeAt porterlaw30_TokenBack_body [0, 1, 0, 1, 0, 1, 1, 1]) (porterlaw30_TokenBack_h4 N) :=
  piece_ok (s := [(1, .v .str), (0, .box (.pair .str (.pair (.sl (.pair .str (.pair .str .unit))) (.pair .str .unit)))), (4, .box (.pair .str (.pair (.sl (.pair .str (.pair .str .unit))) (.pair .str .unit)))), (0, .v (.int .i64))]) (m := 56) (g := porterlaw30_TokenBack_g4 N) [8, 7, 2, 1] (evN_sound hb N (porterlaw30_TokenBack_t4 N) porterlaw30_TokenBack_L porterlaw30_TokenBack_body TabOk.nil [0, 1, 0, 1, 0, 1, 1, 1] _ rfl) (fun x K => by kernel_rfl)

noncomputable def porterlaw30_TokenBack_p3 (N : Nat) (s : (List UInt8)) (t : ((List UInt8) × ((List ((List UInt8) × ((List UInt8) × Unit))) × ((List UInt8) × Unit)))) (a : (List UInt8)) (e : Int) (k0 : Bool → Option Bool) (k1 : Option Bool) : Option Bool :=
 cond (e == (0 : Int))
 ((token_Get N a).bind fun y =>
 porterlaw30_TokenBack_p4 N s t y.1 y.2.1
 (fun x40 => cond x40
 (k0 false)
 (k1)))
 (k1)

noncomputable def porterlaw30_TokenBack_g3 (N : Nat) (x : denS [(1, .v .str), (0, .box (.pair .str (.pair (.sl (.pair .str (.pair .str .unit))) (.pair .str .unit)))), (2, .v .str), (0, .v (.int .i64))]) (K : Ex → List A → Option Bool) : Option Bool :=
 porterlaw30_TokenBack_p3 N x.1 x.2.1 x.2.2.1 x.2.2.2.1 (fun a0 => (K .ret (mkS [(4, .v .bool)] 60 (a0, ())))) (K .normal (mkS [(1, .v .str)] 63 (x.1, ())))

noncomputable def porterlaw30_TokenBack_h3 (N : Nat) : Hd Bool := fun st K => (unS [(1, .v .str), (0, .box (.pair .str (.pair (.sl (.pair .str (.pair .str .unit))) (.pair .str .unit)))), (2, .v .str), (0, .v (.int .i64))] 58 (restr [6, 5, 2, 1] 0 st)).bind fun x => porterlaw30_TokenBack_g3 N x K

noncomputable def porterlaw30_TokenBack_t3 (N : Nat) : Tab Bool := [([0, 1, 0, 1, 0, 1, 1, 1], porterlaw30_TokenBack_h4 N)]

theorem porterlaw30_TokenBack_ok3 {N : Nat} {c : Ctx} (hb : Base Go.Proofs.Tryd.prog (porterlaw30_TokenBack_E N) c) : CodeOk Go.Proofs.Tryd.prog c (nodeAt porterlaw30_TokenBack_body [0, 1, 1, 1]) (porterlaw30_TokenBack_h3 N) :=
  piece_ok (s := [(1, .v .str), (0, .box (.pair .str (.pair (.sl (.pair .str (.pair .str .unit))) (.pair .str .unit)))), (2, .v .str), (0, .v (.int .i64))]) (m := 58) (g := porterlaw30_TokenBack_g3 N) [6, 5, 2, 1] (evN_sound hb N (porterlaw30_TokenBack_t3 N) porterlaw30_TokenBack_L porterlaw30_TokenBack_body (TabOk.cons (porterlaw30_TokenBack_ok4 hb) TabOk.nil) [0, 1, 1, 1] _ rfl) (fun x K => by kernel_rfl)

noncomputable def porterlaw30_TokenBack (N : Nat) (t : ((List UInt8) × ((List ((List UInt8) × ((List UInt8) × Unit))) × ((List UInt8) × Unit)))) (s : (List UInt8)) : Option Bool :=
 porterlaw30_TokenBack_p1 N s t
 (fun x4 => some x4)
 ((token_Put N t).bind fun y =>
 porterlaw30_TokenBack_p3 N s t y.1 y.2.1
 (fun x41 => some x41)
 ((token_Get N s).bind fun y1 =>
 (token_Put N y1.1).bind fun y2 =>
 cond (y1.2.1 != (0 : Int))
 ((porterlaw30_works N).bind fun y3 =>
 some y3)
 (cond (y2.2.1 == (0 : Int))
 (cond (y2.1 == s)
 ((porterlaw30_works N).bind fun y4 =>
 some y4)
 (some false))
 (some false))))

noncomputable def porterlaw30_TokenBack_t (N : Nat) : Tab Bool := [([0, 1], porterlaw30_TokenBack_h1 N), ([0, 1, 1, 1], porterlaw30_TokenBack_h3 N)]

theorem porterlaw30_TokenBack_link (N : Nat) (x : denS [(0, .v (.pair .str (.pair (.sl (.pair .str (.pair .str .unit))) (.pair .str .unit)))), (0, .v .str)]) : evFX (porterlaw30_TokenBack_E N) N (porterlaw30_TokenBack_t N) porterlaw30_TokenBack_L Go.Proofs.Tryd.f5 (mkS [(0, .v (.pair .str (.pair (.sl (.pair .str (.pair .str .unit))) (.pair .str .unit)))), (0, .v .str)] 0 x) (kRes (.v .bool) 2) = porterlaw30_TokenBack N x.1 x.2.1 := by kernel_rfl

noncomputable def porterlaw30_TokenBack_res (N : Nat) : List A → Res := resOf [(0, .v (.pair .str (.pair (.sl (.pair .str (.pair .str .unit))) (.pair .str .unit)))), (0, .v .str)] (fun x => porterlaw30_TokenBack N x.1 x.2.1) (oRes (.v .bool) 2)

theorem porterlaw30_TokenBack_ct (N : Nat) : Contract Go.Proofs.Tryd.prog glob 5 (porterlaw30_TokenBack_res N) :=
  Contract.of (E := porterlaw30_TokenBack_E N) (H := porterlaw30_TokenBack_t N) (L := porterlaw30_TokenBack_L) (N := N) (body := porterlaw30_TokenBack_body) (K := (kRes (.v .bool) 2)) (porterlaw30_TokenBack_Eok N) Go.Proofs.Tryd.func5 (by kernel_rfl) (by decide) (fun _ hb => (TabOk.cons (porterlaw30_TokenBack_ok1 hb) (TabOk.cons (porterlaw30_TokenBack_ok3 hb) TabOk.nil))) (fun x y h => by rw [porterlaw30_TokenBack_link]; exact h) (kRes_ok (s := (.v .bool)) (m := 2))

end Go.Proofs.YtehfmhbogfaaoaaDoorLg

set_option linter.all false
namespace Go.Proofs.YtehfmhbogfaaoaaDoorLg
open Go Go.Lift Go.Proofs.YtehfmhbogfaaoaaDoorPx

theorem shr7 (n : Nat) : shrI .u64 ((n : Nat) : Int) 7 = ((n / 128 : Nat) : Int) := by
  have : shrI .u64 ((n : Nat) : Int) 7 = ((n : Nat) : Int).fdiv 128 := rfl
  rw [this, Int.fdiv_eq_ediv_of_nonneg _ (by omega)]; rfl

theorem or128 : ∀ m, m < 256 → bitsOp .or .u8 ((m : Nat) : Int) 128 = ((m % 128 + 128 : Nat) : Int) := by decide +kernel
theorem andNot128 : ∀ m, m < 256 → bitsOp .andNot .u8 ((m : Nat) : Int) 128 = ((m % 128 : Nat) : Int) := by decide +kernel

def szc (n : Nat) : Nat := if n = 0 then 0 else (putL n).length

theorem szc_le (n : Nat) : szc n ≤ 10 := by
  unfold szc; split
  · omega
  · exact (putL_len n).2

theorem putL_len_step {n : Nat} (h : n < 18446744073709551616) : (putL n).length = 1 + szc (n / 128) := by
  rw [putL_step h]
  unfold szc
  split
  · rw [if_pos (by omega)]; rfl
  · rw [if_neg (by omega), List.length_cons, Nat.add_comm]

theorem size_eq (N : Nat) (hN : 10 < N) {n : Nat} (h : n < 18446744073709551616) : varint_Size N (n : Int) = some (((putL n).length : Nat) : Int) := by
  simp only [varint_Size, varint_Size_p1, shr7]
  rw [iter_eq (I := fun (v : Int × Int) => ∃ (m k : Nat), v = ((m : Int), (k : Int)) ∧ m < 18446744073709551616 ∧ k ≤ 100 - szc m) (m := fun (v : Int × Int) => szc v.1.toNat)
    (R := fun (v : Int × Int) => some (v.2 + ((szc v.1.toNat : Nat) : Int))) ?_ N (((n / 128 : Nat) : Int), 1) ⟨n / 128, 1, rfl, by omega, by have := szc_le (n / 128); omega⟩ (by have := szc_le (n / 128); dsimp only; rw [Int.toNat_natCast]; omega)]
  · dsimp only
    rw [Int.toNat_natCast, putL_len_step h]; congr 1
  rintro v r ⟨m, k, rfl, hm, hk⟩ hr
  dsimp only at *
  simp only [varint_Size_s1, shr7, Int.toNat_natCast] at *
  have hs := szc_le m
  by_cases h0 : m = 0
  · subst h0
    rw [cond_f (by rfl)]
    simp [szc]
  · have e : szc m = 1 + szc (m / 128) := by
      rw [← putL_len_step hm]; unfold szc; rw [if_neg h0]
    rw [cond_t (by simp; omega), wrap_succ (by omega), hr _ ⟨m / 128, k + 1, rfl, by omega, by omega⟩ (by rw [Int.toNat_natCast]; omega)]
    simp only [Int.toNat_natCast, e]
    congr 1; omega

def digI : Nat → Nat → List Int
  | 0, _ => []
  | k + 1, m => ((m % 128 + 128 : Nat) : Int) :: digI k (m / 128)

theorem digI_length : ∀ k m, (digI k m).length = k
  | 0, _ => rfl
  | k + 1, m => by simp [digI, digI_length k]

theorem digI_put : ∀ (f n k : Nat), (putF f n).length = k + 1 → n < 128 ^ (f + 1) → toStr ((digI (k + 1) n).set k (bitsOp .andNot .u8 ((digI (k + 1) n).getD k 0) 128)) = putF f n
  | 0, n, k, h, hn => by
    have hk : k = 0 := by simpa [putF] using h.symm
    subst hk
    have hn : n < 128 := by simpa using hn
    simp only [digI, List.getD_cons_zero, List.set_cons_zero, putF]
    rw [andNot128 _ (by omega)]
    simp only [toStr, List.map_cons, List.map_nil, Int.toNat_natCast]
    congr 2; omega
  | f + 1, n, k, h, hn => by
    have hp : (128 : Nat) ^ (f + 2) = 128 * 128 ^ (f + 1) := by rw [Nat.pow_succ, Nat.mul_comm]
    simp only [putF] at h ⊢
    by_cases h1 : n < 128
    · rw [if_pos h1] at h ⊢
      have hk : k = 0 := by simpa using h.symm
      subst hk
      simp only [digI, List.getD_cons_zero, List.set_cons_zero]
      rw [andNot128 _ (by omega)]
      simp only [toStr, List.map_cons, List.map_nil, Int.toNat_natCast]
      congr 2; omega
    · rw [if_neg h1] at h ⊢
      obtain ⟨j, rfl⟩ : ∃ j, k = j + 1 := ⟨k - 1, by have := (putF_len f (n / 128)).1; simp at h; omega⟩
      have ih := digI_put f (n / 128) j (by simpa using h) (by omega)
      have e : digI (j + 1 + 1) n = ((n % 128 + 128 : Nat) : Int) :: digI (j + 1) (n / 128) := rfl
      rw [e, List.getD_cons_succ, List.set_cons_succ]
      have e2 : ∀ (x : Int) (l : List Int), toStr (x :: l) = UInt8.ofNat x.toNat :: toStr l := fun _ _ => rfl
      rw [e2, ih, Int.toNat_natCast]

theorem put_eq (N : Nat) (hN : 20 < N) {n : Nat} (h : n < 18446744073709551616) : varint_Put N (n : Int) = some (putL n) := by
  have hl := putL_len n
  simp only [varint_Put, size_eq N (by omega) h, Option.bind_some]
  rw [cond_t (dec_t ⟨by omega, by omega, by omega, by omega⟩)]
  simp only [varint_Put_p1, Int.toNat_natCast]
  generalize hL : (putL n).length = L at *
  have hend : ∀ out : List Int, out = digI L n → (cond (inR (IntKind.wrap .i64 (((L : Nat) : Int) - 1)) out.length) (cond (decide ((IntKind.wrap .i64 (((L : Nat) : Int) - 1)).toNat < out.length)) (cond (inR (IntKind.wrap .i64 (((L : Nat) : Int) - 1)) out.length) (cond (decide ((IntKind.wrap .i64 (((L : Nat) : Int) - 1)).toNat < out.length)) (some (toStr (out.set (IntKind.wrap .i64 (((L : Nat) : Int) - 1)).toNat (bitsOp .andNot .u8 (out.getD (IntKind.wrap .i64 (((L : Nat) : Int) - 1)).toNat 0) 128)))) none) none) none) none) = some (putL n) := by
    intro out ho
    subst ho
    have e : IntKind.wrap .i64 (((L : Nat) : Int) - 1) = ((L - 1 : Nat) : Int) := by rw [wrap_in (by unfold I64; omega)]; omega
    rw [e, Int.toNat_natCast, digI_length, cond_t (inR_nat (by omega)), cond_t (dec_t (by omega)), cond_t (inR_nat (by omega)), cond_t (dec_t (by omega))]
    obtain ⟨k, rfl⟩ : ∃ k, L = k + 1 := ⟨L - 1, by omega⟩
    have := digI_put 9 n k hL (by have : (128 : Nat) ^ 10 = 1180591620717411303424 := by decide
                                  omega)
    rw [Nat.add_sub_cancel, this]; rfl
  rw [iter_eq (I := fun (v : Int × List Int × Int) => ∃ (m i : Nat), v.1 = (m : Int) ∧ v.2.2 = (i : Int) ∧ m < 18446744073709551616 ∧ i ≤ L ∧ v.2.1.length = L ∧ v.2.1.take i ++ digI (L - i) m = digI L n) (m := fun (v : Int × List Int × Int) => L - v.2.2.toNat)
    (R := fun _ => some (putL n)) ?_ N _ ⟨n, 0, rfl, rfl, h, by omega, by simp, by simp⟩ (by simp; omega)]
  rintro ⟨x, out, y⟩ r ⟨m, i, h1, h2, hm, hi, ho, hd⟩ hr
  dsimp only at *
  subst h1; subst h2
  simp only [varint_Put_s1, Int.toNat_natCast] at *
  by_cases hlt : i < L
  · have hw : IntKind.wrap .u8 (m : Int) = ((m % 256 : Nat) : Int) := by rw [wrap_u8]; omega
    rw [cond_t (dec_t (by omega)), cond_t (inR_nat (by omega)), cond_t (dec_t (by omega)), shr7, hw, or128 _ (by omega), wrap_succ (by omega)]
    refine hr _ ⟨m / 128, i + 1, rfl, rfl, by omega, by omega, by simpa using ho, ?_⟩ (by dsimp only; rw [Int.toNat_natCast]; omega)
    rw [take_set_succ _ _ _ (by omega), List.append_assoc, ← hd]
    congr 1
    obtain ⟨k, hk⟩ : ∃ k, L - i = k + 1 := ⟨L - i - 1, by omega⟩
    rw [hk, show L - (i + 1) = k by omega]
    simp only [digI, List.cons_append, List.nil_append, show m % 256 % 128 = m % 128 by omega]
  · have : i = L := by omega
    subst this
    rw [cond_f (dec_f (by omega))]
    refine hend out ?_
    rw [Nat.sub_self, List.take_of_length_le (by omega)] at hd
    simpa [digI] using hd

def packT (t : Nat × Nat × Int) : Int × Int × Int × Unit := ((t.1 : Int), (t.2.1 : Int), t.2.2, ())

theorem whole_eq (N : Nat) (n : Int) (used last : Nat) : varint_whole N n (used : Int) (last : Int) = some (if (1 < used ∧ last = 0) ∨ (used = 10 ∧ 1 < last) then (0, 0, 2, ()) else (n, (used : Int), 0, ())) := by
  simp only [varint_whole, varint_whole_p1, varint_whole_p2]
  by_cases h1 : 1 < used
  · rw [cond_t (dec_t (by omega))]
    by_cases h2 : last = 0
    · rw [cond_t (by simp [h2]), if_pos (.inl ⟨h1, h2⟩)]; rfl
    · rw [cond_f (by simp; omega)]
      by_cases h3 : used = 10
      · rw [cond_t (by simp; omega)]
        by_cases h4 : 1 < last
        · rw [cond_t (dec_t (by omega)), if_pos (.inr ⟨h3, h4⟩)]
        · rw [cond_f (dec_f (by omega)), if_neg (by omega)]
      · rw [cond_f (by simp; omega), if_neg (by omega)]; rfl
  · rw [cond_f (dec_f (by omega)), cond_f (by simp; omega), if_neg (by omega)]; rfl

theorem wrap_u64_nat {n : Nat} (h : n < 18446744073709551616) : IntKind.wrap .u64 ((n : Nat) : Int) = ((n : Nat) : Int) := by
  simp only [IntKind.wrap, IntKind.bits, IntKind.signed, Bool.false_and, Bool.false_eq_true, if_false]
  omega

theorem or_u64 {a b : Nat} (ha : a < 18446744073709551616) (hb : b < 18446744073709551616) : bitsOp .or .u64 ((a : Nat) : Int) ((b : Nat) : Int) = ((a ||| b : Nat) : Int) := by
  have e : bitsOp .or .u64 ((a : Nat) : Int) ((b : Nat) : Int) = IntKind.wrap .u64 ((BitVec.ofInt 64 ((a : Nat) : Int) ||| BitVec.ofInt 64 ((b : Nat) : Int)).toNat : Int) := rfl
  rw [e, BitVec.ofInt_natCast, BitVec.ofInt_natCast, BitVec.toNat_or, BitVec.toNat_ofNat, BitVec.toNat_ofNat, Nat.mod_eq_of_lt (by simpa using ha), Nat.mod_eq_of_lt (by simpa using hb)]
  exact wrap_u64_nat (Nat.or_lt_two_pow (n := 64) ha hb)

theorem pow7 (i : Nat) : (128 : Nat) ^ i = 2 ^ (7 * i) := by rw [Nat.pow_mul]

theorem add_digit {n x i : Nat} (hn : n < 128 ^ i) (hx : x < 128) (hi : i ≤ 9) (hw : x * 128 ^ i < 18446744073709551616) :
    bitsOp .or .u64 ((n : Nat) : Int) (shlI .u64 (IntKind.wrap .u64 ((x : Nat) : Int)) (IntKind.wrap .i64 (7 * ((i : Nat) : Int)))) = ((n + 128 ^ i * x : Nat) : Int) := by
  have h1 : IntKind.wrap .i64 (7 * ((i : Nat) : Int)) = ((7 * i : Nat) : Int) := by rw [wrap_in (by unfold I64; omega)]; omega
  have hp : (128 : Nat) ^ i ≤ 128 ^ 9 := Nat.pow_le_pow_right (by omega) hi
  have e9 : (128 : Nat) ^ 9 = 9223372036854775808 := by decide
  have h2 : shlI .u64 ((x : Nat) : Int) ((7 * i : Nat) : Int) = ((x * 128 ^ i : Nat) : Int) := by
    unfold shlI
    rw [Int.toNat_natCast, Nat.min_eq_left (by show 7 * i ≤ 64; omega), pow7]
    have : ((x : Nat) : Int) * 2 ^ (7 * i) = ((x * 2 ^ (7 * i) : Nat) : Int) := by simp
    rw [this]
    exact wrap_u64_nat (by rw [← pow7]; exact hw)
  rw [wrap_u64_nat (by omega), h1, h2, or_u64 (by omega) hw]
  congr 1
  rw [Nat.or_comm, pow7, Nat.mul_comm x]
  have := Nat.shiftLeft_add_eq_or_of_lt (b := n) (i := 7 * i) (by rw [← pow7]; exact hn) x
  rw [Nat.shiftLeft_eq, Nat.mul_comm x] at this
  rw [← this, Nat.add_comm]

theorem vtake_eq (N : Nat) (hN : 20 < N) (s : List UInt8) (hs : s.length ≤ 10000000000) : varint_Take N s = some (packT (takeL s)) := by
  have hmin : (if (10 : Int) < ((s.length : Nat) : Int) then (10 : Int) else ((s.length : Nat) : Int)) = ((min 10 s.length : Nat) : Int) := by split <;> omega
  simp only [varint_Take, varint_Take_p1, hmin]
  have hle := lead_le s
  rw [iter_eq (I := fun (v : Int × Int) => ∃ (i : Nat), v.2 = (i : Int) ∧ i ≤ min 10 s.length ∧ i ≤ lead s ∧ (i ≤ 9 → v.1 = ((val (s.take i) : Nat) : Int))) (m := fun (v : Int × Int) => 10 - v.2.toNat)
    (R := fun _ => some (packT (takeL s))) ?_ N (0, 0) ⟨0, rfl, by omega, by omega, fun _ => by simp [val]⟩ (by dsimp only; omega)]
  rintro ⟨x, y⟩ r ⟨i, hy, hi, hil, hx⟩ hr
  dsimp only at *
  subst hy
  simp only [varint_Take_s1, Int.toNat_natCast] at *
  by_cases hlt : i < min 10 s.length
  · have his : i < s.length := by omega
    have hx := hx (by omega)
    subst hx
    have hb := u8_lt (s.getD i 0)
    have h7 : (0 : Int) ≤ IntKind.wrap .i64 (7 * (i : Int)) := by rw [wrap_in (by unfold I64; omega)]; omega
    rw [cond_t (dec_t (by omega)), cond_t (inR_nat his), cond_t (dec_t h7), cond_t (inR_nat his), cond_t (inR_nat his), wrap_succ (by omega), andNot128 _ hb]
    have hv := val_lt (s.take i)
    have hl : (s.take i).length = i := by rw [List.length_take]; omega
    rw [hl] at hv
    have hp : (128 : Nat) ^ i ≤ 128 ^ 9 := Nat.pow_le_pow_right (by omega) (by omega)
    have e9 : (128 : Nat) ^ 9 = 9223372036854775808 := by decide
    have hnext : val (s.take (i + 1)) = val (s.take i) + 128 ^ i * ((s.getD i 0).toNat % 128) := by
      rw [take_succ s 0 i his, val_append, hl]; simp [val]
    by_cases h128 : (s.getD i 0).toNat < 128
    · -- the last digit
      rw [cond_t (dec_t (by omega))]
      have hlead : i = lead s := by
        rcases Nat.lt_or_ge i (lead s) with h | h
        · have := lead_at s i h; omega
        · omega
      have := whole_eq N (bitsOp .or .u64 ((val (s.take i) : Nat) : Int) (shlI .u64 (IntKind.wrap .u64 (((s.getD i 0).toNat % 128 : Nat) : Int)) (IntKind.wrap .i64 (7 * (i : Int))))) (i + 1) (s.getD i 0).toNat
      rw [this, Option.bind_some]
      unfold takeL
      rw [if_neg (show ¬ 10 ≤ lead s by omega), if_neg (show ¬ lead s = s.length by omega), ← hlead]
      have hiff : ((1 < i + 1 ∧ (s.getD i 0).toNat = 0) ∨ (i + 1 = 10 ∧ 1 < (s.getD i 0).toNat)) ↔ ((0 < i ∧ (s.getD i 0).toNat = 0) ∨ (i = 9 ∧ 1 < (s.getD 9 0).toNat)) := by
        constructor
        · rintro (⟨h1, h2⟩ | ⟨h1, h2⟩)
          · exact .inl ⟨by omega, h2⟩
          · have : i = 9 := by omega
            subst this; exact .inr ⟨rfl, h2⟩
        · rintro (⟨h1, h2⟩ | ⟨h1, h2⟩)
          · exact .inl ⟨by omega, h2⟩
          · subst h1; exact .inr ⟨rfl, h2⟩
      by_cases hbad : (0 < i ∧ (s.getD i 0).toNat = 0) ∨ (i = 9 ∧ 1 < (s.getD 9 0).toNat)
      · rw [if_pos (hiff.2 hbad), if_pos hbad]; rfl
      · rw [if_neg (fun h => hbad (hiff.1 h)), if_neg hbad, add_digit hv (by omega) (by omega), hnext]
        · rfl
        · by_cases h9 : i = 9
          · subst h9
            have : ¬ 1 < (s.getD 9 0).toNat := fun h => hbad (.inr ⟨rfl, h⟩)
            rw [e9]; omega
          · have : (128 : Nat) ^ i ≤ 128 ^ 8 := Nat.pow_le_pow_right (by omega) (by omega)
            have e8 : (128 : Nat) ^ 8 = 72057594037927936 := by decide
            have : (s.getD i 0).toNat % 128 * 128 ^ i ≤ 127 * 72057594037927936 := Nat.mul_le_mul (by omega) (by omega)
            omega
    · rw [cond_f (dec_f (by omega))]
      have hlead : i < lead s := by
        rcases Nat.lt_or_ge i (lead s) with h | h
        · exact h
        · have : i = lead s := by omega
          have := lead_end s (by omega)
          rw [← ‹i = lead s›] at this; omega
      refine hr _ ⟨i + 1, rfl, by omega, by omega, fun h9 => ?_⟩ (by dsimp only; omega)
      dsimp only
      rw [add_digit hv (by omega) (by omega), hnext]
      have : (128 : Nat) ^ i ≤ 128 ^ 8 := Nat.pow_le_pow_right (by omega) (by omega)
      have e8 : (128 : Nat) ^ 8 = 72057594037927936 := by decide
      have : (s.getD i 0).toNat % 128 * 128 ^ i ≤ 127 * 72057594037927936 := Nat.mul_le_mul (by omega) (by omega)
      omega
  · have hi2 : i = min 10 s.length := by omega
    rw [cond_f (dec_f (by omega))]
    unfold takeL
    by_cases h10 : 10 ≤ s.length
    · rw [cond_t (dec_t (by omega)), if_pos (by omega)]; rfl
    · rw [cond_f (dec_f (by omega)), if_neg (by omega), if_pos (by omega)]; rfl

end Go.Proofs.YtehfmhbogfaaoaaDoorLg

set_option linter.all false
set_option maxRecDepth 100000
namespace Go.Proofs.YtehfmhbogfaaoaaDoorLg
open Go Go.Lift Go.Proofs.YtehfmhbogfaaoaaDoorPx

def rdr (s : List UInt8) (e : Int) : RdrT.den := (true, (s, (e, ())))
def Inv8 (s : List UInt8) (e : Int) : Prop := s.length ≤ 1000000 ∧ (e ≠ 0 → s = [])

theorem inv_bad (e : Int) : Inv8 [] e := ⟨by simp, fun _ => rfl⟩
theorem inv_drop {s : List UInt8} (h : s.length ≤ 1000000) (k : Nat) : Inv8 (s.drop k) 0 := ⟨by rw [List.length_drop]; omega, fun h => absurd rfl h⟩

theorem reads_t (N : Nat) (s : List UInt8) (e : Int) : field_Reader_reads N (rdr s e) = some (e == 0, (rdr s e, ())) := rfl

theorem fail_off (N : Nat) (s : List UInt8) {e : Int} (he : e ≠ 0) (f : Int) : field_Reader_Fail N (rdr s e) f = some ((), (rdr s e, ())) := by
  rw [field_Reader_Fail, field_Reader_Fail_p1, reads_t, beq_eq_false_iff_ne.2 he]
  rfl

theorem fail_on (N : Nat) (s : List UInt8) {f : Int} (hf : f ≠ 0) : field_Reader_Fail N (rdr s 0) f = some ((), (rdr [] f, ())) := by
  rw [field_Reader_Fail, field_Reader_Fail_p1, reads_t]
  simp only [Option.bind_some]
  rw [beq_self_eq_true, cond_true, bne_iff_ne.2 hf]
  rfl

theorem err_t (N : Nat) (s : List UInt8) (e : Int) : field_Reader_Err N (rdr s e) = some (e, (rdr s e, ())) := rfl

theorem byte_bad (N : Nat) (s : List UInt8) {e : Int} (he : e ≠ 0) : field_Reader_Byte N (rdr s e) = some (0, (rdr s e, ())) := by
  rw [field_Reader_Byte, show ((rdr s e).1 && ((rdr s e).2.2.1 == 0)) = (e == 0) from rfl, beq_eq_false_iff_ne.2 he]
  rfl

theorem wrap_nat {n : Nat} (h : n ≤ 1000000) : Go.IntKind.wrap .u64 (n : Int) = (n : Int) := wrap_u64_nat (by omega)

theorem byte_one (N : Nat) (a : UInt8) (l : List UInt8) (hl : (a :: l).length ≤ 1000000) : field_Reader_Byte N (rdr (a :: l) 0) = some ((a.toNat : Int), (rdr l 0, ())) := by
  rw [field_Reader_Byte, show ((rdr (a :: l) 0).1 && ((rdr (a :: l) 0).2.2.1 == 0)) = true from rfl, cond_true, show (rdr (a :: l) 0).2.1 = a :: l from rfl, wrap_nat hl,
    cond_t (decide_eq_true (by simp only [List.length_cons]; omega))]
  rfl

def numS (s : List UInt8) (e most : Int) : Int × List UInt8 × Int :=
 if e ≠ 0 then (0, s, e)
 else if (takeL s).2.2 ≠ 0 then (0, [], (takeL s).2.2)
 else if most < (takeL s).1 then (0, [], 3)
 else ((takeL s).1, s.drop (takeL s).2.1, 0)

theorem take_le {s : List UInt8} (h : (takeL s).2.2 = 0) : (takeL s).1 < 18446744073709551616 ∧ (takeL s).2.1 ≤ s.length := by
  have := Go.Proofs.YtehfmhbogfaaoaaDoorPx.take_ok (s := s) (n := (takeL s).1) (k := (takeL s).2.1) (by rw [← h])
  exact ⟨this.1, this.2.2.1⟩

theorem num_inv {s : List UInt8} {e most : Int} (h : Inv8 s e) : Inv8 (numS s e most).2.1 (numS s e most).2.2 := by
  unfold numS
  split
  · exact h
  · split
    · exact inv_bad _
    · split
      · exact inv_bad 3
      · exact inv_drop h.1 _

theorem num_eq (N : Nat) (hN : 20 < N) {s : List UInt8} {e : Int} (h : Inv8 s e) (most : Int) : field_Reader_Num N (rdr s e) most = some ((numS s e most).1, (rdr (numS s e most).2.1 (numS s e most).2.2, ())) := by
  rw [field_Reader_Num, show ((rdr s e).1 && ((rdr s e).2.2.1 == 0)) = (e == 0) from rfl, show (rdr s e).2.1 = s from rfl]
  unfold numS
  by_cases he : e = 0
  · subst he
    rw [if_neg (by simp), cond_t (by rfl), vtake_eq N hN s (Nat.le_trans h.1 (by omega))]
    simp only [Option.bind_some, packT]
    by_cases hf : (takeL s).2.2 = 0
    · obtain ⟨h1, h2⟩ := take_le hf
      rw [if_neg (by simpa using hf), cond_t (decide_eq_true hf)]
      by_cases hm : most < (takeL s).1
      · rw [if_pos hm, cond_f (decide_eq_false (by omega))]
        rfl
      · rw [if_neg hm, cond_t (decide_eq_true (by omega)), cond_t (decide_eq_true ⟨by omega, by omega⟩), Int.toNat_natCast]
        rfl
    · rw [if_pos hf, cond_f (decide_eq_false hf)]
      rfl
  · rw [if_pos he, cond_f (beq_eq_false_iff_ne.2 he)]

def textT (y : Int × List UInt8 × Int) : List UInt8 × List UInt8 × Int :=
 if y.2.2 ≠ 0 then ([], y.2.1, y.2.2)
 else if (y.2.1.length : Int) < y.1 then ([], [], 1)
 else (y.2.1.take y.1.toNat, y.2.1.drop y.1.toNat, 0)

def textS (s : List UInt8) (e most : Int) : List UInt8 × List UInt8 × Int := textT (numS s e (if most < 0 then 0 else most))

theorem num_pos (s : List UInt8) (e most : Int) : 0 ≤ (numS s e most).1 := by
  unfold numS
  split
  · exact Int.le_refl _
  · split
    · exact Int.le_refl _
    · split
      · exact Int.le_refl _
      · exact Int.natCast_nonneg _

theorem text_inv {s : List UInt8} {e most : Int} (h : Inv8 s e) : Inv8 (textS s e most).2.1 (textS s e most).2.2 := by
  have hn := num_inv (most := if most < 0 then 0 else most) h
  unfold textS textT
  generalize numS s e (if most < 0 then 0 else most) = y at *
  by_cases h1 : y.2.2 = 0
  · rw [if_neg (by simpa using h1)]
    by_cases h2 : (y.2.1.length : Int) < y.1
    · rw [if_pos h2]; exact inv_bad 1
    · rw [if_neg h2]; exact inv_drop hn.1 _
  · rw [if_pos h1]; exact hn

theorem text_eq (N : Nat) (hN : 20 < N) {s : List UInt8} {e : Int} (h : Inv8 s e) {most : Int} (hm : most < 9223372036854775808) : field_Reader_Text N (rdr s e) most = some ((textS s e most).1, (rdr (textS s e most).2.1 (textS s e most).2.2, ())) := by
  have wm : Go.IntKind.wrap .u64 (if most < 0 then 0 else most) = (if most < 0 then 0 else most) := by
    have e : ∀ x : Int, Go.IntKind.wrap .u64 x = x % 18446744073709551616 := fun _ => rfl
    rw [e]
    split <;> omega
  rw [field_Reader_Text, show ((rdr s e).1 && ((rdr s e).2.2.1 == 0)) = (e == 0) from rfl, show (rdr s e).2.1 = s from rfl, wm]
  unfold textS
  generalize (if most < 0 then 0 else most) = m
  by_cases he : e = 0
  · subst he
    rw [cond_t (by rfl), vtake_eq N hN s (Nat.le_trans h.1 (by omega))]
    simp only [Option.bind_some, packT]
    by_cases hf : (takeL s).2.2 = 0
    · obtain ⟨h1, h2⟩ := take_le hf
      rw [cond_t (decide_eq_true hf)]
      by_cases hm : m < (takeL s).1
      · have hy : numS s 0 m = (0, [], 3) := by
          unfold numS
          rw [if_neg (by simp), if_neg (by simpa using hf), if_pos hm]
        rw [cond_f (decide_eq_false (by omega)), hy]
        rfl
      · have hy : numS s 0 m = (((takeL s).1 : Int), s.drop (takeL s).2.1, 0) := by
          unfold numS
          rw [if_neg (by simp), if_neg (by simpa using hf), if_neg hm]
        have hd : (s.drop (takeL s).2.1).length ≤ 1000000 := by rw [List.length_drop]; have := h.1; omega
        rw [cond_t (decide_eq_true (by omega)), cond_t (decide_eq_true ⟨by omega, by omega, by omega⟩), Int.toNat_natCast, hy, wrap_nat hd]
        unfold textT
        rw [if_neg (by simp)]
        by_cases hl : ((s.drop (takeL s).2.1).length : Int) < (takeL s).1
        · rw [if_pos hl, cond_f (decide_eq_false (by omega))]
          rfl
        · rw [if_neg hl, cond_t (decide_eq_true (by omega))]
          rfl
    · have hy : numS s 0 m = (0, [], (takeL s).2.2) := by
        unfold numS
        rw [if_neg (by simp), if_pos hf]
      rw [cond_f (decide_eq_false hf), hy]
      unfold textT
      rw [if_pos hf]
      rfl
  · have hy : numS s e m = (0, s, e) := by
      unfold numS
      rw [if_pos he]
    rw [cond_f (beq_eq_false_iff_ne.2 he), hy]
    unfold textT
    rw [if_pos he]

theorem numS_bad (s : List UInt8) {e : Int} (he : e ≠ 0) (most : Int) : numS s e most = (0, s, e) := by
  unfold numS
  rw [if_pos he]

theorem textS_bad (s : List UInt8) {e : Int} (he : e ≠ 0) (most : Int) : textS s e most = ([], s, e) := by
  unfold textS textT
  rw [numS_bad s he, if_pos he]

theorem ftext_eq (N : Nat) (hN : 20 < N) {t : List UInt8} (ht : t.length ≤ 1000000) : field_Text N t = some (putL t.length ++ t) := by
  have := putL_len t.length
  rw [field_Text, wrap_nat ht, put_eq N hN (by omega)]
  simp only [Option.bind_some]
  rw [cond_t (decide_eq_true (by omega))]

theorem fnum_eq (N : Nat) (hN : 20 < N) {n : Nat} (hn : n < 18446744073709551616) : field_Num N (n : Int) = some (putL n) := by
  rw [field_Num, put_eq N hN hn]
  rfl

end Go.Proofs.YtehfmhbogfaaoaaDoorLg
