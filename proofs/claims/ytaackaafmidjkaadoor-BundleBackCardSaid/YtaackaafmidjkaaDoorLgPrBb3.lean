import Derived.Test.YtaackaafmidjkaaDoorLgPrBb2
import Derived.Test.YtaackaafmidjkaaDoorLgPrBb1
import Derived.LaidEql
import Derived.Stop.Asserts
import Derived.RowKitTokens
import Derived.Deep.RegionHeld3
import Derived.WalkKit
import Derived.Tactics
import Derived.Tactics2
import Derived.Defers
import Derived.Lib.Hide
import Derived.Below
import Derived.Recover
import Derived.Orders
import Derived.WalkSmall
import Derived.LoopN
import Derived.Test.YtaackaafmidjkaaDoorLgW
set_option linter.all false
set_option maxRecDepth 100000
namespace Go.Proofs.YtaackaafmidjkaaDoorLg
noncomputable section
open Go Go.Lift

def z7s : Code := (Go.Proofs.Tryd.f31.body).getD .skip

def z40 : List (List Nat × List Nat) := [([0], [0, 1]), ([0, 1], [0, 1]), ([0, 1, 1], [1, 0]), ([0, 1, 1, 1], [4, 5, 0]), ([1, 1, 1, 1], [4, 5, 0])]

def z2b (N : Nat) : Env := z3q tys zi [(53, z13f)] [] [] [0] false [] []

theorem z82 (N : Nat) : EnvOk Go.Proofs.Tryd.prog (z2b N) := zq mixed z1z (FnsOk.cons (z197 zi) (FnsOk.nil)) (ItsOk.nil)

def z9 (N : Nat) (b : (Unit × ((List Int) × Unit))) (s : (List UInt8)) : Option ((Int × Go.Value × Unit) × ((Unit × ((List Int) × Unit)) × Unit)) :=
 cond (decide ((((List.length b.2.1) + (List.length (Go.Lift.ofStr s))) * 1) <= 70368744177664))
 (some (((((List.length s) : Nat) : Int), (Go.Value.nilIface, ())), ((b.1, ((b.2.1 ++ (Go.Lift.ofStr s)), b.2.2)), ())))
 (none)

def z3z (N : Nat) : Tab ((Int × Go.Value × Unit) × ((Unit × ((List Int) × Unit)) × Unit)) := []

theorem z7r (N : Nat) (x : z2d [(0, .box (.pair (.self 68) (.pair (.own (.byt 5)) .unit))), (0, .v .str)]) : zc6 (z2b N) N (z3z N) z40 Go.Proofs.Tryd.f31 (mkS [(0, .box (.pair (.self 68) (.pair (.own (.byt 5)) .unit))), (0, .v .str)] 0 x) (zdq (.tup [(.int .i64), .opq]) [(0, .box (.pair (.self 68) (.pair (.own (.byt 5)) .unit)))] 1) = z9 N x.1 x.2.1 := by kernel_rfl

def z36 (N : Nat) : List A -> Res := z1t [(0, .box (.pair (.self 68) (.pair (.own (.byt 5)) .unit))), (0, .v .str)] (fun x => z9 N x.1 x.2.1) (zh7 (.tup [(.int .i64), .opq]) [(0, .box (.pair (.self 68) (.pair (.own (.byt 5)) .unit)))] 1)

theorem z3k (N : Nat) : Contract Go.Proofs.Tryd.prog zi 31 (z36 N) :=
  Contract.of (E := z2b N) (H := z3z N) (L := z40) (N := N) (body := z7s) (K := (zdq (.tup [(.int .i64), .opq]) [(0, .box (.pair (.self 68) (.pair (.own (.byt 5)) .unit)))] 1)) (z82 N) Go.Proofs.Tryd.func31 (by kernel_rfl) (by decide) (fun _ hb => TabOk.nil) (fun x y h => by rw [z7r]; exact h) (za0 (s := (.tup [(.int .i64), .opq])) (os := [(0, .box (.pair (.self 68) (.pair (.own (.byt 5)) .unit)))]) (m := 1))

def z8l : Code := (Go.Proofs.Tryd.f71.body).getD .skip

def z4l : List (List Nat × List Nat) := [([0], [0, 1]), ([0, 1], [0, 1]), ([0, 1, 1], [0]), ([0, 1, 1, 1], [4, 0]), ([1, 1, 1, 1], [4, 0])]

def z2i (N : Nat) : Env := z3q tys zi [(53, z13f)] [] [] [0] false [] []

theorem z91 (N : Nat) : EnvOk Go.Proofs.Tryd.prog (z2i N) := zq mixed z1z (FnsOk.cons (z197 zi) (FnsOk.nil)) (ItsOk.nil)

def z18 (N : Nat) (b : (Unit × ((List Int) × Unit))) (c : Int) : Option (Go.Value × ((Unit × ((List Int) × Unit)) × Unit)) :=
 cond (decide ((((List.length b.2.1) + 1) * 1) <= 70368744177664))
 (some (Go.Value.nilIface, ((b.1, ((b.2.1 ++ ([c] : List Int)), b.2.2)), ())))
 (none)

def z4k (N : Nat) : Tab (Go.Value × ((Unit × ((List Int) × Unit)) × Unit)) := []

theorem z8k (N : Nat) (x : z2d [(0, .box (.pair (.self 68) (.pair (.own (.byt 5)) .unit))), (0, .v (.int .u8))]) : zc6 (z2i N) N (z4k N) z4l Go.Proofs.Tryd.f71 (mkS [(0, .box (.pair (.self 68) (.pair (.own (.byt 5)) .unit))), (0, .v (.int .u8))] 0 x) (zdq (.v .opq) [(0, .box (.pair (.self 68) (.pair (.own (.byt 5)) .unit)))] 1) = z18 N x.1 x.2.1 := by kernel_rfl

def z41 (N : Nat) : List A -> Res := z1t [(0, .box (.pair (.self 68) (.pair (.own (.byt 5)) .unit))), (0, .v (.int .u8))] (fun x => z18 N x.1 x.2.1) (zh7 (.v .opq) [(0, .box (.pair (.self 68) (.pair (.own (.byt 5)) .unit)))] 1)

theorem z9z (N : Nat) : Contract Go.Proofs.Tryd.prog zi 71 (z41 N) :=
  Contract.of (E := z2i N) (H := z4k N) (L := z4l) (N := N) (body := z8l) (K := (zdq (.v .opq) [(0, .box (.pair (.self 68) (.pair (.own (.byt 5)) .unit)))] 1)) (z91 N) Go.Proofs.Tryd.func71 (by kernel_rfl) (by decide) (fun _ hb => TabOk.nil) (fun x y h => by rw [z8k]; exact h) (za0 (s := (.v .opq)) (os := [(0, .box (.pair (.self 68) (.pair (.own (.byt 5)) .unit)))]) (m := 1))

def zbz (N : Nat) : Env := z3q tys zi [(71, z41 N), (20, za1 N), (31, z36 N), (52, zja N), (32, z115)] [] [] [] false [(3, (.pair (.self 68) (.pair (.own (.byt 5)) .unit)))] []

theorem zqh (N : Nat) : EnvOk Go.Proofs.Tryd.prog (zbz N) := zq mixed z1z (FnsOk.cons (z9z N) (FnsOk.cons (zc5 N) (FnsOk.cons (z3k N) (FnsOk.cons (zl7 N) (FnsOk.cons (z166 zi) (FnsOk.nil)))))) (ItsOk.nil)

def zeg (N : Nat) (x17 : (List ((List UInt8) × ((List UInt8) × Unit)))) (x18 : Int) (out : (Unit × ((List Int) × Unit))) (x19 : Int) (rec : (Unit × ((List Int) × Unit)) -> Int -> Option (List UInt8)) (k0 : (Unit × ((List Int) × Unit)) -> Option (List UInt8)) : Option (List UInt8) :=
 cond (decide (x19 < x18))
 (cond (Go.Lift.inR x19 (List.length x17))
 (cond ((List.getD x17 (Int.toNat x19) (([] : List UInt8), (([] : List UInt8), ()))).2.1 == ([] : List UInt8))
 ((z18 N out (0 : Int)).bind fun y =>
 (z48 N (List.getD x17 (Int.toNat x19) (([] : List UInt8), (([] : List UInt8), ()))).1).bind fun y1 =>
 (z9 N y.2.1 y1).bind fun y2 =>
 rec y2.2.1 (Go.IntKind.wrap Go.IntKind.i64 (x19 + (1 : Int))))
 ((z18 N out (1 : Int)).bind fun y3 =>
 (z48 N (List.getD x17 (Int.toNat x19) (([] : List UInt8), (([] : List UInt8), ()))).1).bind fun y4 =>
 (z9 N y3.2.1 y4).bind fun y5 =>
 (z48 N (List.getD x17 (Int.toNat x19) (([] : List UInt8), (([] : List UInt8), ()))).2.1).bind fun y6 =>
 (z9 N y5.2.1 y6).bind fun y7 =>
 rec y7.2.1 (Go.IntKind.wrap Go.IntKind.i64 (x19 + (1 : Int)))))
 (none))
 (k0 out)

def zeh (N : Nat) (out : (Unit × ((List Int) × Unit))) (x17 : (List ((List UInt8) × ((List UInt8) × Unit)))) (x18 : Int) (x19 : Int) (k0 : (Unit × ((List Int) × Unit)) -> Option (List UInt8)) : Option (List UInt8) :=
 iter (fun (v : ((Unit × ((List Int) × Unit)) × Int)) r => zeg N x17 x18 v.1 v.2 (fun out x19 => (r (out, x19))) k0) N (out, x19)

def zkn (N : Nat) (i : ((List ((List UInt8) × ((List UInt8) × Unit))) × Int)) (v : ((Unit × ((List Int) × Unit)) × Int)) (r : ((Unit × ((List Int) × Unit)) × Int) -> Option (List UInt8)) (K : Ex -> List A -> Option (List UInt8)) : Option (List UInt8) :=
 zeg N i.1 i.2 v.1 v.2 (fun out x19 => (r (out, x19))) (fun a0 => (K (.exit 0) (mkS [(3, .box (.pair (.self 68) (.pair (.own (.byt 5)) .unit)))] 38 (a0, ()))))

def zkm (N : Nat) : Hd (List UInt8) := fun st K => (unS [(3, .box (.pair (.self 68) (.pair (.own (.byt 5)) .unit))), (13, .v (.sl (.pair .str (.pair .str .unit)))), (0, .v (.int .i64)), (0, .v (.int .i64))] 22 (restr [19, 18, 17, 3] 0 st)).bind fun x => iter (fun v r => zkn N ((fun x => (x.2.1, x.2.2.1)) x) v r K) N ((fun x => (x.1, x.2.2.2.1)) x)

theorem zqg {N : Nat} {c : Ctx} (hb : Base Go.Proofs.Tryd.prog (zbz N) c) : z16 Go.Proofs.Tryd.prog c (zl zah [0, 1, 0, 1, 1, 1, 1]) (zkm N) :=
  z88 (s := [(3, .box (.pair (.self 68) (.pair (.own (.byt 5)) .unit))), (13, .v (.sl (.pair .str (.pair .str .unit)))), (0, .v (.int .i64)), (0, .v (.int .i64))]) (m := 22) (zkn N) [19, 18, 17, 3] N (fun x => (x.2.1, x.2.2.1)) (fun x => (x.1, x.2.2.2.1)) (fun i v => (v.1, i.1, i.2, v.2, ())) (fun _ => rfl) (zh hb N (zs7 N) zgb zah TabOk.nil [0, 0, 1, 0, 1, 1, 1, 1] _ rfl) (fun i v r K => by kernel_rfl)

def za6 (N : Nat) (t : ((List UInt8) × ((List ((List UInt8) × ((List UInt8) × Unit))) × ((List UInt8) × Unit)))) : Option (List UInt8) :=
 (z48 N t.1).bind fun y =>
 (z9 N ((), (([] : List Int), ())) y).bind fun y1 =>
 (z7n N (Go.IntKind.wrap Go.IntKind.u64 (((List.length t.2.1) : Nat) : Int))).bind fun y2 =>
 (z9 N y1.2.1 y2).bind fun y3 =>
 zeh N y3.2.1 t.2.1 (((List.length t.2.1) : Nat) : Int) (0 : Int)
 (fun out => (zvr (out, ())).bind fun y4 =>
 some y4.1)

def zmm (N : Nat) : Tab (List UInt8) := [([0, 1, 0, 1, 1, 1, 1], zkm N)]

theorem zob (N : Nat) (x : z2d [(0, .v (.pair .str (.pair (.sl (.pair .str (.pair .str .unit))) (.pair .str .unit))))]) : zc6 (zbz N) N (zmm N) zgb Go.Proofs.Tryd.f58 (mkS [(0, .v (.pair .str (.pair (.sl (.pair .str (.pair .str .unit))) (.pair .str .unit))))] 0 x) (z6u (.v .str) 1) = za6 N x.1 := by kernel_rfl

def zcd (N : Nat) : List A -> Res := z1t [(0, .v (.pair .str (.pair (.sl (.pair .str (.pair .str .unit))) (.pair .str .unit))))] (fun x => za6 N x.1) (zev (.v .str) 1)

theorem zko (N : Nat) : Contract Go.Proofs.Tryd.prog zi 58 (zcd N) :=
  Contract.of (E := zbz N) (H := zmm N) (L := zgb) (N := N) (body := zah) (K := (z6u (.v .str) 1)) (zqh N) Go.Proofs.Tryd.func58 (by kernel_rfl) (by decide) (fun _ hb => (TabOk.cons (zqg hb) TabOk.nil)) (fun x y h => by rw [zob]; exact h) (z1v (s := (.v .str)) (m := 1))

theorem zhj {w w' : World} {S : Hp} {b : Nat} {x x' : RdrT.den} {rest : List A} {vals : List Value} {ob : Nat -> List Nat} {rA : A} {rV : Value} {outs : List A}
    (hrest : ∀ y ∈ rest, z8q y = false) (hv0 : vals[0]? = some (.pointer (some ⟨b, 0, none⟩))) (hob : ob 0 = [b]) (hob' : ∀ i, i ≠ 0 -> ob i = []) (houts : outs[0]? = some (.box RdrT x'))
    (hF : Fine w S b x' w') (hr : ∀ S', ARel (hp w') S' (fun _ => undef) rA rV []) (hrr : rA.refs = []) : Lift.Ends w S (.box RdrT x :: rest) vals ob rA outs (.returned rV) w' := by
  obtain ⟨S', h1, h2, h3, h4, h5, E, fr, h6, h7⟩ := hF
  have hmem : ∀ i k, k ∈ ob i -> k = b := fun i k hk => by
    by_cases hi : i = 0
    . subst hi; rw [hob] at hk; exact List.mem_singleton.1 hk
    . rw [hob' i hi] at hk; cases hk
  refine ⟨rV, S', [], ob, rfl, ⟨h1.size, fun k hk hn => h1.same k hk (fun e => hn ⟨0, by rw [hob, e]; exact List.mem_singleton.2 rfl⟩), h1.tape, h1.os, h1.output⟩, h2, h4, fun k hk => ?_, ⟨hr S', hrr⟩, (fun k hk => by cases hk), .nil, ?_, ?_, ?_, ?_, fun _ h => h⟩
  . rcases h3 k hk with h | h
    . exact .inl h
    . exact .inr (.inr h)
  . intro i y hy hbx
    match i with
    | 0 =>
      cases hy
      exact ⟨_, _, houts, hv0, rfl, by rw [hob]; exact zxz h6 h7⟩
    | i + 1 =>
      have := hrest y (List.mem_of_getElem? hy)
      rw [hbx] at this
      cases this
  . intro i k hk
    refine ⟨.inl ⟨i, hk⟩, ?_, fun h => by cases h⟩
    rw [hmem i k hk]; exact h5
  . intro i j k hi hj
    by_cases h0 : i = 0
    . by_cases h1 : j = 0
      . omega
      . rw [hob' j h1] at hj; cases hj
    . rw [hob' i h0] at hi; cases hi
  . intro i
    by_cases h0 : i = 0
    . subst h0; rw [hob]; exact List.nodup_cons.2 ⟨by simp, List.nodup_nil⟩
    . rw [hob' i h0]; exact .nil

theorem z160 {w : World} {S : Hp} {x : RdrT.den} {vals : List Value} {ob : Nat -> List Nat} (hS : Lift.Sub S (hp w)) (har : ArgsRel (hp w) S [.box RdrT x] vals ob) :
    ∃ b, vals = [.pointer (some ⟨b, 0, none⟩)] /\ ob 0 = [b] /\ (∀ i, i ≠ 0 -> ob i = []) /\ Rdr w S b x := by
  obtain ⟨⟨v0, hv0, hA0⟩, _⟩ := har.rel 0 _ rfl
  obtain ⟨b, E, fr, ho, hv, hc, hf⟩ := zsm hA0
  have hlen := har.len
  have hvals : vals = [v0] := by
    match vals, hlen with
    | [a], _ => cases hv0; rfl
  subst hv
  exact ⟨b, hvals, ho, fun i hi => har.out i (by simp; omega), hS, har.hid 0 b (by rw [ho]; exact List.mem_singleton.2 rfl), E, fr, hc, hf⟩

theorem zyv {w : World} {S : Hp} {x : RdrT.den} {k : IntKind} {n : Int} {vals : List Value} {ob : Nat -> List Nat} (hS : Lift.Sub S (hp w)) (har : ArgsRel (hp w) S [.box RdrT x, .v (.int k) n] vals ob) :
    ∃ b, vals = [.pointer (some ⟨b, 0, none⟩), .int k n] /\ ob 0 = [b] /\ (∀ i, i ≠ 0 -> ob i = []) /\ Rdr w S b x := by
  obtain ⟨⟨v0, hv0, hA0⟩, _⟩ := har.rel 0 _ rfl
  obtain ⟨⟨v1, hv1, hA1⟩, _⟩ := har.rel 1 _ rfl
  obtain ⟨b, E, fr, ho, hv, hc, hf⟩ := zsm hA0
  have hlen := har.len
  have hvals : vals = [v0, v1] := by
    match vals, hlen with
    | [a, c], _ => cases hv0; cases hv1; rfl
  have e1 := VR.int_inv hA1.1
  subst e1
  subst hv
  refine ⟨b, hvals, ho, fun i hi => ?_, hS, har.hid 0 b (by rw [ho]; exact List.mem_singleton.2 rfl), E, fr, hc, hf⟩
  match i with
  | 0 => exact absurd rfl hi
  | 1 => exact hA1.2
  | i + 2 => exact har.out _ (by simp)

def z4s (N : Nat) : List A -> Res := z1t [(0, .box (.pair .bool (.pair .str (.pair (.int .i64) .unit))))] (fun x => z12 N x.1) (zh7 (.v (.int .u8)) [(0, .box (.pair .bool (.pair .str (.pair (.int .i64) .unit))))] 0)

theorem z9v (N : Nat) : Contract Tryd.prog zi 61 (z4s N) := by
  refine Contract.hand ⟨_, Tryd.func61, by kernel_rfl, by decide⟩ ?_
  intro w S vals ob x y har hS hg hy
  obtain ⟨x, u⟩ := x
  cases u
  obtain ⟨b, rfl, ho, ho', hR⟩ := z160 hS har
  have fin : ∀ (n : Int) (x' : RdrT.den), y = (n, (x', ())) -> Calls Tryd.prog 61 #[.pointer (some ⟨b, 0, none⟩)] w (fun r w' => r = .returned (.int .u8 n) /\ Fine w S b x' w') →
      Calls Tryd.prog 61 [Value.pointer (some ⟨b, 0, none⟩)].toArray w fun e w' => Lift.Ends w S (mkS [(0, .box RdrT)] 0 (x, ())) [.pointer (some ⟨b, 0, none⟩)] ob (zh7 (.v (.int .u8)) [(0, .box RdrT)] 0 y).1 (zh7 (.v (.int .u8)) [(0, .box RdrT)] 0 y).2 e w' := by
    rintro n x' rfl hc
    refine hc.mono ?_
    rintro r w' ⟨rfl, hF⟩
    exact zhj (rest := []) (fun _ h => by cases h) rfl ho ho' rfl hF (fun S' => ⟨VR.int, rfl⟩) rfl
  have hy' : z12 N x = some y := hy
  unfold z12 at hy'
  cases hr : (x.1 && (x.2.2.1 == 0)) with
  | false =>
    rw [hr] at hy'
    cases hy'
    exact fin _ _ rfl (z15k N hR hr)
  | true =>
    rw [hr] at hy'
    by_cases hle : 1 <= Go.IntKind.wrap .u64 (x.2.1.length : Int)
    . rw [decide_eq_true hle] at hy'
      cases hy'
      obtain ⟨m, s, e, u⟩ := x
      cases u
      cases s with
      | nil => exact absurd (show 1 <= Go.IntKind.wrap .u64 (0 : Int) from hle) (by decide)
      | cons a l => exact fin _ _ rfl (z189 N hR hr hle)
    . rw [decide_eq_false hle] at hy'
      cases hy'
      refine fin _ _ rfl ?_
      have e : zpn x 1 = (x.1, [], 1, ()) := by
        unfold zpn
        rw [hr]
        rfl
      rw [<- e]
      exact z15l N hR hr hle

def z21 (N : Nat) (x : RdrT.den) (most : Int) : Option (Int × (RdrT.den × Unit)) :=
 cond (x.1 && (x.2.2.1 == 0))
 ((z2a N x.2.1).bind fun y =>
 cond (decide (y.2.2.1 = 0))
 (cond (decide (y.1 <= most))
 (cond (decide (0 <= y.2.1 /\ y.2.1 <= x.2.1.length))
 (some (y.1, ((x.1, x.2.1.drop y.2.1.toNat, x.2.2.1, ()), ())))
 none)
 (some (0, ((x.1, [], 3, ()), ()))))
 (some (0, ((x.1, [], y.2.2.1, ()), ()))))
 (some (0, (x, ())))

theorem zl9 {x : RdrT.den} {e : Int} (hr : (x.1 && (x.2.2.1 == 0)) = true) (he : e ≠ 0) : zpn x e = (x.1, [], e, ()) := by
  unfold zpn
  rw [hr, bne_iff_ne.2 he]
  rfl

theorem z14x (N : Nat) {w : World} {S : Hp} {b : Nat} {x : RdrT.den} {most n : Int} {x' : RdrT.den} (h : Rdr w S b x) (hy : z21 N x most = some (n, (x', ()))) :
    Calls Tryd.prog 24 #[.pointer (some ⟨b, 0, none⟩), .int .u64 most] w fun r w' => r = .returned (.int .u64 n) /\ Fine w S b x' w' := by
  unfold z21 at hy
  cases hr : (x.1 && (x.2.2.1 == 0)) with
  | false =>
    rw [hr] at hy
    cases hy
    exact z17t N h hr
  | true =>
    rw [hr] at hy
    cases ht : z2a N x.2.1 with
    | none => rw [ht] at hy; cases hy
    | some y =>
      rw [ht, Option.bind_some] at hy
      by_cases he : y.2.2.1 = 0
      . rw [decide_eq_true he] at hy
        by_cases hm : y.1 <= most
        . rw [decide_eq_true hm] at hy
          by_cases hu : 0 <= y.2.1 /\ y.2.1 <= x.2.1.length
          . rw [decide_eq_true hu] at hy
            cases hy
            exact z18y N h hr (fun w1 S1 h1 => zjp N h1 ht he hm hu.1 hu.2)
          . rw [decide_eq_false hu] at hy
            cases hy
        . rw [decide_eq_false hm] at hy
          cases hy
          rw [<- zl9 hr (by decide : (3 : Int) ≠ 0)]
          exact zy9 N h hr (fun w1 S1 h1 => zp4 N h1 ht he hm)
      . rw [decide_eq_false he] at hy
        cases hy
        rw [<- zl9 hr he]
        exact zy9 N h hr (fun w1 S1 h1 => zrh N h1 ht he)

def z9p (N : Nat) : List A -> Res := z1t [(0, .box (.pair .bool (.pair .str (.pair (.int .i64) .unit)))), (0, .v (.int .u64))] (fun x => z21 N x.1 x.2.1) (zh7 (.v (.int .u64)) [(0, .box (.pair .bool (.pair .str (.pair (.int .i64) .unit))))] 1)

theorem zf8 (N : Nat) : Contract Tryd.prog zi 24 (z9p N) := by
  refine Contract.hand ⟨_, Tryd.func24, by kernel_rfl, by decide⟩ ?_
  intro w S vals ob x y har hS hg hy
  obtain ⟨x, most, u⟩ := x
  cases u
  obtain ⟨n, x', u⟩ := y
  cases u
  obtain ⟨b, rfl, ho, ho', hR⟩ := zyv hS har
  refine (z14x N hR hy).mono ?_
  rintro r w' ⟨rfl, hF⟩
  exact zhj (rest := [.v (.int .u64) most]) (fun _ h => by rw [List.mem_singleton.1 h]; rfl) rfl ho ho' rfl hF (fun S' => ⟨VR.int, rfl⟩) rfl

theorem zzf (N : Nat) {w : World} {S : Hp} (hS : Lift.Sub S (hp w)) :
    Calls Tryd.prog 43 #[.pointer none] w fun r w' => r = .returned (.bool false) ∧
      ∃ S', WF w (fun _ => False) w' /\ Lift.Sub S S' /\ Lift.Sub S' (hp w') /\ ∀ k, S' k ≠ none -> S k ≠ none \/ w.heap.size <= k := by
  have h := (z5y N).2 w S [.v .opq (.pointer none)] [.pointer none] (fun _ => []) ⟨rfl, fun i x hx => ?_, fun _ _ => rfl, (fun i j b hb => by cases hb), fun _ => .nil, (fun i b hb => by cases hb)⟩ hS (z8r S) false rfl
  . refine h.mono ?_
    rintro r w' ⟨v, S', o, ob', rfl, hwf, h3, h4, h5, ⟨⟨hv, _⟩, _⟩, _⟩
    refine ⟨by rw [VR.bool_inv hv], S', ⟨hwf.size, fun k hk _ => hwf.same k hk (by rintro ⟨i, hi⟩; cases hi), hwf.tape, hwf.os, hwf.output⟩, h3, h4, fun b hb => ?_⟩
    rcases h5 b hb with h | ⟨i, hi⟩ | h
    . exact .inl h
    . cases hi
    . exact .inr h
  . match i with
    | 0 => cases hx; exact ⟨⟨_, rfl, VR.of_one rfl ⟨rfl, rfl⟩, rfl⟩, rfl⟩
    | i + 1 => cases hx

theorem z17u (N : Nat) {w : World} {S : Hp} {most : Int} (hS : Lift.Sub S (hp w)) :
    Calls Tryd.prog 24 #[.pointer none, .int .u64 most] w fun r w' => r = .returned (.int .u64 0) ∧
      ∃ S', WF w (fun _ => False) w' /\ Lift.Sub S S' /\ Lift.Sub S' (hp w') /\ ∀ k, S' k ≠ none -> S k ≠ none \/ w.heap.size <= k := by
  have hmf : ∀ (fn : Fn) (first cap : Array Value) (w : World), (Instr.makeFunc fn first cap).run Tryd.prog w = .ok (.func fn first cap) w := fun _ _ _ _ => rfl
  have hA := z2q w (.pointer none) 47
  have hh : (w.alloc (.cells #[.pointer none] 47)).heap = w.heap.push (.cells #[.pointer none] 47 (0, 0)) := rfl
  have hk : ∀ k, k < w.heap.size -> (w.alloc (.cells #[.pointer none] 47)).heap[k]? = w.heap[k]? := fun k hk => by
    rw [hh, Array.getElem?_push, if_neg (by omega)]
  have hz : (w.alloc (.cells #[.pointer none] 47)).heap.size = w.heap.size + 1 := by rw [hh, Array.size_push]
  have hS1 : Lift.Sub S (hp (w.alloc (.cells #[.pointer none] 47))) := fun k o ho => by
    have := hS k o ho
    simp only [hp] at this ⊢
    rw [hk k (Array.getElem?_eq_some_iff.1 this).1]
    exact this
  have hcr := zzf N hS1
  clear hh
  go_enter_defers Tryd.func24, Tryd.ntmps24
  go_wp2_with (go_at_call 43; refine hcr.mono ?_; rintro r w2 ⟨rfl, hF2⟩; have HM := Go.Lib.hid hF2; clear hcr hF2)
  obtain ⟨S2, g1, g2, g3, g4⟩ := HM.out
  have hc2 : w2.cell? ⟨w.heap.size, 0, none⟩ = some (.pointer none) := by
    have := g1.same w.heap.size (by rw [hz]; omega) (fun h => h)
    simp only [World.cell?] at hA ⊢
    rw [this]; exact hA
  refine leaves_cons (f := 41) (args := #[.pointer (some ⟨w.heap.size, 0, none⟩)]) (by simp) (by simp [go_sem]) ?_
  refine (zso hc2).mono ?_
  rintro r u w3 ⟨⟨v, rfl⟩, rfl, rfl⟩
  refine ⟨_, ?_, rfl, S2, ⟨?_, fun k h1 _ => ?_, ?_, ?_, ?_⟩, g2, g3, fun k hk => ?_⟩
  . simp [results, Tryd.results24, go_sem]
  . have := g1.size
    rw [hz] at this
    exact Nat.le_of_succ_le this
  . have := g1.same k (by rw [hz]; omega) (fun h => h)
    exact this.trans (hk k h1)
  . exact g1.tape
  . exact g1.os
  . exact g1.output
  . rcases g4 k hk with h | h
    . exact .inl h
    . rw [hz] at h; exact .inr (by omega)

def z5i (N : Nat) : List A -> Res := zmw [(0, .nilp), (0, .v (.int .u64))] (fun _ => some 0) (zev (.v (.int .u64)) 2) (z9p N)

theorem zay (N : Nat) : Contract Tryd.prog zi 24 (z5i N) := by
  refine Contract.alt (Contract.hand ⟨_, Tryd.func24, by kernel_rfl, by decide⟩ ?_) (zf8 N)
  intro w S vals ob x y har hS hg hy
  obtain ⟨p, most, u⟩ := x
  cases p
  cases u
  cases hy
  obtain ⟨⟨v0, hv0, hA0, ho0⟩, _⟩ := har.rel 0 _ rfl
  obtain ⟨⟨v1, hv1, hA1, ho1⟩, _⟩ := har.rel 1 _ rfl
  have hvals : vals = [v0, v1] := by
    match vals, har.len with
    | [a, c], _ => cases hv0; cases hv1; rfl
  have e0 := VR.opq_inv hA0
  have e1 := VR.int_inv hA1
  subst e0
  subst e1
  subst hvals
  have hnone : ∀ i, ob i = [] := fun i => by
    match i with
    | 0 => exact ho0
    | 1 => exact ho1
    | i + 2 => exact har.out _ (by simp [mkS, zbc])
  refine (z17u N hS).mono ?_
  rintro r w' ⟨rfl, S', h1, h2, h3, h4⟩
  refine ⟨_, S', [], ob, rfl, ⟨h1.size, fun k hk _ => h1.same k hk (fun h => h), h1.tape, h1.os, h1.output⟩, h2, h3, fun k hk => ?_, ⟨⟨VR.int, rfl⟩, rfl⟩, (fun k hk => by cases hk), .nil, ?_, ?_, har.inj, har.nd, fun _ h => h⟩
  . rcases h4 k hk with h | h
    . exact .inl h
    . exact .inr (.inr h)
  . intro i y hy hbx
    match i with
    | 0 => cases hy; cases hbx
    | 1 => cases hy; cases hbx
    | i + 2 => simp [mkS, zbc] at hy
  . intro i k hk
    rw [hnone i] at hk
    cases hk

theorem z146 (n : Nat) : Go.IntKind.wrap .u64 (n : Int) <= n := by
  have e : Go.IntKind.wrap .u64 (n : Int) = (n : Int) % 18446744073709551616 := rfl
  rw [e]
  omega

theorem z113 {w : World} {S : Hp} {b : Nat} {x : RdrT.den} (h : Rdr w S b x) {n : Int} (hn : 0 <= n) (hle : n <= Go.IntKind.wrap .u64 (x.2.1.length : Int)) :
    Calls Tryd.prog 63 #[.pointer (some ⟨b, 0, none⟩), .int .u64 n] w fun r w' => r = .returned (.string ⟨⟨x.2.1.take n.toNat⟩⟩) /\ Fine w S b (x.1, x.2.1.drop n.toNat, x.2.2.1, ()) w' := by
  obtain ⟨c1, z1⟩ := z8m h
  refine (ztu c1 z1 hn hle (Int.le_trans hle (z146 _))).mono ?_
  rintro r w' ⟨rfl, rfl⟩
  exact ⟨rfl, zt2 h _⟩

theorem zxg {w : World} {S : Hp} {b : Nat} {x : RdrT.den} (h : Rdr w S b x) {n : Int} (hle : ¬ n <= Go.IntKind.wrap .u64 (x.2.1.length : Int)) :
    Calls Tryd.prog 63 #[.pointer (some ⟨b, 0, none⟩), .int .u64 n] w fun r w' => r = .panicked [{ v := .iface 30 (.int .i64 1), recovered := false }] /\ Fine w S b x w' := by
  obtain ⟨c1, z1⟩ := z8m h
  refine (ztv c1 z1 hle).mono ?_
  rintro r w' ⟨rfl, rfl⟩
  exact ⟨rfl, z12y h⟩

def zn (N : Nat) (x : RdrT.den) (most : Int) : Option (List UInt8 × (RdrT.den × Unit)) :=
 cond (x.1 && (x.2.2.1 == 0))
 ((z2a N x.2.1).bind fun y =>
 cond (decide (y.2.2.1 = 0))
 (cond (decide (y.1 <= Go.IntKind.wrap .u64 (if most < 0 then 0 else most)))
 (cond (decide (0 <= y.1 /\ 0 <= y.2.1 /\ y.2.1 <= x.2.1.length))
 (cond (decide (y.1 <= Go.IntKind.wrap .u64 ((x.2.1.drop y.2.1.toNat).length : Int)))
 (some ((x.2.1.drop y.2.1.toNat).take y.1.toNat, ((x.1, (x.2.1.drop y.2.1.toNat).drop y.1.toNat, x.2.2.1, ()), ())))
 (some ([], ((x.1, [], 1, ()), ()))))
 none)
 (some ([], ((x.1, [], 3, ()), ()))))
 (some ([], ((x.1, [], y.2.2.1, ()), ()))))
 (some ([], (x, ())))

theorem z111 (N : Nat) {w : World} {S : Hp} {b : Nat} {x : RdrT.den} {most : Int} {s : List UInt8} {x' : RdrT.den} (h : Rdr w S b x) (hy : zn N x most = some (s, (x', ()))) :
    Calls Tryd.prog 39 #[.pointer (some ⟨b, 0, none⟩), .int .i64 most] w fun r w' => r = .returned (.string ⟨⟨s⟩⟩) /\ Fine w S b x' w' := by
  unfold zn at hy
  cases hr : (x.1 && (x.2.2.1 == 0)) with
  | false =>
    rw [hr] at hy
    cases hy
    exact z14b N h hr
  | true =>
    rw [hr] at hy
    cases ht : z2a N x.2.1 with
    | none => rw [ht] at hy; cases hy
    | some y =>
      rw [ht, Option.bind_some] at hy
      by_cases he : y.2.2.1 = 0
      . rw [decide_eq_true he] at hy
        by_cases hm : y.1 <= Go.IntKind.wrap .u64 (if most < 0 then 0 else most)
        . rw [decide_eq_true hm] at hy
          by_cases hu : 0 <= y.1 /\ 0 <= y.2.1 /\ y.2.1 <= x.2.1.length
          . rw [decide_eq_true hu] at hy
            by_cases hl : y.1 <= Go.IntKind.wrap .u64 ((x.2.1.drop y.2.1.toNat).length : Int)
            . rw [decide_eq_true hl] at hy
              cases hy
              exact z17i N h rfl hr (fun w1 S1 h1 => zjp N h1 ht he hm hu.2.1 hu.2.2) (fun w1 S1 h1 => z113 h1 hu.1 hl)
            . rw [decide_eq_false hl] at hy
              cases hy
              have e := zl9 (x := (x.1, x.2.1.drop y.2.1.toNat, x.2.2.1, ())) (e := 1) hr (by decide)
              have k := z14d N h rfl hr (fun w1 S1 h1 => zjp N h1 ht he hm hu.2.1 hu.2.2) (fun w1 S1 h1 => zxg h1 hl)
              rw [e] at k
              exact k
          . rw [decide_eq_false hu] at hy
            cases hy
        . rw [decide_eq_false hm] at hy
          cases hy
          rw [<- zl9 hr (by decide : (3 : Int) ≠ 0)]
          exact zts N h rfl hr (fun w1 S1 h1 => zp4 N h1 ht he hm)
      . rw [decide_eq_false he] at hy
        cases hy
        rw [<- zl9 hr he]
        exact zts N h rfl hr (fun w1 S1 h1 => zrh N h1 ht he)

def z2s (N : Nat) : List A -> Res := z1t [(0, .box (.pair .bool (.pair .str (.pair (.int .i64) .unit)))), (0, .v (.int .i64))] (fun x => zn N x.1 x.2.1) (zh7 (.v .str) [(0, .box (.pair .bool (.pair .str (.pair (.int .i64) .unit))))] 1)

theorem z5h (N : Nat) : Contract Tryd.prog zi 39 (z2s N) := by
  refine Contract.hand ⟨_, Tryd.func39, by kernel_rfl, by decide⟩ ?_
  intro w S vals ob x y har hS hg hy
  obtain ⟨x, most, u⟩ := x
  cases u
  obtain ⟨s, x', u⟩ := y
  cases u
  obtain ⟨b, rfl, ho, ho', hR⟩ := zyv hS har
  refine (z111 N hR hy).mono ?_
  rintro r w' ⟨rfl, hF⟩
  exact zhj (rest := [.v (.int .i64) most]) (fun _ h => by rw [List.mem_singleton.1 h]; rfl) rfl ho ho' rfl hF (fun S' => ⟨VR.str, rfl⟩) rfl

def zkh : Code := (Go.Proofs.Tryd.f60.body).getD .skip

def zg8 : List (List Nat × List Nat) := [([0], [0, 2]), ([0, 1], [0, 3, 2]), ([0, 0, 1, 1], [5, 0, 3, 2]), ([0, 0, 1, 0, 1, 1], [8, 0, 3, 2, 5]), ([1, 0, 1, 0, 1, 1], [3, 2, 0]), ([0, 1, 1, 0, 1, 0, 1, 1], [13, 0, 3, 2]), ([1, 1, 1, 0, 1, 0, 1, 1], [3, 2, 0]), ([1, 1, 1, 1, 0, 1, 0, 1, 1], [3, 2, 0]), ([0, 0, 1, 1, 1, 0, 1, 0, 1, 1], [0, 3, 2]), ([0, 1, 0, 1, 1, 1, 0, 1, 0, 1, 1], [3, 0, 2]), ([0, 1, 1, 0, 1, 1, 1, 0, 1, 0, 1, 1], [23, 0, 3, 2]), ([1, 1, 1, 0, 1, 1, 1, 0, 1, 0, 1, 1], [3, 2, 0]), ([0, 1, 1, 1, 0, 1, 1, 1, 0, 1, 0, 1, 1], [3, 2, 0]), ([0, 1, 0, 1, 0, 1, 1], [3, 2, 0]), ([1, 0, 1, 1], [3, 2, 0]), ([0, 1, 1, 1], [2, 0]), ([1, 1, 1, 1], [2, 0])]

def zae (N : Nat) : Env := z3q tys zi [(61, z4s N), (39, z2s N), (40, z1k N)] [] [] [0] false [] []

theorem zlv (N : Nat) : EnvOk Go.Proofs.Tryd.prog (zae N) := zq mixed z1z (FnsOk.cons (z9v N) (FnsOk.cons (z5h N) (FnsOk.cons (z1w N) (FnsOk.nil)))) (ItsOk.nil)

def z6v (N : Nat) (f : (Bool × ((List UInt8) × (Int × Unit)))) : Option (((List UInt8) × ((List UInt8) × Unit)) × ((Bool × ((List UInt8) × (Int × Unit))) × Unit)) :=
 (z12 N f).bind fun y =>
 cond (y.1 == (0 : Int))
 ((zn N y.2.1 (2048 : Int)).bind fun y1 =>
 some ((y1.1, (([] : List UInt8), ())), (y1.2.1, ())))
 (cond (y.1 == (1 : Int))
 ((zn N y.2.1 (4144 : Int)).bind fun y2 =>
 (zn N y2.2.1 (4144 : Int)).bind fun y3 =>
 cond (y3.1 == ([] : List UInt8))
 ((zk N y3.2.1 (2 : Int)).bind fun y4 =>
 some ((y2.1, (y3.1, ())), (y4.2.1, ())))
 (some ((y2.1, (y3.1, ())), (y3.2.1, ()))))
 ((zk N y.2.1 (2 : Int)).bind fun y5 =>
 some ((([] : List UInt8), (([] : List UInt8), ())), (y5.2.1, ()))))

def zg7 (N : Nat) : Tab (((List UInt8) × ((List UInt8) × Unit)) × ((Bool × ((List UInt8) × (Int × Unit))) × Unit)) := []

theorem zkg (N : Nat) (x : z2d [(0, .box (.pair .bool (.pair .str (.pair (.int .i64) .unit))))]) : zc6 (zae N) N (zg7 N) zg8 Go.Proofs.Tryd.f60 (mkS [(0, .box (.pair .bool (.pair .str (.pair (.int .i64) .unit))))] 0 x) (zdq (.v (.pair .str (.pair .str .unit))) [(0, .box (.pair .bool (.pair .str (.pair (.int .i64) .unit))))] 0) = z6v N x.1 := by kernel_rfl

def zd4 (N : Nat) : List A -> Res := z1t [(0, .box (.pair .bool (.pair .str (.pair (.int .i64) .unit))))] (fun x => z6v N x.1) (zh7 (.v (.pair .str (.pair .str .unit))) [(0, .box (.pair .bool (.pair .str (.pair (.int .i64) .unit))))] 0)

theorem znj (N : Nat) : Contract Go.Proofs.Tryd.prog zi 60 (zd4 N) :=
  Contract.of (E := zae N) (H := zg7 N) (L := zg8) (N := N) (body := zkh) (K := (zdq (.v (.pair .str (.pair .str .unit))) [(0, .box (.pair .bool (.pair .str (.pair (.int .i64) .unit))))] 0)) (zlv N) Go.Proofs.Tryd.func60 (by kernel_rfl) (by decide) (fun _ hb => TabOk.nil) (fun x y h => by rw [zkg]; exact h) (za0 (s := (.v (.pair .str (.pair .str .unit)))) (os := [(0, .box (.pair .bool (.pair .str (.pair (.int .i64) .unit))))]) (m := 0))

def zfr : Code := (Go.Proofs.Tryd.f45.body).getD .skip

def zb0 : List (List Nat × List Nat) := [([0], [0]), ([0, 0, 1], [4, 0]), ([1, 0, 1], [0]), ([0, 0, 1, 0, 1], [2, 0]), ([1, 0, 1, 0, 1], [2, 0]), ([0, 1, 1], [2, 0]), ([1, 1, 1], [2, 0])]

def z66 (N : Nat) : Env := z3q tys zi [] [] [] [0] false [] []

theorem zhe (N : Nat) : EnvOk Go.Proofs.Tryd.prog (z66 N) := zq mixed z1z (FnsOk.nil) (ItsOk.nil)

def zdw (N : Nat) (r_ : (Bool × ((List UInt8) × (Int × Unit)))) : Option (Int × ((Bool × ((List UInt8) × (Int × Unit))) × Unit)) :=
 some ((((List.length r_.2.1) : Nat) : Int), (r_, ()))

def zaz (N : Nat) : Tab (Int × ((Bool × ((List UInt8) × (Int × Unit))) × Unit)) := []

theorem zfq (N : Nat) (x : z2d [(0, .box (.pair .bool (.pair .str (.pair (.int .i64) .unit))))]) : zc6 (z66 N) N (zaz N) zb0 Go.Proofs.Tryd.f45 (mkS [(0, .box (.pair .bool (.pair .str (.pair (.int .i64) .unit))))] 0 x) (zdq (.v (.int .i64)) [(0, .box (.pair .bool (.pair .str (.pair (.int .i64) .unit))))] 0) = zdw N x.1 := by kernel_rfl

def z8t (N : Nat) : List A -> Res := z1t [(0, .box (.pair .bool (.pair .str (.pair (.int .i64) .unit))))] (fun x => zdw N x.1) (zh7 (.v (.int .i64)) [(0, .box (.pair .bool (.pair .str (.pair (.int .i64) .unit))))] 0)

theorem zim (N : Nat) : Contract Go.Proofs.Tryd.prog zi 45 (z8t N) :=
  Contract.of (E := z66 N) (H := zaz N) (L := zb0) (N := N) (body := zfr) (K := (zdq (.v (.int .i64)) [(0, .box (.pair .bool (.pair .str (.pair (.int .i64) .unit))))] 0)) (zhe N) Go.Proofs.Tryd.func45 (by kernel_rfl) (by decide) (fun _ hb => TabOk.nil) (fun x y h => by rw [zfq]; exact h) (za0 (s := (.v (.int .i64))) (os := [(0, .box (.pair .bool (.pair .str (.pair (.int .i64) .unit))))]) (m := 0))

def zbr : Code := (Go.Proofs.Tryd.f45.body).getD .skip

def z7b : List (List Nat × List Nat) := [([0], [0]), ([0, 0, 1], [4, 0]), ([1, 0, 1], [0]), ([0, 0, 1, 0, 1], [2]), ([1, 0, 1, 0, 1], [2]), ([0, 1, 1], [2]), ([1, 1, 1], [2])]

def z3s (N : Nat) : Env := z3q tys zi [] [] [] [] false [] []

theorem zcs (N : Nat) : EnvOk Go.Proofs.Tryd.prog (z3s N) := zq mixed z1z (FnsOk.nil) (ItsOk.nil)

def z4p (N : Nat) : Option Int :=
 some (0 : Int)

def z7a (N : Nat) : Tab Int := []

theorem zbq (N : Nat) (x : z2d [(0, .nilp)]) : zc6 (z3s N) N (z7a N) z7b Go.Proofs.Tryd.f45 (mkS [(0, .nilp)] 0 x) (z6u (.v (.int .i64)) 1) = z4p N := by kernel_rfl

def zcr (N : Nat) : List A -> Res := z1t [(0, .nilp)] (fun x => z4p N) (zev (.v (.int .i64)) 1)

theorem zdv (N : Nat) : Contract Go.Proofs.Tryd.prog zi 45 (zcr N) :=
  Contract.of (E := z3s N) (H := z7a N) (L := z7b) (N := N) (body := zbr) (K := (z6u (.v (.int .i64)) 1)) (zcs N) Go.Proofs.Tryd.func45 (by kernel_rfl) (by decide) (fun _ hb => TabOk.nil) (fun x y h => by rw [zbq]; exact h) (z1v (s := (.v (.int .i64))) (m := 1))

def z2z (N : Nat) : List A -> Res := zmw [(0, .nilp)] (fun x => z4p N) (zev (.v (.int .i64)) 1) (z8t N)

theorem z4o (N : Nat) : Contract Go.Proofs.Tryd.prog zi 45 (z2z N) := Contract.alt (zdv N) (zim N)

def z28 : Code := (Go.Proofs.Tryd.f46.body).getD .skip

def z4g : List (List Nat × List Nat) := [([0], [0]), ([0, 0, 1], [11, 0]), ([1, 0, 1], [0]), ([0, 0, 1, 0, 1], [2, 0]), ([1, 0, 1, 0, 1], [2, 0]), ([0, 1, 1], [2, 0]), ([1, 1, 1], [2, 0])]

def z2t (N : Nat) : Env := z3q tys zi [] [] [] [0] false [] []

theorem zir (N : Nat) : EnvOk Go.Proofs.Tryd.prog (z2t N) := zq mixed z1z (FnsOk.nil) (ItsOk.nil)

def zb2 (N : Nat) (r_ : (Bool × ((List UInt8) × (Int × Unit)))) (k0 : Bool -> Option (Int × ((Bool × ((List UInt8) × (Int × Unit))) × Unit))) : Option (Int × ((Bool × ((List UInt8) × (Int × Unit))) × Unit)) :=
 k0 (!r_.1)

def zb6 (N : Nat) (x : z2d [(0, .box (.pair .bool (.pair .str (.pair (.int .i64) .unit))))]) (K : Ex -> List A -> Option (Int × ((Bool × ((List UInt8) × (Int × Unit))) × Unit))) : Option (Int × ((Bool × ((List UInt8) × (Int × Unit))) × Unit)) :=
 zb2 N x.1 (fun a1 => (K .normal (mkS [(0, .box (.pair .bool (.pair .str (.pair (.int .i64) .unit)))), (10, .v .bool)] 4 (x.1, a1, ()))))

def zb4 (N : Nat) : Hd (Int × ((Bool × ((List UInt8) × (Int × Unit))) × Unit)) := fun st K => (unS [(0, .box (.pair .bool (.pair .str (.pair (.int .i64) .unit))))] 15 (restr [0] 0 st)).bind fun x => zb6 N x K

def zjw (N : Nat) : Tab (Int × ((Bool × ((List UInt8) × (Int × Unit))) × Unit)) := []

theorem zio {N : Nat} {c : Ctx} (hb : Base Go.Proofs.Tryd.prog (z2t N) c) : z16 Go.Proofs.Tryd.prog c (zl z28 [0, 0, 1]) (zb4 N) :=
  z1n (s := [(0, .box (.pair .bool (.pair .str (.pair (.int .i64) .unit))))]) (m := 15) (g := zb6 N) [0] (zh hb N (zjw N) z4g z28 TabOk.nil [0, 0, 1] _ rfl) (fun x K => by kernel_rfl)

def zb3 (N : Nat) (r_ : (Bool × ((List UInt8) × (Int × Unit)))) (k0 : Int -> Option (Int × ((Bool × ((List UInt8) × (Int × Unit))) × Unit))) (k1 : Option (Int × ((Bool × ((List UInt8) × (Int × Unit))) × Unit))) : Option (Int × ((Bool × ((List UInt8) × (Int × Unit))) × Unit)) :=
 zb2 N r_
 (fun x11 => cond x11
 (k0 (21 : Int))
 (k1))

def zb7 (N : Nat) (x : z2d [(0, .box (.pair .bool (.pair .str (.pair (.int .i64) .unit))))]) (K : Ex -> List A -> Option (Int × ((Bool × ((List UInt8) × (Int × Unit))) × Unit))) : Option (Int × ((Bool × ((List UInt8) × (Int × Unit))) × Unit)) :=
 zb3 N x.1 (fun a1 => (K .ret (mkS [(0, .box (.pair .bool (.pair .str (.pair (.int .i64) .unit)))), (1, .v (.int .i64))] 13 (x.1, a1, ())))) (K .normal (mkS [(0, .box (.pair .bool (.pair .str (.pair (.int .i64) .unit))))] 15 (x.1, ())))

def zb5 (N : Nat) : Hd (Int × ((Bool × ((List UInt8) × (Int × Unit))) × Unit)) := fun st K => (unS [(0, .box (.pair .bool (.pair .str (.pair (.int .i64) .unit))))] 15 (restr [0] 0 st)).bind fun x => zb7 N x K

def zjx (N : Nat) : Tab (Int × ((Bool × ((List UInt8) × (Int × Unit))) × Unit)) := [([0, 0, 1], zb4 N)]

theorem ziq {N : Nat} {c : Ctx} (hb : Base Go.Proofs.Tryd.prog (z2t N) c) : z16 Go.Proofs.Tryd.prog c (zl z28 [0, 1]) (zb5 N) :=
  z1n (s := [(0, .box (.pair .bool (.pair .str (.pair (.int .i64) .unit))))]) (m := 15) (g := zb7 N) [0] (zh hb N (zjx N) z4g z28 (TabOk.cons (zio hb) TabOk.nil) [0, 1] _ rfl) (fun x K => by kernel_rfl)

def z61 (N : Nat) (r_ : (Bool × ((List UInt8) × (Int × Unit)))) : Option (Int × ((Bool × ((List UInt8) × (Int × Unit))) × Unit)) :=
 zb3 N r_
 (fun x2 => some (x2, (r_, ())))
 (some (r_.2.2.1, (r_, ())))

def zc3 (N : Nat) : Tab (Int × ((Bool × ((List UInt8) × (Int × Unit))) × Unit)) := [([0, 1], zb5 N)]

theorem zhh (N : Nat) (x : z2d [(0, .box (.pair .bool (.pair .str (.pair (.int .i64) .unit))))]) : zc6 (z2t N) N (zc3 N) z4g Go.Proofs.Tryd.f46 (mkS [(0, .box (.pair .bool (.pair .str (.pair (.int .i64) .unit))))] 0 x) (zdq (.v (.int .i64)) [(0, .box (.pair .bool (.pair .str (.pair (.int .i64) .unit))))] 0) = z61 N x.1 := by kernel_rfl

def z9t (N : Nat) : List A -> Res := z1t [(0, .box (.pair .bool (.pair .str (.pair (.int .i64) .unit))))] (fun x => z61 N x.1) (zh7 (.v (.int .i64)) [(0, .box (.pair .bool (.pair .str (.pair (.int .i64) .unit))))] 0)

theorem zjy (N : Nat) : Contract Go.Proofs.Tryd.prog zi 46 (z9t N) :=
  Contract.of (E := z2t N) (H := zc3 N) (L := z4g) (N := N) (body := z28) (K := (zdq (.v (.int .i64)) [(0, .box (.pair .bool (.pair .str (.pair (.int .i64) .unit))))] 0)) (zir N) Go.Proofs.Tryd.func46 (by kernel_rfl) (by decide) (fun _ hb => (TabOk.cons (ziq hb) TabOk.nil)) (fun x y h => by rw [zhh]; exact h) (za0 (s := (.v (.int .i64))) (os := [(0, .box (.pair .bool (.pair .str (.pair (.int .i64) .unit))))]) (m := 0))

def z1l : Code := (Go.Proofs.Tryd.f46.body).getD .skip

def z2m : List (List Nat × List Nat) := [([0], [0]), ([0, 0, 1], [11, 0]), ([1, 0, 1], [0]), ([0, 0, 1, 0, 1], [2]), ([1, 0, 1, 0, 1], [2]), ([0, 1, 1], [2]), ([1, 1, 1], [2])]

def z24 (N : Nat) : Env := z3q tys zi [] [] [] [] false [] []

theorem ze2 (N : Nat) : EnvOk Go.Proofs.Tryd.prog (z24 N) := zq mixed z1z (FnsOk.nil) (ItsOk.nil)

def z7d (N : Nat) (k0 : Bool -> Option Int) : Option Int :=
 k0 true

def z7h (N : Nat) (x : z2d [(0, .nilp)]) (K : Ex -> List A -> Option Int) : Option Int :=
 z7d N (fun a0 => (K .normal (mkS [(0, .nilp), (10, .v .bool)] 4 ((), a0, ()))))

def z7f (N : Nat) : Hd Int := fun st K => (unS [(0, .nilp)] 15 (restr [0] 0 st)).bind fun x => z7h N x K

def zf9 (N : Nat) : Tab Int := []

theorem ze0 {N : Nat} {c : Ctx} (hb : Base Go.Proofs.Tryd.prog (z24 N) c) : z16 Go.Proofs.Tryd.prog c (zl z1l [0, 0, 1]) (z7f N) :=
  z1n (s := [(0, .nilp)]) (m := 15) (g := z7h N) [0] (zh hb N (zf9 N) z2m z1l TabOk.nil [0, 0, 1] _ rfl) (fun x K => by kernel_rfl)

def z7e (N : Nat) (k0 : Int -> Option Int) (k1 : Option Int) : Option Int :=
 z7d N
 (fun x11 => cond x11
 (k0 (21 : Int))
 (k1))

def z7i (N : Nat) (x : z2d [(0, .nilp)]) (K : Ex -> List A -> Option Int) : Option Int :=
 z7e N (fun a0 => (K .ret (mkS [(2, .v (.int .i64))] 13 (a0, ())))) (K .normal (mkS [(0, .nilp)] 15 ((), ())))

def z7g (N : Nat) : Hd Int := fun st K => (unS [(0, .nilp)] 15 (restr [0] 0 st)).bind fun x => z7i N x K

def zfa (N : Nat) : Tab Int := [([0, 0, 1], z7f N)]

theorem ze1 {N : Nat} {c : Ctx} (hb : Base Go.Proofs.Tryd.prog (z24 N) c) : z16 Go.Proofs.Tryd.prog c (zl z1l [0, 1]) (z7g N) :=
  z1n (s := [(0, .nilp)]) (m := 15) (g := z7i N) [0] (zh hb N (zfa N) z2m z1l (TabOk.cons (ze0 hb) TabOk.nil) [0, 1] _ rfl) (fun x K => by kernel_rfl)

def z5j (N : Nat) : Option Int :=
 z7e N
 (fun x2 => some x2)
 (none)

def z7x (N : Nat) : Tab Int := [([0, 1], z7g N)]

theorem zcw (N : Nat) (x : z2d [(0, .nilp)]) : zc6 (z24 N) N (z7x N) z2m Go.Proofs.Tryd.f46 (mkS [(0, .nilp)] 0 x) (z6u (.v (.int .i64)) 1) = z5j N := by kernel_rfl

def zdz (N : Nat) : List A -> Res := z1t [(0, .nilp)] (fun x => z5j N) (zev (.v (.int .i64)) 1)

theorem zfb (N : Nat) : Contract Go.Proofs.Tryd.prog zi 46 (zdz N) :=
  Contract.of (E := z24 N) (H := z7x N) (L := z2m) (N := N) (body := z1l) (K := (z6u (.v (.int .i64)) 1)) (ze2 N) Go.Proofs.Tryd.func46 (by kernel_rfl) (by decide) (fun _ hb => (TabOk.cons (ze1 hb) TabOk.nil)) (fun x y h => by rw [zcw]; exact h) (z1v (s := (.v (.int .i64))) (m := 1))

def z3d (N : Nat) : List A -> Res := zmw [(0, .nilp)] (fun x => z5j N) (zev (.v (.int .i64)) 1) (z9t N)

theorem z53 (N : Nat) : Contract Go.Proofs.Tryd.prog zi 46 (z3d N) := Contract.alt (zfb N) (zjy N)

def z4r : Code := (Go.Proofs.Tryd.f25.body).getD .skip

def z7m : List (List Nat × List Nat) := [([0], [0]), ([0, 0, 1], [5, 0]), ([1, 0, 1], [0]), ([0, 1, 0, 1], [0]), ([0, 1, 1], [2, 0]), ([1, 1, 1], [2, 0])]

def z4h (N : Nat) : Env := z3q tys zi [(46, z3d N), (45, z2z N), (40, z1k N)] [] [] [0] false [] []

theorem zit (N : Nat) : EnvOk Go.Proofs.Tryd.prog (z4h N) := zq mixed z1z (FnsOk.cons (z53 N) (FnsOk.cons (z4o N) (FnsOk.cons (z1w N) (FnsOk.nil)))) (ItsOk.nil)

def z3v (N : Nat) (r_ : (Bool × ((List UInt8) × (Int × Unit)))) (k0 : (Bool × ((List UInt8) × (Int × Unit))) -> Option (Int × ((Bool × ((List UInt8) × (Int × Unit))) × Unit))) : Option (Int × ((Bool × ((List UInt8) × (Int × Unit))) × Unit)) :=
 cond (decide ((0 : Int) < (((List.length r_.2.1) : Nat) : Int)))
 ((zk N r_ (2 : Int)).bind fun y =>
 k0 y.2.1)
 (k0 r_)

def zb9 (N : Nat) (x : z2d [(0, .box (.pair .bool (.pair .str (.pair (.int .i64) .unit))))]) (K : Ex -> List A -> Option (Int × ((Bool × ((List UInt8) × (Int × Unit))) × Unit))) : Option (Int × ((Bool × ((List UInt8) × (Int × Unit))) × Unit)) :=
 z3v N x.1 (fun a0 => (K .normal (mkS [(0, .box (.pair .bool (.pair .str (.pair (.int .i64) .unit))))] 9 (a0, ()))))

def zb8 (N : Nat) : Hd (Int × ((Bool × ((List UInt8) × (Int × Unit))) × Unit)) := fun st K => (unS [(0, .box (.pair .bool (.pair .str (.pair (.int .i64) .unit))))] 9 (restr [0] 0 st)).bind fun x => zb9 N x K

def zjz (N : Nat) : Tab (Int × ((Bool × ((List UInt8) × (Int × Unit))) × Unit)) := []

theorem zis {N : Nat} {c : Ctx} (hb : Base Go.Proofs.Tryd.prog (z4h N) c) : z16 Go.Proofs.Tryd.prog c (zl z4r [0, 1]) (zb8 N) :=
  z1n (s := [(0, .box (.pair .bool (.pair .str (.pair (.int .i64) .unit))))]) (m := 9) (g := zb9 N) [0] (zh hb N (zjz N) z7m z4r TabOk.nil [0, 1] _ rfl) (fun x K => by kernel_rfl)

def z2c (N : Nat) (r_ : (Bool × ((List UInt8) × (Int × Unit)))) : Option (Int × ((Bool × ((List UInt8) × (Int × Unit))) × Unit)) :=
 z3v N r_
 (fun r_1 => (z61 N r_1).bind fun y =>
 some (y.1, (y.2.1, ())))

def zc4 (N : Nat) : Tab (Int × ((Bool × ((List UInt8) × (Int × Unit))) × Unit)) := [([0, 1], zb8 N)]

theorem zhi (N : Nat) (x : z2d [(0, .box (.pair .bool (.pair .str (.pair (.int .i64) .unit))))]) : zc6 (z4h N) N (zc4 N) z7m Go.Proofs.Tryd.f25 (mkS [(0, .box (.pair .bool (.pair .str (.pair (.int .i64) .unit))))] 0 x) (zdq (.v (.int .i64)) [(0, .box (.pair .bool (.pair .str (.pair (.int .i64) .unit))))] 0) = z2c N x.1 := by kernel_rfl

def z9u (N : Nat) : List A -> Res := z1t [(0, .box (.pair .bool (.pair .str (.pair (.int .i64) .unit))))] (fun x => z2c N x.1) (zh7 (.v (.int .i64)) [(0, .box (.pair .bool (.pair .str (.pair (.int .i64) .unit))))] 0)

theorem zk0 (N : Nat) : Contract Go.Proofs.Tryd.prog zi 25 (z9u N) :=
  Contract.of (E := z4h N) (H := zc4 N) (L := z7m) (N := N) (body := z4r) (K := (zdq (.v (.int .i64)) [(0, .box (.pair .bool (.pair .str (.pair (.int .i64) .unit))))] 0)) (zit N) Go.Proofs.Tryd.func25 (by kernel_rfl) (by decide) (fun _ hb => (TabOk.cons (zis hb) TabOk.nil)) (fun x y h => by rw [zhi]; exact h) (za0 (s := (.v (.int .i64))) (os := [(0, .box (.pair .bool (.pair .str (.pair (.int .i64) .unit))))]) (m := 0))

def z30 : Code := (Go.Proofs.Tryd.f25.body).getD .skip

def z4e : List (List Nat × List Nat) := [([0], [0]), ([0, 0, 1], [5, 0]), ([1, 0, 1], [0]), ([0, 1, 0, 1], [0]), ([0, 1, 1], [2]), ([1, 1, 1], [2])]

def z2n (N : Nat) : Env := z3q tys zi [(46, z3d N), (45, z2z N), (40, z1k N)] [] [] [] false [] []

theorem ze5 (N : Nat) : EnvOk Go.Proofs.Tryd.prog (z2n N) := zq mixed z1z (FnsOk.cons (z53 N) (FnsOk.cons (z4o N) (FnsOk.cons (z1w N) (FnsOk.nil)))) (ItsOk.nil)

def z7j (N : Nat) (k0 : Option Int) : Option Int :=
 k0

def z7l (N : Nat) (x : z2d [(0, .nilp)]) (K : Ex -> List A -> Option Int) : Option Int :=
 z7j N (K .normal (mkS [(0, .nilp)] 9 ((), ())))

def z7k (N : Nat) : Hd Int := fun st K => (unS [(0, .nilp)] 9 (restr [0] 0 st)).bind fun x => z7l N x K

def zfc (N : Nat) : Tab Int := []

theorem ze4 {N : Nat} {c : Ctx} (hb : Base Go.Proofs.Tryd.prog (z2n N) c) : z16 Go.Proofs.Tryd.prog c (zl z30 [0, 1]) (z7k N) :=
  z1n (s := [(0, .nilp)]) (m := 9) (g := z7l N) [0] (zh hb N (zfc N) z4e z30 TabOk.nil [0, 1] _ rfl) (fun x K => by kernel_rfl)

def z5k (N : Nat) : Option Int :=
 z7j N
 (some (21 : Int))

def z7y (N : Nat) : Tab Int := [([0, 1], z7k N)]

theorem zcx (N : Nat) (x : z2d [(0, .nilp)]) : zc6 (z2n N) N (z7y N) z4e Go.Proofs.Tryd.f25 (mkS [(0, .nilp)] 0 x) (z6u (.v (.int .i64)) 1) = z5k N := by kernel_rfl

def ze3 (N : Nat) : List A -> Res := z1t [(0, .nilp)] (fun x => z5k N) (zev (.v (.int .i64)) 1)

theorem zfd (N : Nat) : Contract Go.Proofs.Tryd.prog zi 25 (ze3 N) :=
  Contract.of (E := z2n N) (H := z7y N) (L := z4e) (N := N) (body := z30) (K := (z6u (.v (.int .i64)) 1)) (ze5 N) Go.Proofs.Tryd.func25 (by kernel_rfl) (by decide) (fun _ hb => (TabOk.cons (ze4 hb) TabOk.nil)) (fun x y h => by rw [zcx]; exact h) (z1v (s := (.v (.int .i64))) (m := 1))

def z3e (N : Nat) : List A -> Res := zmw [(0, .nilp)] (fun x => z5k N) (zev (.v (.int .i64)) 1) (z9u N)

theorem z54 (N : Nat) : Contract Go.Proofs.Tryd.prog zi 25 (z3e N) := Contract.alt (zfd N) (zk0 N)

def z5n : Code := (Go.Proofs.Tryd.f38.body).getD .skip

def zei : List (List Nat × List Nat) := [([0], [0, 2]), ([0, 1], [4, 2]), ([0, 1, 1], [4, 5, 2]), ([0, 0, 1, 1, 1], [16, 15, 5, 4, 2]), ([0, 1, 0, 1, 1, 1], [16, 15, 5, 4, 2]), ([0, 0, 0, 1, 0, 1, 1, 1], [17, 5, 4, 16, 15, 2]), ([0, 1, 0, 0, 1, 0, 1, 1, 1], [5, 4, 16, 15, 2]), ([1, 0, 1, 0, 0, 1, 0, 1, 1, 1], [4, 5, 2]), ([0, 0, 1, 1, 0, 0, 1, 0, 1, 1, 1], [16, 15, 5, 4, 2]), ([0, 1, 1, 0, 0, 1, 0, 1, 1, 1], [16, 15, 5, 4, 2]), ([1, 1, 1, 0, 0, 1, 0, 1, 1, 1], [16, 15, 5, 4, 2]), ([1, 0, 1, 1, 1], [4, 5, 2]), ([0, 1, 1, 1, 1], [6, 4, 5, 2]), ([0, 0, 1, 1, 1, 1, 1], [29, 28, 6, 4, 5, 2]), ([0, 1, 0, 1, 1, 1, 1, 1], [29, 28, 6, 4, 5, 2]), ([0, 0, 0, 1, 0, 1, 1, 1, 1, 1], [30, 29, 6, 4, 28, 5, 2]), ([0, 1, 0, 0, 1, 0, 1, 1, 1, 1, 1], [29, 6, 4, 28, 5, 2]), ([1, 0, 1, 0, 0, 1, 0, 1, 1, 1, 1, 1], [6, 5, 4, 2]), ([0, 0, 0, 1, 1, 0, 0, 1, 0, 1, 1, 1, 1, 1], [6, 7, 4, 29, 28, 5, 2]), ([1, 0, 0, 1, 1, 0, 0, 1, 0, 1, 1, 1, 1, 1], [29, 28, 6, 4, 5, 2]), ([0, 1, 1, 0, 0, 1, 0, 1, 1, 1, 1, 1], [29, 28, 6, 4, 5, 2]), ([1, 1, 1, 0, 0, 1, 0, 1, 1, 1, 1, 1], [29, 28, 6, 4, 5, 2]), ([1, 0, 1, 1, 1, 1, 1], [6, 5, 4, 2]), ([0, 1, 1, 1, 1, 1, 1], [4, 2, 5]), ([0, 0, 1, 1, 1, 1, 1, 1, 1], [8, 2, 5]), ([0, 1, 0, 1, 1, 1, 1, 1, 1, 1], [44, 8, 2, 5]), ([1, 1, 0, 1, 1, 1, 1, 1, 1, 1], [5, 2]), ([0, 0, 1, 1, 0, 1, 1, 1, 1, 1, 1, 1], [2, 3]), ([1, 0, 1, 1, 0, 1, 1, 1, 1, 1, 1, 1], [2, 3]), ([0, 1, 1, 1, 1, 1, 1, 1, 1], [2, 3]), ([1, 1, 1, 1, 1, 1, 1, 1, 1], [2, 3])]

def zai (N : Nat) : Env := z3q tys zi [(25, z3e N), (60, zd4 N), (61, z4s N), (24, z5i N), (39, z2s N), (22, zfe N)] [(6, (.int .u8))] [] [] false [(13, (.pair .str (.pair (.own (.pair .str (.pair .str .unit))) (.pair .str .unit)))), (5, (.pair .str (.pair (.own (.pair .str (.pair .str .unit))) (.pair .str .unit))))] []

theorem zsd (N : Nat) : EnvOk Go.Proofs.Tryd.prog (zai N) := zq mixed z1z (FnsOk.cons (z54 N) (FnsOk.cons (znj N) (FnsOk.cons (z9v N) (FnsOk.cons (zay N) (FnsOk.cons (z5h N) (FnsOk.cons (zn5 N) (FnsOk.nil))))))) (ItsOk.nil)

def zge (N : Nat) (x2 : ((List UInt8) × ((List ((List UInt8) × ((List UInt8) × Unit))) × ((List UInt8) × Unit)))) (x15 : Int) (f : (Bool × ((List UInt8) × (Int × Unit)))) (t : ((List UInt8) × ((List ((List UInt8) × ((List UInt8) × Unit))) × ((List UInt8) × Unit)))) (x16 : Int) (rec : (Bool × ((List UInt8) × (Int × Unit))) -> ((List UInt8) × ((List ((List UInt8) × ((List UInt8) × Unit))) × ((List UInt8) × Unit))) -> Int -> Option (((List UInt8) × ((List ((List UInt8) × ((List UInt8) × Unit))) × ((List UInt8) × Unit))) × Int × Unit)) (k0 : (Bool × ((List UInt8) × (Int × Unit))) -> ((List UInt8) × ((List ((List UInt8) × ((List UInt8) × Unit))) × ((List UInt8) × Unit))) -> Option (((List UInt8) × ((List ((List UInt8) × ((List UInt8) × Unit))) × ((List UInt8) × Unit))) × Int × Unit)) : Option (((List UInt8) × ((List ((List UInt8) × ((List UInt8) × Unit))) × ((List UInt8) × Unit))) × Int × Unit) :=
 cond (decide (x16 < x15))
 ((z6v N f).bind fun y =>
 cond (decide ((((List.length t.2.1) + 1) * 32) <= 70368744177664))
 (rec y.2.1 (t.1, ((t.2.1 ++ ([y.1] : List ((List UInt8) × ((List UInt8) × Unit)))), t.2.2)) (Go.IntKind.wrap Go.IntKind.u64 (x16 + (1 : Int))))
 (none))
 (k0 f t)

def zgg (N : Nat) (x2 : ((List UInt8) × ((List ((List UInt8) × ((List UInt8) × Unit))) × ((List UInt8) × Unit)))) (f : (Bool × ((List UInt8) × (Int × Unit)))) (t : ((List UInt8) × ((List ((List UInt8) × ((List UInt8) × Unit))) × ((List UInt8) × Unit)))) (x15 : Int) (x16 : Int) (k0 : (Bool × ((List UInt8) × (Int × Unit))) -> ((List UInt8) × ((List ((List UInt8) × ((List UInt8) × Unit))) × ((List UInt8) × Unit))) -> Option (((List UInt8) × ((List ((List UInt8) × ((List UInt8) × Unit))) × ((List UInt8) × Unit))) × Int × Unit)) : Option (((List UInt8) × ((List ((List UInt8) × ((List UInt8) × Unit))) × ((List UInt8) × Unit))) × Int × Unit) :=
 iter (fun (v : ((Bool × ((List UInt8) × (Int × Unit))) × ((List UInt8) × ((List ((List UInt8) × ((List UInt8) × Unit))) × ((List UInt8) × Unit))) × Int)) r => zge N x2 x15 v.1 v.2.1 v.2.2 (fun f t x16 => (r (f, t, x16))) k0) N (f, t, x16)

def zms (N : Nat) (i : (((List UInt8) × ((List ((List UInt8) × ((List UInt8) × Unit))) × ((List UInt8) × Unit))) × Int)) (v : ((Bool × ((List UInt8) × (Int × Unit))) × ((List UInt8) × ((List ((List UInt8) × ((List UInt8) × Unit))) × ((List UInt8) × Unit))) × Int)) (r : ((Bool × ((List UInt8) × (Int × Unit))) × ((List UInt8) × ((List ((List UInt8) × ((List UInt8) × Unit))) × ((List UInt8) × Unit))) × Int) -> Option (((List UInt8) × ((List ((List UInt8) × ((List UInt8) × Unit))) × ((List UInt8) × Unit))) × Int × Unit)) (K : Ex -> List A -> Option (((List UInt8) × ((List ((List UInt8) × ((List UInt8) × Unit))) × ((List UInt8) × Unit))) × Int × Unit)) : Option (((List UInt8) × ((List ((List UInt8) × ((List UInt8) × Unit))) × ((List UInt8) × Unit))) × Int × Unit) :=
 zge N i.1 i.2 v.1 v.2.1 v.2.2 (fun f t x16 => (r (f, t, x16))) (fun a1 a2 => (K (.exit 0) (mkS [(2, .box (.pair .str (.pair (.sl (.pair .str (.pair .str .unit))) (.pair .str .unit)))), (1, .box (.pair .bool (.pair .str (.pair (.int .i64) .unit)))), (0, .box (.pair .str (.pair (.own (.pair .str (.pair .str .unit))) (.pair .str .unit))))] 42 (i.1, a1, a2, ()))))

def zmq (N : Nat) : Hd (((List UInt8) × ((List ((List UInt8) × ((List UInt8) × Unit))) × ((List UInt8) × Unit))) × Int × Unit) := fun st K => (unS [(2, .box (.pair .str (.pair (.sl (.pair .str (.pair .str .unit))) (.pair .str .unit)))), (1, .box (.pair .bool (.pair .str (.pair (.int .i64) .unit)))), (0, .box (.pair .str (.pair (.own (.pair .str (.pair .str .unit))) (.pair .str .unit)))), (9, .v (.int .u64)), (0, .v (.int .u64))] 31 (restr [16, 15, 5, 4, 2] 0 st)).bind fun x => iter (fun v r => zms N ((fun x => (x.1, x.2.2.2.1)) x) v r K) N ((fun x => (x.2.1, x.2.2.1, x.2.2.2.2.1)) x)

def zto (N : Nat) : Tab (((List UInt8) × ((List ((List UInt8) × ((List UInt8) × Unit))) × ((List UInt8) × Unit))) × Int × Unit) := []

theorem zsc {N : Nat} {c : Ctx} (hb : Base Go.Proofs.Tryd.prog (zai N) c) : z16 Go.Proofs.Tryd.prog c (zl z5n [0, 1, 0, 1, 1, 1]) (zmq N) :=
  z88 (s := [(2, .box (.pair .str (.pair (.sl (.pair .str (.pair .str .unit))) (.pair .str .unit)))), (1, .box (.pair .bool (.pair .str (.pair (.int .i64) .unit)))), (0, .box (.pair .str (.pair (.own (.pair .str (.pair .str .unit))) (.pair .str .unit)))), (9, .v (.int .u64)), (0, .v (.int .u64))]) (m := 31) (zms N) [16, 15, 5, 4, 2] N (fun x => (x.1, x.2.2.2.1)) (fun x => (x.2.1, x.2.2.1, x.2.2.2.2.1)) (fun i v => (i.1, v.1, v.2.1, i.2, v.2.2, ())) (fun _ => rfl) (zh hb N (zto N) zei z5n TabOk.nil [0, 0, 1, 0, 1, 1, 1] _ rfl) (fun i v r K => by kernel_rfl)

def zgd (N : Nat) (x2 : ((List UInt8) × ((List ((List UInt8) × ((List UInt8) × Unit))) × ((List UInt8) × Unit)))) (t : ((List UInt8) × ((List ((List UInt8) × ((List UInt8) × Unit))) × ((List UInt8) × Unit)))) (x28 : Int) (f : (Bool × ((List UInt8) × (Int × Unit)))) (tag : (List Int)) (x29 : Int) (rec : (Bool × ((List UInt8) × (Int × Unit))) -> (List Int) -> Int -> Option (((List UInt8) × ((List ((List UInt8) × ((List UInt8) × Unit))) × ((List UInt8) × Unit))) × Int × Unit)) (k0 : (Bool × ((List UInt8) × (Int × Unit))) -> (List Int) -> Option (((List UInt8) × ((List ((List UInt8) × ((List UInt8) × Unit))) × ((List UInt8) × Unit))) × Int × Unit)) : Option (((List UInt8) × ((List ((List UInt8) × ((List UInt8) × Unit))) × ((List UInt8) × Unit))) × Int × Unit) :=
 cond (decide (x29 < x28))
 ((z12 N f).bind fun y =>
 cond (Go.Lift.inR x29 (List.length tag))
 (cond (decide ((Int.toNat x29) < (List.length tag)))
 (rec y.2.1 (List.set tag (Int.toNat x29) y.1) (Go.IntKind.wrap Go.IntKind.i64 (x29 + (1 : Int))))
 (none))
 (none))
 (k0 f tag)

def zgf (N : Nat) (x2 : ((List UInt8) × ((List ((List UInt8) × ((List UInt8) × Unit))) × ((List UInt8) × Unit)))) (f : (Bool × ((List UInt8) × (Int × Unit)))) (t : ((List UInt8) × ((List ((List UInt8) × ((List UInt8) × Unit))) × ((List UInt8) × Unit)))) (tag : (List Int)) (x28 : Int) (x29 : Int) (k0 : (Bool × ((List UInt8) × (Int × Unit))) -> (List Int) -> Option (((List UInt8) × ((List ((List UInt8) × ((List UInt8) × Unit))) × ((List UInt8) × Unit))) × Int × Unit)) : Option (((List UInt8) × ((List ((List UInt8) × ((List UInt8) × Unit))) × ((List UInt8) × Unit))) × Int × Unit) :=
 iter (fun (v : ((Bool × ((List UInt8) × (Int × Unit))) × (List Int) × Int)) r => zgd N x2 t x28 v.1 v.2.1 v.2.2 (fun f tag x29 => (r (f, tag, x29))) k0) N (f, tag, x29)

def zmr (N : Nat) (i : (((List UInt8) × ((List ((List UInt8) × ((List UInt8) × Unit))) × ((List UInt8) × Unit))) × ((List UInt8) × ((List ((List UInt8) × ((List UInt8) × Unit))) × ((List UInt8) × Unit))) × Int)) (v : ((Bool × ((List UInt8) × (Int × Unit))) × (List Int) × Int)) (r : ((Bool × ((List UInt8) × (Int × Unit))) × (List Int) × Int) -> Option (((List UInt8) × ((List ((List UInt8) × ((List UInt8) × Unit))) × ((List UInt8) × Unit))) × Int × Unit)) (K : Ex -> List A -> Option (((List UInt8) × ((List ((List UInt8) × ((List UInt8) × Unit))) × ((List UInt8) × Unit))) × Int × Unit)) : Option (((List UInt8) × ((List ((List UInt8) × ((List UInt8) × Unit))) × ((List UInt8) × Unit))) × Int × Unit) :=
 zgd N i.1 i.2.1 i.2.2 v.1 v.2.1 v.2.2 (fun f tag x29 => (r (f, tag, x29))) (fun a1 a3 => (K (.exit 2) (mkS [(2, .box (.pair .str (.pair (.sl (.pair .str (.pair .str .unit))) (.pair .str .unit)))), (1, .box (.pair .bool (.pair .str (.pair (.int .i64) .unit)))), (0, .box (.pair .str (.pair (.own (.pair .str (.pair .str .unit))) (.pair .str .unit)))), (0, .row (.int .u8))] 41 (i.1, a1, i.2.1, a3, ()))))

def zmp (N : Nat) : Hd (((List UInt8) × ((List ((List UInt8) × ((List UInt8) × Unit))) × ((List UInt8) × Unit))) × Int × Unit) := fun st K => (unS [(2, .box (.pair .str (.pair (.sl (.pair .str (.pair .str .unit))) (.pair .str .unit)))), (1, .box (.pair .bool (.pair .str (.pair (.int .i64) .unit)))), (0, .box (.pair .str (.pair (.own (.pair .str (.pair .str .unit))) (.pair .str .unit)))), (0, .row (.int .u8)), (21, .v (.int .i64)), (0, .v (.int .i64))] 18 (restr [29, 28, 6, 4, 5, 2] 0 st)).bind fun x => iter (fun v r => zmr N ((fun x => (x.1, x.2.2.1, x.2.2.2.2.1)) x) v r K) N ((fun x => (x.2.1, x.2.2.2.1, x.2.2.2.2.2.1)) x)

def ztn (N : Nat) : Tab (((List UInt8) × ((List ((List UInt8) × ((List UInt8) × Unit))) × ((List UInt8) × Unit))) × Int × Unit) := []

theorem zsb {N : Nat} {c : Ctx} (hb : Base Go.Proofs.Tryd.prog (zai N) c) : z16 Go.Proofs.Tryd.prog c (zl z5n [0, 1, 0, 1, 1, 1, 1, 1]) (zmp N) :=
  z88 (s := [(2, .box (.pair .str (.pair (.sl (.pair .str (.pair .str .unit))) (.pair .str .unit)))), (1, .box (.pair .bool (.pair .str (.pair (.int .i64) .unit)))), (0, .box (.pair .str (.pair (.own (.pair .str (.pair .str .unit))) (.pair .str .unit)))), (0, .row (.int .u8)), (21, .v (.int .i64)), (0, .v (.int .i64))]) (m := 18) (zmr N) [29, 28, 6, 4, 5, 2] N (fun x => (x.1, x.2.2.1, x.2.2.2.2.1)) (fun x => (x.2.1, x.2.2.2.1, x.2.2.2.2.2.1)) (fun i v => (i.1, v.1, i.2.1, v.2.1, i.2.2, v.2.2, ())) (fun _ => rfl) (zh hb N (ztn N) zei z5n TabOk.nil [0, 0, 1, 0, 1, 1, 1, 1, 1] _ rfl) (fun i v r K => by kernel_rfl)

def zgh (N : Nat) (s : (List UInt8)) : Option (((List UInt8) × ((List ((List UInt8) × ((List UInt8) × Unit))) × ((List UInt8) × Unit))) × Int × Unit) :=
 (zn N (true, (s, ((0 : Int), ()))) (4144 : Int)).bind fun y =>
 (z21 N y.2.1 (64 : Int)).bind fun y1 =>
 zgg N (([] : List UInt8), (([] : List ((List UInt8) × ((List UInt8) × Unit))), (([] : List UInt8), ()))) y1.2.1 (y.1, (([] : List ((List UInt8) × ((List UInt8) × Unit))), (([] : List UInt8), ()))) y1.1 (0 : Int)
 (fun f t => zgf N (([] : List UInt8), (([] : List ((List UInt8) × ((List UInt8) × Unit))), (([] : List UInt8), ()))) f t (List.replicate 32 (0 : Int)) (((List.length (List.replicate 32 (0 : Int))) : Nat) : Int) (0 : Int)
 (fun f1 tag => (z2c N f1).bind fun y2 =>
 cond (y2.1 != (0 : Int))
 (some ((([] : List UInt8), (([] : List ((List UInt8) × ((List UInt8) × Unit))), (([] : List UInt8), ()))), (y2.1, ())))
 (some ((t.1, (t.2.1, ((Go.Lift.toStr tag), t.2.2.2))), ((0 : Int), ())))))

def zog (N : Nat) : Tab (((List UInt8) × ((List ((List UInt8) × ((List UInt8) × Unit))) × ((List UInt8) × Unit))) × Int × Unit) := [([0, 1, 0, 1, 1, 1], zmq N), ([0, 1, 0, 1, 1, 1, 1, 1], zmp N)]

theorem zql (N : Nat) (x : z2d [(0, .v .str)]) : zc6 (zai N) N (zog N) zei Go.Proofs.Tryd.f38 (mkS [(0, .v .str)] 0 x) (z6u (.tup [(.pair .str (.pair (.sl (.pair .str (.pair .str .unit))) (.pair .str .unit))), (.int .i64)]) 1) = zgh N x.1 := by kernel_rfl

def zkp (N : Nat) : List A -> Res := z1t [(0, .v .str)] (fun x => zgh N x.1) (zev (.tup [(.pair .str (.pair (.sl (.pair .str (.pair .str .unit))) (.pair .str .unit))), (.int .i64)]) 1)

theorem ztp (N : Nat) : Contract Go.Proofs.Tryd.prog zi 38 (zkp N) :=
  Contract.of (E := zai N) (H := zog N) (L := zei) (N := N) (body := z5n) (K := (z6u (.tup [(.pair .str (.pair (.sl (.pair .str (.pair .str .unit))) (.pair .str .unit))), (.int .i64)]) 1)) (zsd N) Go.Proofs.Tryd.func38 (by kernel_rfl) (by decide) (fun _ hb => (TabOk.cons (zsc hb) (TabOk.cons (zsb hb) TabOk.nil))) (fun x y h => by rw [zql]; exact h) (z1v (s := (.tup [(.pair .str (.pair (.sl (.pair .str (.pair .str .unit))) (.pair .str .unit))), (.int .i64)])) (m := 1))

def ziv : Code := (Go.Proofs.Tryd.f23.body).getD .skip

def ze9 : List (List Nat × List Nat) := [([0], [0, 2]), ([0, 1], [0, 4, 3, 2]), ([0, 1, 1], [3, 2, 0]), ([0, 1, 1, 1], [2, 0]), ([1, 1, 1, 1], [2, 0])]

def z8c (N : Nat) : Env := z3q tys zi [(38, zkp N), (39, z2s N), (40, z1k N)] [] [] [0] false [] []

theorem zk5 (N : Nat) : EnvOk Go.Proofs.Tryd.prog (z8c N) := zq mixed z1z (FnsOk.cons (ztp N) (FnsOk.cons (z5h N) (FnsOk.cons (z1w N) (FnsOk.nil)))) (ItsOk.nil)

def z3h (N : Nat) (f : (Bool × ((List UInt8) × (Int × Unit)))) : Option (((List UInt8) × ((List ((List UInt8) × ((List UInt8) × Unit))) × ((List UInt8) × Unit))) × ((Bool × ((List UInt8) × (Int × Unit))) × Unit)) :=
 (zn N f (65536 : Int)).bind fun y =>
 (zgh N y.1).bind fun y1 =>
 (zk N y.2.1 y1.2.1).bind fun y2 =>
 some (y1.1, (y2.2.1, ()))

def ze8 (N : Nat) : Tab (((List UInt8) × ((List ((List UInt8) × ((List UInt8) × Unit))) × ((List UInt8) × Unit))) × ((Bool × ((List UInt8) × (Int × Unit))) × Unit)) := []

theorem ziu (N : Nat) (x : z2d [(0, .box (.pair .bool (.pair .str (.pair (.int .i64) .unit))))]) : zc6 (z8c N) N (ze8 N) ze9 Go.Proofs.Tryd.f23 (mkS [(0, .box (.pair .bool (.pair .str (.pair (.int .i64) .unit))))] 0 x) (zdq (.v (.pair .str (.pair (.sl (.pair .str (.pair .str .unit))) (.pair .str .unit)))) [(0, .box (.pair .bool (.pair .str (.pair (.int .i64) .unit))))] 0) = z3h N x.1 := by kernel_rfl

def zbe (N : Nat) : List A -> Res := z1t [(0, .box (.pair .bool (.pair .str (.pair (.int .i64) .unit))))] (fun x => z3h N x.1) (zh7 (.v (.pair .str (.pair (.sl (.pair .str (.pair .str .unit))) (.pair .str .unit)))) [(0, .box (.pair .bool (.pair .str (.pair (.int .i64) .unit))))] 0)

theorem zlf (N : Nat) : Contract Go.Proofs.Tryd.prog zi 23 (zbe N) :=
  Contract.of (E := z8c N) (H := ze8 N) (L := ze9) (N := N) (body := ziv) (K := (zdq (.v (.pair .str (.pair (.sl (.pair .str (.pair .str .unit))) (.pair .str .unit)))) [(0, .box (.pair .bool (.pair .str (.pair (.int .i64) .unit))))] 0)) (zk5 N) Go.Proofs.Tryd.func23 (by kernel_rfl) (by decide) (fun _ hb => TabOk.nil) (fun x y h => by rw [ziu]; exact h) (za0 (s := (.v (.pair .str (.pair (.sl (.pair .str (.pair .str .unit))) (.pair .str .unit))))) (os := [(0, .box (.pair .bool (.pair .str (.pair (.int .i64) .unit))))]) (m := 0))

def zbg : Code := (Go.Proofs.Tryd.f12.body).getD .skip

def zhm : List (List Nat × List Nat) := [([0], [0, 2]), ([0, 0, 1], [9, 2, 0]), ([1, 0, 1], [0, 2]), ([0, 0, 1, 0, 1], [2, 3]), ([1, 0, 1, 0, 1], [2, 3]), ([0, 1, 1], [4, 2]), ([0, 1, 1, 1], [4, 5, 2]), ([0, 0, 1, 1, 1, 1], [18, 17, 5, 4, 2]), ([0, 1, 0, 1, 1, 1, 1], [18, 17, 5, 4, 2]), ([0, 0, 0, 1, 0, 1, 1, 1, 1], [19, 5, 4, 18, 17, 2]), ([0, 1, 0, 0, 1, 0, 1, 1, 1, 1], [5, 4, 18, 17, 2]), ([1, 0, 1, 0, 0, 1, 0, 1, 1, 1, 1], [4, 2, 5]), ([0, 0, 1, 1, 0, 0, 1, 0, 1, 1, 1, 1], [18, 17, 5, 4, 2]), ([0, 1, 1, 0, 0, 1, 0, 1, 1, 1, 1], [18, 17, 5, 4, 2]), ([1, 1, 1, 0, 0, 1, 0, 1, 1, 1, 1], [18, 17, 5, 4, 2]), ([1, 0, 1, 1, 1, 1], [4, 2, 5]), ([0, 0, 1, 1, 1, 1, 1], [6, 2, 5]), ([0, 1, 0, 1, 1, 1, 1, 1], [31, 6, 2, 5]), ([1, 1, 0, 1, 1, 1, 1, 1], [5, 2]), ([0, 0, 1, 1, 0, 1, 1, 1, 1, 1], [2, 3]), ([1, 0, 1, 1, 0, 1, 1, 1, 1, 1], [2, 3]), ([0, 1, 1, 1, 1, 1, 1], [2, 3]), ([1, 1, 1, 1, 1, 1, 1], [2, 3])]

def zc7 (N : Nat) : Env := z3q tys zi [(23, zbe N), (25, z3e N), (24, z5i N), (22, zfe N)] [] [] [] false [(15, (.pair (.pair .str (.pair (.sl (.pair .str (.pair .str .unit))) (.pair .str .unit))) (.pair (.own (.pair .str (.pair (.sl (.pair .str (.pair .str .unit))) (.pair .str .unit)))) .unit))), (5, (.pair (.pair .str (.pair (.sl (.pair .str (.pair .str .unit))) (.pair .str .unit))) (.pair (.own (.pair .str (.pair (.sl (.pair .str (.pair .str .unit))) (.pair .str .unit)))) .unit)))] []

theorem zr3 (N : Nat) : EnvOk Go.Proofs.Tryd.prog (zc7 N) := zq mixed z1z (FnsOk.cons (zlf N) (FnsOk.cons (z54 N) (FnsOk.cons (zay N) (FnsOk.cons (zn5 N) (FnsOk.nil))))) (ItsOk.nil)

def zfh (N : Nat) (x2 : (((List UInt8) × ((List ((List UInt8) × ((List UInt8) × Unit))) × ((List UInt8) × Unit))) × ((List ((List UInt8) × ((List ((List UInt8) × ((List UInt8) × Unit))) × ((List UInt8) × Unit)))) × Unit))) (x17 : Int) (f : (Bool × ((List UInt8) × (Int × Unit)))) (b : (((List UInt8) × ((List ((List UInt8) × ((List UInt8) × Unit))) × ((List UInt8) × Unit))) × ((List ((List UInt8) × ((List ((List UInt8) × ((List UInt8) × Unit))) × ((List UInt8) × Unit)))) × Unit))) (x18 : Int) (rec : (Bool × ((List UInt8) × (Int × Unit))) -> (((List UInt8) × ((List ((List UInt8) × ((List UInt8) × Unit))) × ((List UInt8) × Unit))) × ((List ((List UInt8) × ((List ((List UInt8) × ((List UInt8) × Unit))) × ((List UInt8) × Unit)))) × Unit)) -> Int -> Option ((((List UInt8) × ((List ((List UInt8) × ((List UInt8) × Unit))) × ((List UInt8) × Unit))) × ((List ((List UInt8) × ((List ((List UInt8) × ((List UInt8) × Unit))) × ((List UInt8) × Unit)))) × Unit)) × Int × Unit)) (k0 : (Bool × ((List UInt8) × (Int × Unit))) -> (((List UInt8) × ((List ((List UInt8) × ((List UInt8) × Unit))) × ((List UInt8) × Unit))) × ((List ((List UInt8) × ((List ((List UInt8) × ((List UInt8) × Unit))) × ((List UInt8) × Unit)))) × Unit)) -> Option ((((List UInt8) × ((List ((List UInt8) × ((List UInt8) × Unit))) × ((List UInt8) × Unit))) × ((List ((List UInt8) × ((List ((List UInt8) × ((List UInt8) × Unit))) × ((List UInt8) × Unit)))) × Unit)) × Int × Unit)) : Option ((((List UInt8) × ((List ((List UInt8) × ((List UInt8) × Unit))) × ((List UInt8) × Unit))) × ((List ((List UInt8) × ((List ((List UInt8) × ((List UInt8) × Unit))) × ((List UInt8) × Unit)))) × Unit)) × Int × Unit) :=
 cond (decide (x18 < x17))
 ((z3h N f).bind fun y =>
 cond (decide ((((List.length b.2.1) + 1) * 56) <= 70368744177664))
 (rec y.2.1 (b.1, ((b.2.1 ++ ([y.1] : List ((List UInt8) × ((List ((List UInt8) × ((List UInt8) × Unit))) × ((List UInt8) × Unit))))), b.2.2)) (Go.IntKind.wrap Go.IntKind.u64 (x18 + (1 : Int))))
 (none))
 (k0 f b)

def zfi (N : Nat) (x2 : (((List UInt8) × ((List ((List UInt8) × ((List UInt8) × Unit))) × ((List UInt8) × Unit))) × ((List ((List UInt8) × ((List ((List UInt8) × ((List UInt8) × Unit))) × ((List UInt8) × Unit)))) × Unit))) (f : (Bool × ((List UInt8) × (Int × Unit)))) (b : (((List UInt8) × ((List ((List UInt8) × ((List UInt8) × Unit))) × ((List UInt8) × Unit))) × ((List ((List UInt8) × ((List ((List UInt8) × ((List UInt8) × Unit))) × ((List UInt8) × Unit)))) × Unit))) (x17 : Int) (x18 : Int) (k0 : (Bool × ((List UInt8) × (Int × Unit))) -> (((List UInt8) × ((List ((List UInt8) × ((List UInt8) × Unit))) × ((List UInt8) × Unit))) × ((List ((List UInt8) × ((List ((List UInt8) × ((List UInt8) × Unit))) × ((List UInt8) × Unit)))) × Unit)) -> Option ((((List UInt8) × ((List ((List UInt8) × ((List UInt8) × Unit))) × ((List UInt8) × Unit))) × ((List ((List UInt8) × ((List ((List UInt8) × ((List UInt8) × Unit))) × ((List UInt8) × Unit)))) × Unit)) × Int × Unit)) : Option ((((List UInt8) × ((List ((List UInt8) × ((List UInt8) × Unit))) × ((List UInt8) × Unit))) × ((List ((List UInt8) × ((List ((List UInt8) × ((List UInt8) × Unit))) × ((List UInt8) × Unit)))) × Unit)) × Int × Unit) :=
 iter (fun (v : ((Bool × ((List UInt8) × (Int × Unit))) × (((List UInt8) × ((List ((List UInt8) × ((List UInt8) × Unit))) × ((List UInt8) × Unit))) × ((List ((List UInt8) × ((List ((List UInt8) × ((List UInt8) × Unit))) × ((List UInt8) × Unit)))) × Unit)) × Int)) r => zfh N x2 x17 v.1 v.2.1 v.2.2 (fun f b x18 => (r (f, b, x18))) k0) N (f, b, x18)

def zlj (N : Nat) (i : ((((List UInt8) × ((List ((List UInt8) × ((List UInt8) × Unit))) × ((List UInt8) × Unit))) × ((List ((List UInt8) × ((List ((List UInt8) × ((List UInt8) × Unit))) × ((List UInt8) × Unit)))) × Unit)) × Int)) (v : ((Bool × ((List UInt8) × (Int × Unit))) × (((List UInt8) × ((List ((List UInt8) × ((List UInt8) × Unit))) × ((List UInt8) × Unit))) × ((List ((List UInt8) × ((List ((List UInt8) × ((List UInt8) × Unit))) × ((List UInt8) × Unit)))) × Unit)) × Int)) (r : ((Bool × ((List UInt8) × (Int × Unit))) × (((List UInt8) × ((List ((List UInt8) × ((List UInt8) × Unit))) × ((List UInt8) × Unit))) × ((List ((List UInt8) × ((List ((List UInt8) × ((List UInt8) × Unit))) × ((List UInt8) × Unit)))) × Unit)) × Int) -> Option ((((List UInt8) × ((List ((List UInt8) × ((List UInt8) × Unit))) × ((List UInt8) × Unit))) × ((List ((List UInt8) × ((List ((List UInt8) × ((List UInt8) × Unit))) × ((List UInt8) × Unit)))) × Unit)) × Int × Unit)) (K : Ex -> List A -> Option ((((List UInt8) × ((List ((List UInt8) × ((List UInt8) × Unit))) × ((List UInt8) × Unit))) × ((List ((List UInt8) × ((List ((List UInt8) × ((List UInt8) × Unit))) × ((List UInt8) × Unit)))) × Unit)) × Int × Unit)) : Option ((((List UInt8) × ((List ((List UInt8) × ((List UInt8) × Unit))) × ((List UInt8) × Unit))) × ((List ((List UInt8) × ((List ((List UInt8) × ((List UInt8) × Unit))) × ((List UInt8) × Unit)))) × Unit)) × Int × Unit) :=
 zfh N i.1 i.2 v.1 v.2.1 v.2.2 (fun f b x18 => (r (f, b, x18))) (fun a1 a2 => (K (.exit 0) (mkS [(2, .box (.pair (.pair .str (.pair (.sl (.pair .str (.pair .str .unit))) (.pair .str .unit))) (.pair (.sl (.pair .str (.pair (.sl (.pair .str (.pair .str .unit))) (.pair .str .unit)))) .unit))), (1, .box (.pair .bool (.pair .str (.pair (.int .i64) .unit)))), (0, .box (.pair (.pair .str (.pair (.sl (.pair .str (.pair .str .unit))) (.pair .str .unit))) (.pair (.own (.pair .str (.pair (.sl (.pair .str (.pair .str .unit))) (.pair .str .unit)))) .unit)))] 29 (i.1, a1, a2, ()))))

def zli (N : Nat) : Hd ((((List UInt8) × ((List ((List UInt8) × ((List UInt8) × Unit))) × ((List UInt8) × Unit))) × ((List ((List UInt8) × ((List ((List UInt8) × ((List UInt8) × Unit))) × ((List UInt8) × Unit)))) × Unit)) × Int × Unit) := fun st K => (unS [(2, .box (.pair (.pair .str (.pair (.sl (.pair .str (.pair .str .unit))) (.pair .str .unit))) (.pair (.sl (.pair .str (.pair (.sl (.pair .str (.pair .str .unit))) (.pair .str .unit)))) .unit))), (1, .box (.pair .bool (.pair .str (.pair (.int .i64) .unit)))), (0, .box (.pair (.pair .str (.pair (.sl (.pair .str (.pair .str .unit))) (.pair .str .unit))) (.pair (.own (.pair .str (.pair (.sl (.pair .str (.pair .str .unit))) (.pair .str .unit)))) .unit))), (11, .v (.int .u64)), (0, .v (.int .u64))] 16 (restr [18, 17, 5, 4, 2] 0 st)).bind fun x => iter (fun v r => zlj N ((fun x => (x.1, x.2.2.2.1)) x) v r K) N ((fun x => (x.2.1, x.2.2.1, x.2.2.2.2.1)) x)

def ztb (N : Nat) : Tab ((((List UInt8) × ((List ((List UInt8) × ((List UInt8) × Unit))) × ((List UInt8) × Unit))) × ((List ((List UInt8) × ((List ((List UInt8) × ((List UInt8) × Unit))) × ((List UInt8) × Unit)))) × Unit)) × Int × Unit) := []

theorem zr2 {N : Nat} {c : Ctx} (hb : Base Go.Proofs.Tryd.prog (zc7 N) c) : z16 Go.Proofs.Tryd.prog c (zl zbg [0, 1, 0, 1, 1, 1, 1]) (zli N) :=
  z88 (s := [(2, .box (.pair (.pair .str (.pair (.sl (.pair .str (.pair .str .unit))) (.pair .str .unit))) (.pair (.sl (.pair .str (.pair (.sl (.pair .str (.pair .str .unit))) (.pair .str .unit)))) .unit))), (1, .box (.pair .bool (.pair .str (.pair (.int .i64) .unit)))), (0, .box (.pair (.pair .str (.pair (.sl (.pair .str (.pair .str .unit))) (.pair .str .unit))) (.pair (.own (.pair .str (.pair (.sl (.pair .str (.pair .str .unit))) (.pair .str .unit)))) .unit))), (11, .v (.int .u64)), (0, .v (.int .u64))]) (m := 16) (zlj N) [18, 17, 5, 4, 2] N (fun x => (x.1, x.2.2.2.1)) (fun x => (x.2.1, x.2.2.1, x.2.2.2.2.1)) (fun i v => (i.1, v.1, v.2.1, i.2, v.2.2, ())) (fun _ => rfl) (zh hb N (ztb N) zhm zbg TabOk.nil [0, 0, 1, 0, 1, 1, 1, 1] _ rfl) (fun i v r K => by kernel_rfl)

def z6s (N : Nat) (s : (List UInt8)) : Option ((((List UInt8) × ((List ((List UInt8) × ((List UInt8) × Unit))) × ((List UInt8) × Unit))) × ((List ((List UInt8) × ((List ((List UInt8) × ((List UInt8) × Unit))) × ((List UInt8) × Unit)))) × Unit)) × Int × Unit) :=
 cond (decide ((65536 : Int) < (((List.length s) : Nat) : Int)))
 (some (((([] : List UInt8), (([] : List ((List UInt8) × ((List UInt8) × Unit))), (([] : List UInt8), ()))), (([] : List ((List UInt8) × ((List ((List UInt8) × ((List UInt8) × Unit))) × ((List UInt8) × Unit)))), ())), ((3 : Int), ())))
 ((z3h N (true, (s, ((0 : Int), ())))).bind fun y =>
 (z21 N y.2.1 (8 : Int)).bind fun y1 =>
 zfi N ((([] : List UInt8), (([] : List ((List UInt8) × ((List UInt8) × Unit))), (([] : List UInt8), ()))), (([] : List ((List UInt8) × ((List ((List UInt8) × ((List UInt8) × Unit))) × ((List UInt8) × Unit)))), ())) y1.2.1 (y.1, (([] : List ((List UInt8) × ((List ((List UInt8) × ((List UInt8) × Unit))) × ((List UInt8) × Unit)))), ())) y1.1 (0 : Int)
 (fun f b => (z2c N f).bind fun y2 =>
 cond (y2.1 != (0 : Int))
 (some (((([] : List UInt8), (([] : List ((List UInt8) × ((List UInt8) × Unit))), (([] : List UInt8), ()))), (([] : List ((List UInt8) × ((List ((List UInt8) × ((List UInt8) × Unit))) × ((List UInt8) × Unit)))), ())), (y2.1, ())))
 (some (((b.1.1, (b.1.2.1, (b.1.2.2.1, b.1.2.2.2))), (b.2.1, b.2.2)), ((0 : Int), ())))))

def zna (N : Nat) : Tab ((((List UInt8) × ((List ((List UInt8) × ((List UInt8) × Unit))) × ((List UInt8) × Unit))) × ((List ((List UInt8) × ((List ((List UInt8) × ((List UInt8) × Unit))) × ((List UInt8) × Unit)))) × Unit)) × Int × Unit) := [([0, 1, 0, 1, 1, 1, 1], zli N)]

theorem zpz (N : Nat) (x : z2d [(0, .v .str)]) : zc6 (zc7 N) N (zna N) zhm Go.Proofs.Tryd.f12 (mkS [(0, .v .str)] 0 x) (z6u (.tup [(.pair (.pair .str (.pair (.sl (.pair .str (.pair .str .unit))) (.pair .str .unit))) (.pair (.sl (.pair .str (.pair (.sl (.pair .str (.pair .str .unit))) (.pair .str .unit)))) .unit)), (.int .i64)]) 1) = z6s N x.1 := by kernel_rfl

def zd1 (N : Nat) : List A -> Res := z1t [(0, .v .str)] (fun x => z6s N x.1) (zev (.tup [(.pair (.pair .str (.pair (.sl (.pair .str (.pair .str .unit))) (.pair .str .unit))) (.pair (.sl (.pair .str (.pair (.sl (.pair .str (.pair .str .unit))) (.pair .str .unit)))) .unit)), (.int .i64)]) 1)

theorem zlk (N : Nat) : Contract Go.Proofs.Tryd.prog zi 12 (zd1 N) :=
  Contract.of (E := zc7 N) (H := zna N) (L := zhm) (N := N) (body := zbg) (K := (z6u (.tup [(.pair (.pair .str (.pair (.sl (.pair .str (.pair .str .unit))) (.pair .str .unit))) (.pair (.sl (.pair .str (.pair (.sl (.pair .str (.pair .str .unit))) (.pair .str .unit)))) .unit)), (.int .i64)]) 1)) (zr3 N) Go.Proofs.Tryd.func12 (by kernel_rfl) (by decide) (fun _ hb => (TabOk.cons (zr2 hb) TabOk.nil)) (fun x y h => by rw [zpz]; exact h) (z1v (s := (.tup [(.pair (.pair .str (.pair (.sl (.pair .str (.pair .str .unit))) (.pair .str .unit))) (.pair (.sl (.pair .str (.pair (.sl (.pair .str (.pair .str .unit))) (.pair .str .unit)))) .unit)), (.int .i64)])) (m := 1))

def zd : Code := (Go.Proofs.Tryd.f15.body).getD .skip

def z1b : List (List Nat × List Nat) := [([0], [1]), ([0, 0, 1], [20, 1]), ([1, 0, 1], [1]), ([0, 0, 1, 0, 1], [2]), ([1, 0, 1, 0, 1], [2]), ([0, 1, 1], [1, 3]), ([0, 0, 1, 1, 1], [4, 1, 3]), ([0, 1, 0, 1, 1, 1], [4, 1, 3]), ([0, 0, 0, 0, 1, 0, 1, 1, 1], [25, 1, 4, 3]), ([1, 0, 0, 0, 1, 0, 1, 1, 1], [1, 4, 3]), ([1, 1, 0, 0, 0, 1, 0, 1, 1, 1], [3]), ([0, 0, 0, 0, 1, 0, 0, 1, 0, 1, 1, 1], [45, 3, 1, 4]), ([1, 0, 0, 0, 1, 0, 0, 1, 0, 1, 1, 1], [3, 1, 4]), ([0, 0, 1, 0, 0, 0, 1, 0, 0, 1, 0, 1, 1, 1], [2]), ([1, 0, 1, 0, 0, 0, 1, 0, 0, 1, 0, 1, 1, 1], [2]), ([1, 0, 0, 1, 0, 0, 1, 0, 1, 1, 1], [4, 1, 3]), ([0, 1, 0, 0, 1, 0, 1, 1, 1], [4, 1, 3]), ([1, 1, 0, 0, 1, 0, 1, 1, 1], [4, 1, 3]), ([1, 0, 1, 1, 1], [3]), ([0, 1, 1, 1, 1], [2]), ([1, 1, 1, 1, 1], [2])]

def z15 (N : Nat) : Env := z3q tys zi [] [] [] [] false [] []

theorem zh1 (N : Nat) : EnvOk Go.Proofs.Tryd.prog (z15 N) := zq mixed z1z (FnsOk.nil) (ItsOk.nil)

def z5e (N : Nat) (t : ((List UInt8) × ((List ((List UInt8) × ((List UInt8) × Unit))) × ((List UInt8) × Unit)))) (k0 : Bool -> Option Bool) : Option Bool :=
 cond (decide ((4200 : Int) < (((List.length t.1) : Nat) : Int)))
 (k0 true)
 (cond (decide ((100 : Int) < (((List.length t.2.2.1) : Nat) : Int)))
 (k0 true)
 (k0 (decide ((70 : Int) < (((List.length t.2.1) : Nat) : Int)))))

def z9l (N : Nat) (x : z2d [(1, .box (.pair .str (.pair (.sl (.pair .str (.pair .str .unit))) (.pair .str .unit))))]) (K : Ex -> List A -> Option Bool) : Option Bool :=
 z5e N x.1 (fun a1 => (K .normal (mkS [(1, .box (.pair .str (.pair (.sl (.pair .str (.pair .str .unit))) (.pair .str .unit)))), (18, .v .bool)] 44 (x.1, a1, ()))))

def z9f (N : Nat) : Hd Bool := fun st K => (unS [(1, .box (.pair .str (.pair (.sl (.pair .str (.pair .str .unit))) (.pair .str .unit))))] 63 (restr [1] 0 st)).bind fun x => z9l N x K

def zih (N : Nat) : Tab Bool := []

theorem zgz {N : Nat} {c : Ctx} (hb : Base Go.Proofs.Tryd.prog (z15 N) c) : z16 Go.Proofs.Tryd.prog c (zl zd [0, 0, 1]) (z9f N) :=
  z1n (s := [(1, .box (.pair .str (.pair (.sl (.pair .str (.pair .str .unit))) (.pair .str .unit))))]) (m := 63) (g := z9l N) [1] (zh hb N (zih N) z1b zd TabOk.nil [0, 0, 1] _ rfl) (fun x K => by kernel_rfl)

def z5f (N : Nat) (t : ((List UInt8) × ((List ((List UInt8) × ((List UInt8) × Unit))) × ((List UInt8) × Unit)))) (k0 : Bool -> Option Bool) (k1 : Option Bool) : Option Bool :=
 z5e N t
 (fun x20 => cond x20
 (k0 true)
 (k1))

def z9m (N : Nat) (x : z2d [(1, .box (.pair .str (.pair (.sl (.pair .str (.pair .str .unit))) (.pair .str .unit))))]) (K : Ex -> List A -> Option Bool) : Option Bool :=
 z5f N x.1 (fun a0 => (K .ret (mkS [(2, .v .bool)] 62 (a0, ())))) (K .normal (mkS [(1, .box (.pair .str (.pair (.sl (.pair .str (.pair .str .unit))) (.pair .str .unit))))] 63 (x.1, ())))

def z9g (N : Nat) : Hd Bool := fun st K => (unS [(1, .box (.pair .str (.pair (.sl (.pair .str (.pair .str .unit))) (.pair .str .unit))))] 63 (restr [1] 0 st)).bind fun x => z9m N x K

def zii (N : Nat) : Tab Bool := [([0, 0, 1], z9f N)]

theorem zh0 {N : Nat} {c : Ctx} (hb : Base Go.Proofs.Tryd.prog (z15 N) c) : z16 Go.Proofs.Tryd.prog c (zl zd [0, 1]) (z9g N) :=
  z1n (s := [(1, .box (.pair .str (.pair (.sl (.pair .str (.pair .str .unit))) (.pair .str .unit))))]) (m := 63) (g := z9m N) [1] (zh hb N (zii N) z1b zd (TabOk.cons (zgz hb) TabOk.nil) [0, 1] _ rfl) (fun x K => by kernel_rfl)

def z5a (N : Nat) (t : ((List UInt8) × ((List ((List UInt8) × ((List UInt8) × Unit))) × ((List UInt8) × Unit)))) (all : Int) (i : Int) (k0 : Bool -> Option Bool) : Option Bool :=
 cond (Go.Lift.inR i (List.length t.2.1))
 (cond (decide ((4200 : Int) < (((List.length (List.getD t.2.1 (Int.toNat i) (([] : List UInt8), (([] : List UInt8), ()))).1) : Nat) : Int)))
 (k0 true)
 (cond (Go.Lift.inR i (List.length t.2.1))
 (k0 (decide ((4200 : Int) < (((List.length (List.getD t.2.1 (Int.toNat i) (([] : List UInt8), (([] : List UInt8), ()))).2.1) : Nat) : Int))))
 (none)))
 (none)

def z9h (N : Nat) (x : z2d [(1, .box (.pair .str (.pair (.sl (.pair .str (.pair .str .unit))) (.pair .str .unit)))), (1, .v (.int .i64)), (0, .v (.int .i64))]) (K : Ex -> List A -> Option Bool) : Option Bool :=
 z5a N x.1 x.2.1 x.2.2.1 (fun a3 => (K .normal (mkS [(1, .box (.pair .str (.pair (.sl (.pair .str (.pair .str .unit))) (.pair .str .unit)))), (1, .v (.int .i64)), (0, .v (.int .i64)), (40, .v .bool)] 19 (x.1, x.2.1, x.2.2.1, a3, ()))))

def z9b (N : Nat) : Hd Bool := fun st K => (unS [(1, .box (.pair .str (.pair (.sl (.pair .str (.pair .str .unit))) (.pair .str .unit)))), (1, .v (.int .i64)), (0, .v (.int .i64))] 60 (restr [1, 4, 3] 0 st)).bind fun x => z9h N x K

def zid (N : Nat) : Tab Bool := []

theorem zgv {N : Nat} {c : Ctx} (hb : Base Go.Proofs.Tryd.prog (z15 N) c) : z16 Go.Proofs.Tryd.prog c (zl zd [0, 0, 0, 0, 1, 0, 0, 1, 0, 1, 1, 1]) (z9b N) :=
  z1n (s := [(1, .box (.pair .str (.pair (.sl (.pair .str (.pair .str .unit))) (.pair .str .unit)))), (1, .v (.int .i64)), (0, .v (.int .i64))]) (m := 60) (g := z9h N) [1, 4, 3] (zh hb N (zid N) z1b zd TabOk.nil [0, 0, 0, 0, 1, 0, 0, 1, 0, 1, 1, 1] _ rfl) (fun x K => by kernel_rfl)

def z5b (N : Nat) (t : ((List UInt8) × ((List ((List UInt8) × ((List UInt8) × Unit))) × ((List UInt8) × Unit)))) (all : Int) (i : Int) (k0 : Bool -> Option Bool) (k1 : Option Bool) : Option Bool :=
 z5a N t all i
 (fun x45 => cond x45
 (k0 true)
 (k1))

def z9i (N : Nat) (x : z2d [(1, .box (.pair .str (.pair (.sl (.pair .str (.pair .str .unit))) (.pair .str .unit)))), (1, .v (.int .i64)), (0, .v (.int .i64))]) (K : Ex -> List A -> Option Bool) : Option Bool :=
 z5b N x.1 x.2.1 x.2.2.1 (fun a0 => (K .ret (mkS [(2, .v .bool)] 62 (a0, ())))) (K .normal (mkS [(1, .box (.pair .str (.pair (.sl (.pair .str (.pair .str .unit))) (.pair .str .unit)))), (1, .v (.int .i64)), (0, .v (.int .i64))] 60 (x.1, x.2.1, x.2.2.1, ())))

def z9c (N : Nat) : Hd Bool := fun st K => (unS [(1, .box (.pair .str (.pair (.sl (.pair .str (.pair .str .unit))) (.pair .str .unit)))), (1, .v (.int .i64)), (0, .v (.int .i64))] 60 (restr [1, 4, 3] 0 st)).bind fun x => z9i N x K

def zie (N : Nat) : Tab Bool := [([0, 0, 0, 0, 1, 0, 0, 1, 0, 1, 1, 1], z9b N)]

theorem zgw {N : Nat} {c : Ctx} (hb : Base Go.Proofs.Tryd.prog (z15 N) c) : z16 Go.Proofs.Tryd.prog c (zl zd [0, 0, 0, 1, 0, 0, 1, 0, 1, 1, 1]) (z9c N) :=
  z1n (s := [(1, .box (.pair .str (.pair (.sl (.pair .str (.pair .str .unit))) (.pair .str .unit)))), (1, .v (.int .i64)), (0, .v (.int .i64))]) (m := 60) (g := z9i N) [1, 4, 3] (zh hb N (zie N) z1b zd (TabOk.cons (zgv hb) TabOk.nil) [0, 0, 0, 1, 0, 0, 1, 0, 1, 1, 1] _ rfl) (fun x K => by kernel_rfl)

def z5c (N : Nat) (t : ((List UInt8) × ((List ((List UInt8) × ((List UInt8) × Unit))) × ((List UInt8) × Unit)))) (all : Int) (i : Int) (k0 : Bool -> Option Bool) (k1 : Int -> Option Bool) : Option Bool :=
 z5b N t all i
 (fun x2 => k0 x2)
 (cond (Go.Lift.inR i (List.length t.2.1))
 (cond (Go.Lift.inR i (List.length t.2.1))
 (k1 (Go.IntKind.wrap Go.IntKind.i64 ((Go.IntKind.wrap Go.IntKind.i64 (all + (((List.length (List.getD t.2.1 (Int.toNat i) (([] : List UInt8), (([] : List UInt8), ()))).1) : Nat) : Int))) + (((List.length (List.getD t.2.1 (Int.toNat i) (([] : List UInt8), (([] : List UInt8), ()))).2.1) : Nat) : Int))))
 (none))
 (none))

def z9j (N : Nat) (x : z2d [(1, .box (.pair .str (.pair (.sl (.pair .str (.pair .str .unit))) (.pair .str .unit)))), (1, .v (.int .i64)), (0, .v (.int .i64))]) (K : Ex -> List A -> Option Bool) : Option Bool :=
 z5c N x.1 x.2.1 x.2.2.1 (fun a0 => (K .ret (mkS [(2, .v .bool)] 62 (a0, ())))) (fun a1 => (K .normal (mkS [(1, .box (.pair .str (.pair (.sl (.pair .str (.pair .str .unit))) (.pair .str .unit)))), (1, .v (.int .i64)), (0, .v (.int .i64))] 60 (x.1, a1, x.2.2.1, ()))))

def z9d (N : Nat) : Hd Bool := fun st K => (unS [(1, .box (.pair .str (.pair (.sl (.pair .str (.pair .str .unit))) (.pair .str .unit)))), (1, .v (.int .i64)), (0, .v (.int .i64))] 60 (restr [1, 4, 3] 0 st)).bind fun x => z9j N x K

def zif (N : Nat) : Tab Bool := [([0, 0, 0, 1, 0, 0, 1, 0, 1, 1, 1], z9c N)]

theorem zgx {N : Nat} {c : Ctx} (hb : Base Go.Proofs.Tryd.prog (z15 N) c) : z16 Go.Proofs.Tryd.prog c (zl zd [0, 1, 0, 0, 1, 0, 1, 1, 1]) (z9d N) :=
  z1n (s := [(1, .box (.pair .str (.pair (.sl (.pair .str (.pair .str .unit))) (.pair .str .unit)))), (1, .v (.int .i64)), (0, .v (.int .i64))]) (m := 60) (g := z9j N) [1, 4, 3] (zh hb N (zif N) z1b zd (TabOk.cons (zgw hb) TabOk.nil) [0, 1, 0, 0, 1, 0, 1, 1, 1] _ rfl) (fun x K => by kernel_rfl)

def z59 (N : Nat) (t : ((List UInt8) × ((List ((List UInt8) × ((List UInt8) × Unit))) × ((List UInt8) × Unit)))) (all : Int) (i : Int) (rec : Int -> Int -> Option Bool) (k0 : Bool -> Option Bool) (k1 : Int -> Option Bool) : Option Bool :=
 cond (decide (i < (((List.length t.2.1) : Nat) : Int)))
 (z5c N t all i
 (fun x2 => k0 x2)
 (fun all1 => rec all1 (Go.IntKind.wrap Go.IntKind.i64 (i + (1 : Int)))))
 (k1 all)

def z5d (N : Nat) (t : ((List UInt8) × ((List ((List UInt8) × ((List UInt8) × Unit))) × ((List UInt8) × Unit)))) (all : Int) (i : Int) (k0 : Bool -> Option Bool) (k1 : Int -> Option Bool) : Option Bool :=
 iter (fun (v : (Int × Int)) r => z59 N t v.1 v.2 (fun all i => (r (all, i))) k0 k1) N (all, i)

def z9k (N : Nat) (i : ((List UInt8) × ((List ((List UInt8) × ((List UInt8) × Unit))) × ((List UInt8) × Unit)))) (v : (Int × Int)) (r : (Int × Int) -> Option Bool) (K : Ex -> List A -> Option Bool) : Option Bool :=
 z59 N i v.1 v.2 (fun all i => (r (all, i))) (fun a0 => (K .ret (mkS [(2, .v .bool)] 62 (a0, ())))) (fun a0 => (K (.exit 0) (mkS [(3, .v (.int .i64))] 61 (a0, ()))))

def z9e (N : Nat) : Hd Bool := fun st K => (unS [(1, .box (.pair .str (.pair (.sl (.pair .str (.pair .str .unit))) (.pair .str .unit)))), (1, .v (.int .i64)), (0, .v (.int .i64))] 60 (restr [4, 1, 3] 0 st)).bind fun x => iter (fun v r => z9k N ((fun x => x.1) x) v r K) N ((fun x => (x.2.1, x.2.2.1)) x)

def zig (N : Nat) : Tab Bool := [([0, 1, 0, 0, 1, 0, 1, 1, 1], z9d N)]

theorem zgy {N : Nat} {c : Ctx} (hb : Base Go.Proofs.Tryd.prog (z15 N) c) : z16 Go.Proofs.Tryd.prog c (zl zd [0, 1, 0, 1, 1, 1]) (z9e N) :=
  z88 (s := [(1, .box (.pair .str (.pair (.sl (.pair .str (.pair .str .unit))) (.pair .str .unit)))), (1, .v (.int .i64)), (0, .v (.int .i64))]) (m := 60) (z9k N) [4, 1, 3] N (fun x => x.1) (fun x => (x.2.1, x.2.2.1)) (fun i v => (i, v.1, v.2, ())) (fun _ => rfl) (zh hb N (zig N) z1b zd (TabOk.cons (zgx hb) TabOk.nil) [0, 0, 1, 0, 1, 1, 1] _ rfl) (fun i v r K => by kernel_rfl)

def z2g (N : Nat) (t : ((List UInt8) × ((List ((List UInt8) × ((List UInt8) × Unit))) × ((List UInt8) × Unit)))) : Option Bool :=
 z5f N t
 (fun x2 => some x2)
 (z5d N t (0 : Int) (0 : Int)
 (fun x21 => some x21)
 (fun all => some (decide ((20000 : Int) < all))))

def zam (N : Nat) : Tab Bool := [([0, 1], z9g N), ([0, 1, 0, 1, 1, 1], z9e N)]

theorem zfl (N : Nat) (x : z2d [(0, .v (.pair .str (.pair (.sl (.pair .str (.pair .str .unit))) (.pair .str .unit))))]) : zc6 (z15 N) N (zam N) z1b Go.Proofs.Tryd.f15 (mkS [(0, .v (.pair .str (.pair (.sl (.pair .str (.pair .str .unit))) (.pair .str .unit))))] 0 x) (z6u (.v .bool) 1) = z2g N x.1 := by kernel_rfl

def z8o (N : Nat) : List A -> Res := z1t [(0, .v (.pair .str (.pair (.sl (.pair .str (.pair .str .unit))) (.pair .str .unit))))] (fun x => z2g N x.1) (zev (.v .bool) 1)

theorem zij (N : Nat) : Contract Go.Proofs.Tryd.prog zi 15 (z8o N) :=
  Contract.of (E := z15 N) (H := zam N) (L := z1b) (N := N) (body := zd) (K := (z6u (.v .bool) 1)) (zh1 N) Go.Proofs.Tryd.func15 (by kernel_rfl) (by decide) (fun _ hb => (TabOk.cons (zh0 hb) (TabOk.cons (zgy hb) TabOk.nil))) (fun x y h => by rw [zfl]; exact h) (z1v (s := (.v .bool)) (m := 1))

def z19 : Code := (Go.Proofs.Tryd.f6.body).getD .skip

def z2k : List (List Nat × List Nat) := [([0], [1]), ([0, 0, 1], [12, 1]), ([1, 0, 1], [1]), ([0, 0, 1, 0, 1], [2]), ([1, 0, 1, 0, 1], [2]), ([0, 0, 1, 1], [3, 1]), ([0, 1, 0, 1, 1], [3, 1]), ([0, 0, 0, 0, 1, 0, 1, 1], [17, 1, 3]), ([1, 0, 0, 0, 1, 0, 1, 1], [1, 3]), ([1, 1, 0, 0, 0, 1, 0, 1, 1], []), ([0, 0, 0, 1, 0, 0, 1, 0, 1, 1], [25, 3, 1]), ([1, 0, 0, 1, 0, 0, 1, 0, 1, 1], [3, 1]), ([0, 0, 1, 0, 0, 1, 0, 0, 1, 0, 1, 1], [2]), ([1, 0, 1, 0, 0, 1, 0, 0, 1, 0, 1, 1], [2]), ([0, 1, 0, 0, 1, 0, 1, 1], [3, 1]), ([1, 1, 0, 0, 1, 0, 1, 1], [3, 1]), ([1, 0, 1, 1], []), ([0, 1, 1, 1], [2]), ([1, 1, 1, 1], [2])]

def z25 (N : Nat) : Env := z3q tys zi [(15, z8o N)] [] [] [] false [] []

theorem zgu (N : Nat) : EnvOk Go.Proofs.Tryd.prog (z25 N) := zq mixed z1z (FnsOk.cons (zij N) (FnsOk.nil)) (ItsOk.nil)

def z57 (N : Nat) (b : (((List UInt8) × ((List ((List UInt8) × ((List UInt8) × Unit))) × ((List UInt8) × Unit))) × ((List ((List UInt8) × ((List ((List UInt8) × ((List UInt8) × Unit))) × ((List UInt8) × Unit)))) × Unit))) (k0 : Bool -> Option Bool) : Option Bool :=
 cond (decide ((12 : Int) < (((List.length b.2.1) : Nat) : Int)))
 (k0 true)
 ((z2g N b.1).bind fun y =>
 k0 y)

def z99 (N : Nat) (x : z2d [(1, .box (.pair (.pair .str (.pair (.sl (.pair .str (.pair .str .unit))) (.pair .str .unit))) (.pair (.sl (.pair .str (.pair (.sl (.pair .str (.pair .str .unit))) (.pair .str .unit)))) .unit)))]) (K : Ex -> List A -> Option Bool) : Option Bool :=
 z57 N x.1 (fun a1 => (K .normal (mkS [(1, .box (.pair (.pair .str (.pair (.sl (.pair .str (.pair .str .unit))) (.pair .str .unit))) (.pair (.sl (.pair .str (.pair (.sl (.pair .str (.pair .str .unit))) (.pair .str .unit)))) .unit))), (10, .v .bool)] 13 (x.1, a1, ()))))

def z96 (N : Nat) : Hd Bool := fun st K => (unS [(1, .box (.pair (.pair .str (.pair (.sl (.pair .str (.pair .str .unit))) (.pair .str .unit))) (.pair (.sl (.pair .str (.pair (.sl (.pair .str (.pair .str .unit))) (.pair .str .unit)))) .unit)))] 24 (restr [1] 0 st)).bind fun x => z99 N x K

def zia (N : Nat) : Tab Bool := []

theorem zgs {N : Nat} {c : Ctx} (hb : Base Go.Proofs.Tryd.prog (z25 N) c) : z16 Go.Proofs.Tryd.prog c (zl z19 [0, 0, 1]) (z96 N) :=
  z1n (s := [(1, .box (.pair (.pair .str (.pair (.sl (.pair .str (.pair .str .unit))) (.pair .str .unit))) (.pair (.sl (.pair .str (.pair (.sl (.pair .str (.pair .str .unit))) (.pair .str .unit)))) .unit)))]) (m := 24) (g := z99 N) [1] (zh hb N (zia N) z2k z19 TabOk.nil [0, 0, 1] _ rfl) (fun x K => by kernel_rfl)

def z58 (N : Nat) (b : (((List UInt8) × ((List ((List UInt8) × ((List UInt8) × Unit))) × ((List UInt8) × Unit))) × ((List ((List UInt8) × ((List ((List UInt8) × ((List UInt8) × Unit))) × ((List UInt8) × Unit)))) × Unit))) (k0 : Bool -> Option Bool) (k1 : Option Bool) : Option Bool :=
 z57 N b
 (fun x12 => cond x12
 (k0 true)
 (k1))

def z9a (N : Nat) (x : z2d [(1, .box (.pair (.pair .str (.pair (.sl (.pair .str (.pair .str .unit))) (.pair .str .unit))) (.pair (.sl (.pair .str (.pair (.sl (.pair .str (.pair .str .unit))) (.pair .str .unit)))) .unit)))]) (K : Ex -> List A -> Option Bool) : Option Bool :=
 z58 N x.1 (fun a0 => (K .ret (mkS [(2, .v .bool)] 23 (a0, ())))) (K .normal (mkS [(1, .box (.pair (.pair .str (.pair (.sl (.pair .str (.pair .str .unit))) (.pair .str .unit))) (.pair (.sl (.pair .str (.pair (.sl (.pair .str (.pair .str .unit))) (.pair .str .unit)))) .unit)))] 24 (x.1, ())))

def z97 (N : Nat) : Hd Bool := fun st K => (unS [(1, .box (.pair (.pair .str (.pair (.sl (.pair .str (.pair .str .unit))) (.pair .str .unit))) (.pair (.sl (.pair .str (.pair (.sl (.pair .str (.pair .str .unit))) (.pair .str .unit)))) .unit)))] 24 (restr [1] 0 st)).bind fun x => z9a N x K

def zib (N : Nat) : Tab Bool := [([0, 0, 1], z96 N)]

theorem zgt {N : Nat} {c : Ctx} (hb : Base Go.Proofs.Tryd.prog (z25 N) c) : z16 Go.Proofs.Tryd.prog c (zl z19 [0, 1]) (z97 N) :=
  z1n (s := [(1, .box (.pair (.pair .str (.pair (.sl (.pair .str (.pair .str .unit))) (.pair .str .unit))) (.pair (.sl (.pair .str (.pair (.sl (.pair .str (.pair .str .unit))) (.pair .str .unit)))) .unit)))]) (m := 24) (g := z9a N) [1] (zh hb N (zib N) z2k z19 (TabOk.cons (zgs hb) TabOk.nil) [0, 1] _ rfl) (fun x K => by kernel_rfl)

def z56 (N : Nat) (b : (((List UInt8) × ((List ((List UInt8) × ((List UInt8) × Unit))) × ((List UInt8) × Unit))) × ((List ((List UInt8) × ((List ((List UInt8) × ((List UInt8) × Unit))) × ((List UInt8) × Unit)))) × Unit))) (i : Int) (rec : Int -> Option Bool) (k0 : Bool -> Option Bool) (k1 : Option Bool) : Option Bool :=
 cond (decide (i < (((List.length b.2.1) : Nat) : Int)))
 (cond (Go.Lift.inR i (List.length b.2.1))
 ((z2g N (List.getD b.2.1 (Int.toNat i) (([] : List UInt8), (([] : List ((List UInt8) × ((List UInt8) × Unit))), (([] : List UInt8), ()))))).bind fun y =>
 cond y
 (k0 true)
 (rec (Go.IntKind.wrap Go.IntKind.i64 (i + (1 : Int)))))
 (none))
 (k1)

def z94 (N : Nat) (b : (((List UInt8) × ((List ((List UInt8) × ((List UInt8) × Unit))) × ((List UInt8) × Unit))) × ((List ((List UInt8) × ((List ((List UInt8) × ((List UInt8) × Unit))) × ((List UInt8) × Unit)))) × Unit))) (i : Int) (k0 : Bool -> Option Bool) (k1 : Option Bool) : Option Bool :=
 iter (fun (v : Int) r => z56 N b v (fun i => (r i)) k0 k1) N i

def z98 (N : Nat) (i : (((List UInt8) × ((List ((List UInt8) × ((List UInt8) × Unit))) × ((List UInt8) × Unit))) × ((List ((List UInt8) × ((List ((List UInt8) × ((List UInt8) × Unit))) × ((List UInt8) × Unit)))) × Unit))) (v : Int) (r : Int -> Option Bool) (K : Ex -> List A -> Option Bool) : Option Bool :=
 z56 N i v (fun i => (r i)) (fun a0 => (K .ret (mkS [(2, .v .bool)] 23 (a0, ())))) (K (.exit 0) (mkS [] 26 ()))

def z95 (N : Nat) : Hd Bool := fun st K => (unS [(1, .box (.pair (.pair .str (.pair (.sl (.pair .str (.pair .str .unit))) (.pair .str .unit))) (.pair (.sl (.pair .str (.pair (.sl (.pair .str (.pair .str .unit))) (.pair .str .unit)))) .unit))), (1, .v (.int .i64))] 22 (restr [3, 1] 0 st)).bind fun x => iter (fun v r => z98 N ((fun x => x.1) x) v r K) N ((fun x => x.2.1) x)

def zi9 (N : Nat) : Tab Bool := []

theorem zgr {N : Nat} {c : Ctx} (hb : Base Go.Proofs.Tryd.prog (z25 N) c) : z16 Go.Proofs.Tryd.prog c (zl z19 [0, 1, 0, 1, 1]) (z95 N) :=
  z88 (s := [(1, .box (.pair (.pair .str (.pair (.sl (.pair .str (.pair .str .unit))) (.pair .str .unit))) (.pair (.sl (.pair .str (.pair (.sl (.pair .str (.pair .str .unit))) (.pair .str .unit)))) .unit))), (1, .v (.int .i64))]) (m := 22) (z98 N) [3, 1] N (fun x => x.1) (fun x => x.2.1) (fun i v => (i, v, ())) (fun _ => rfl) (zh hb N (zi9 N) z2k z19 TabOk.nil [0, 0, 1, 0, 1, 1] _ rfl) (fun i v r K => by kernel_rfl)

def z37 (N : Nat) (b : (((List UInt8) × ((List ((List UInt8) × ((List UInt8) × Unit))) × ((List UInt8) × Unit))) × ((List ((List UInt8) × ((List ((List UInt8) × ((List UInt8) × Unit))) × ((List UInt8) × Unit)))) × Unit))) : Option Bool :=
 z58 N b
 (fun x2 => some x2)
 (z94 N b (0 : Int)
 (fun x21 => some x21)
 (some false))

def zal (N : Nat) : Tab Bool := [([0, 1], z97 N), ([0, 1, 0, 1, 1], z95 N)]

theorem zfk (N : Nat) (x : z2d [(0, .v (.pair (.pair .str (.pair (.sl (.pair .str (.pair .str .unit))) (.pair .str .unit))) (.pair (.sl (.pair .str (.pair (.sl (.pair .str (.pair .str .unit))) (.pair .str .unit)))) .unit)))]) : zc6 (z25 N) N (zal N) z2k Go.Proofs.Tryd.f6 (mkS [(0, .v (.pair (.pair .str (.pair (.sl (.pair .str (.pair .str .unit))) (.pair .str .unit))) (.pair (.sl (.pair .str (.pair (.sl (.pair .str (.pair .str .unit))) (.pair .str .unit)))) .unit)))] 0 x) (z6u (.v .bool) 1) = z37 N x.1 := by kernel_rfl

def z8n (N : Nat) : List A -> Res := z1t [(0, .v (.pair (.pair .str (.pair (.sl (.pair .str (.pair .str .unit))) (.pair .str .unit))) (.pair (.sl (.pair .str (.pair (.sl (.pair .str (.pair .str .unit))) (.pair .str .unit)))) .unit)))] (fun x => z37 N x.1) (zev (.v .bool) 1)

theorem zic (N : Nat) : Contract Go.Proofs.Tryd.prog zi 6 (z8n N) :=
  Contract.of (E := z25 N) (H := zal N) (L := z2k) (N := N) (body := z19) (K := (z6u (.v .bool) 1)) (zgu N) Go.Proofs.Tryd.func6 (by kernel_rfl) (by decide) (fun _ hb => (TabOk.cons (zgt hb) (TabOk.cons (zgr hb) TabOk.nil))) (fun x y h => by rw [zfk]; exact h) (z1v (s := (.v .bool)) (m := 1))

def zz : Code := (Go.Proofs.Tryd.f29.body).getD .skip

def z23 : List (List Nat × List Nat) := [([0], [2, 3]), ([0, 0, 1], [26, 2, 3]), ([1, 0, 1], [2, 3]), ([0, 0, 1, 0, 1], [4]), ([1, 0, 1, 0, 1], [4]), ([0, 0, 1, 1], [5, 2, 3]), ([0, 1, 0, 1, 1], [5, 2, 3]), ([0, 0, 0, 0, 1, 0, 1, 1], [31, 2, 5, 3]), ([1, 0, 0, 0, 1, 0, 1, 1], [2, 5, 3]), ([1, 1, 0, 0, 0, 1, 0, 1, 1], []), ([0, 0, 0, 1, 0, 0, 1, 0, 1, 1], [44, 5, 2, 3]), ([1, 0, 0, 1, 0, 0, 1, 0, 1, 1], [5, 2, 3]), ([0, 0, 1, 0, 0, 1, 0, 0, 1, 0, 1, 1], [4]), ([1, 0, 1, 0, 0, 1, 0, 0, 1, 0, 1, 1], [4]), ([0, 1, 0, 0, 1, 0, 1, 1], [5, 2, 3]), ([1, 1, 0, 0, 1, 0, 1, 1], [5, 2, 3]), ([1, 0, 1, 1], []), ([0, 1, 1, 1], [4]), ([1, 1, 1, 1], [4])]

def z1i (N : Nat) : Env := z3q tys zi [] [] [] [] false [] []

theorem zdl (N : Nat) : EnvOk Go.Proofs.Tryd.prog (z1i N) := zq mixed z1z (FnsOk.nil) (ItsOk.nil)

def z3o (N : Nat) (a : ((List UInt8) × ((List ((List UInt8) × ((List UInt8) × Unit))) × ((List UInt8) × Unit)))) (b : ((List UInt8) × ((List ((List UInt8) × ((List UInt8) × Unit))) × ((List UInt8) × Unit)))) (k0 : Bool -> Option Bool) : Option Bool :=
 cond (!(a.1 == b.1))
 (k0 true)
 (cond (!(a.2.2.1 == b.2.2.1))
 (k0 true)
 (k0 ((((List.length a.2.1) : Nat) : Int) != (((List.length b.2.1) : Nat) : Int))))

def z74 (N : Nat) (x : z2d [(2, .box (.pair .str (.pair (.sl (.pair .str (.pair .str .unit))) (.pair .str .unit)))), (0, .box (.pair .str (.pair (.sl (.pair .str (.pair .str .unit))) (.pair .str .unit))))]) (K : Ex -> List A -> Option Bool) : Option Bool :=
 z3o N x.1 x.2.1 (fun a2 => (K .normal (mkS [(2, .box (.pair .str (.pair (.sl (.pair .str (.pair .str .unit))) (.pair .str .unit)))), (0, .box (.pair .str (.pair (.sl (.pair .str (.pair .str .unit))) (.pair .str .unit)))), (22, .v .bool)] 18 (x.1, x.2.1, a2, ()))))

def z71 (N : Nat) : Hd Bool := fun st K => (unS [(2, .box (.pair .str (.pair (.sl (.pair .str (.pair .str .unit))) (.pair .str .unit)))), (0, .box (.pair .str (.pair (.sl (.pair .str (.pair .str .unit))) (.pair .str .unit))))] 41 (restr [2, 3] 0 st)).bind fun x => z74 N x K

def zer (N : Nat) : Tab Bool := []

theorem zdj {N : Nat} {c : Ctx} (hb : Base Go.Proofs.Tryd.prog (z1i N) c) : z16 Go.Proofs.Tryd.prog c (zl zz [0, 0, 1]) (z71 N) :=
  z1n (s := [(2, .box (.pair .str (.pair (.sl (.pair .str (.pair .str .unit))) (.pair .str .unit)))), (0, .box (.pair .str (.pair (.sl (.pair .str (.pair .str .unit))) (.pair .str .unit))))]) (m := 41) (g := z74 N) [2, 3] (zh hb N (zer N) z23 zz TabOk.nil [0, 0, 1] _ rfl) (fun x K => by kernel_rfl)

def z3p (N : Nat) (a : ((List UInt8) × ((List ((List UInt8) × ((List UInt8) × Unit))) × ((List UInt8) × Unit)))) (b : ((List UInt8) × ((List ((List UInt8) × ((List UInt8) × Unit))) × ((List UInt8) × Unit)))) (k0 : Bool -> Option Bool) (k1 : Option Bool) : Option Bool :=
 z3o N a b
 (fun x26 => cond x26
 (k0 false)
 (k1))

def z75 (N : Nat) (x : z2d [(2, .box (.pair .str (.pair (.sl (.pair .str (.pair .str .unit))) (.pair .str .unit)))), (0, .box (.pair .str (.pair (.sl (.pair .str (.pair .str .unit))) (.pair .str .unit))))]) (K : Ex -> List A -> Option Bool) : Option Bool :=
 z3p N x.1 x.2.1 (fun a0 => (K .ret (mkS [(4, .v .bool)] 40 (a0, ())))) (K .normal (mkS [(2, .box (.pair .str (.pair (.sl (.pair .str (.pair .str .unit))) (.pair .str .unit)))), (0, .box (.pair .str (.pair (.sl (.pair .str (.pair .str .unit))) (.pair .str .unit))))] 41 (x.1, x.2.1, ())))

def z72 (N : Nat) : Hd Bool := fun st K => (unS [(2, .box (.pair .str (.pair (.sl (.pair .str (.pair .str .unit))) (.pair .str .unit)))), (0, .box (.pair .str (.pair (.sl (.pair .str (.pair .str .unit))) (.pair .str .unit))))] 41 (restr [2, 3] 0 st)).bind fun x => z75 N x K

def zes (N : Nat) : Tab Bool := [([0, 0, 1], z71 N)]

theorem zdk {N : Nat} {c : Ctx} (hb : Base Go.Proofs.Tryd.prog (z1i N) c) : z16 Go.Proofs.Tryd.prog c (zl zz [0, 1]) (z72 N) :=
  z1n (s := [(2, .box (.pair .str (.pair (.sl (.pair .str (.pair .str .unit))) (.pair .str .unit)))), (0, .box (.pair .str (.pair (.sl (.pair .str (.pair .str .unit))) (.pair .str .unit))))]) (m := 41) (g := z75 N) [2, 3] (zh hb N (zes N) z23 zz (TabOk.cons (zdj hb) TabOk.nil) [0, 1] _ rfl) (fun x K => by kernel_rfl)

def z3n (N : Nat) (a : ((List UInt8) × ((List ((List UInt8) × ((List UInt8) × Unit))) × ((List UInt8) × Unit)))) (b : ((List UInt8) × ((List ((List UInt8) × ((List UInt8) × Unit))) × ((List UInt8) × Unit)))) (i : Int) (rec : Int -> Option Bool) (k0 : Bool -> Option Bool) (k1 : Option Bool) : Option Bool :=
 cond (decide (i < (((List.length a.2.1) : Nat) : Int)))
 (cond (Go.Lift.inR i (List.length a.2.1))
 (cond (Go.Lift.inR i (List.length b.2.1))
 (cond (!(Go.Lift.eqD (Go.Lift.unT (Go.Lift.T.pair Go.Lift.T.str (Go.Lift.T.pair Go.Lift.T.str Go.Lift.T.unit))) (List.getD a.2.1 (Int.toNat i) (([] : List UInt8), (([] : List UInt8), ()))) (List.getD b.2.1 (Int.toNat i) (([] : List UInt8), (([] : List UInt8), ())))))
 (k0 false)
 (rec (Go.IntKind.wrap Go.IntKind.i64 (i + (1 : Int)))))
 (none))
 (none))
 (k1)

def z6z (N : Nat) (a : ((List UInt8) × ((List ((List UInt8) × ((List UInt8) × Unit))) × ((List UInt8) × Unit)))) (b : ((List UInt8) × ((List ((List UInt8) × ((List UInt8) × Unit))) × ((List UInt8) × Unit)))) (i : Int) (k0 : Bool -> Option Bool) (k1 : Option Bool) : Option Bool :=
 iter (fun (v : Int) r => z3n N a b v (fun i => (r i)) k0 k1) N i

def z73 (N : Nat) (i : (((List UInt8) × ((List ((List UInt8) × ((List UInt8) × Unit))) × ((List UInt8) × Unit))) × ((List UInt8) × ((List ((List UInt8) × ((List UInt8) × Unit))) × ((List UInt8) × Unit))))) (v : Int) (r : Int -> Option Bool) (K : Ex -> List A -> Option Bool) : Option Bool :=
 z3n N i.1 i.2 v (fun i => (r i)) (fun a0 => (K .ret (mkS [(4, .v .bool)] 40 (a0, ())))) (K (.exit 0) (mkS [] 45 ()))

def z70 (N : Nat) : Hd Bool := fun st K => (unS [(2, .box (.pair .str (.pair (.sl (.pair .str (.pair .str .unit))) (.pair .str .unit)))), (0, .box (.pair .str (.pair (.sl (.pair .str (.pair .str .unit))) (.pair .str .unit)))), (1, .v (.int .i64))] 39 (restr [5, 2, 3] 0 st)).bind fun x => iter (fun v r => z73 N ((fun x => (x.1, x.2.1)) x) v r K) N ((fun x => x.2.2.1) x)

def zep (N : Nat) : Tab Bool := []

theorem zdi {N : Nat} {c : Ctx} (hb : Base Go.Proofs.Tryd.prog (z1i N) c) : z16 Go.Proofs.Tryd.prog c (zl zz [0, 1, 0, 1, 1]) (z70 N) :=
  z88 (s := [(2, .box (.pair .str (.pair (.sl (.pair .str (.pair .str .unit))) (.pair .str .unit)))), (0, .box (.pair .str (.pair (.sl (.pair .str (.pair .str .unit))) (.pair .str .unit)))), (1, .v (.int .i64))]) (m := 39) (z73 N) [5, 2, 3] N (fun x => (x.1, x.2.1)) (fun x => x.2.2.1) (fun i v => (i.1, i.2, v, ())) (fun _ => rfl) (zh hb N (zep N) z23 zz TabOk.nil [0, 0, 1, 0, 1, 1] _ rfl) (fun i v r K => by kernel_rfl)

def z1x (N : Nat) (a : ((List UInt8) × ((List ((List UInt8) × ((List UInt8) × Unit))) × ((List UInt8) × Unit)))) (b : ((List UInt8) × ((List ((List UInt8) × ((List UInt8) × Unit))) × ((List UInt8) × Unit)))) : Option Bool :=
 z3p N a b
 (fun x4 => some x4)
 (z6z N a b (0 : Int)
 (fun x41 => some x41)
 (some true))

def z7u (N : Nat) : Tab Bool := [([0, 1], z72 N), ([0, 1, 0, 1, 1], z70 N)]

theorem zcm (N : Nat) (x : z2d [(0, .v (.pair .str (.pair (.sl (.pair .str (.pair .str .unit))) (.pair .str .unit)))), (0, .v (.pair .str (.pair (.sl (.pair .str (.pair .str .unit))) (.pair .str .unit))))]) : zc6 (z1i N) N (z7u N) z23 Go.Proofs.Tryd.f29 (mkS [(0, .v (.pair .str (.pair (.sl (.pair .str (.pair .str .unit))) (.pair .str .unit)))), (0, .v (.pair .str (.pair (.sl (.pair .str (.pair .str .unit))) (.pair .str .unit))))] 0 x) (z6u (.v .bool) 2) = z1x N x.1 x.2.1 := by kernel_rfl

def z6d (N : Nat) : List A -> Res := z1t [(0, .v (.pair .str (.pair (.sl (.pair .str (.pair .str .unit))) (.pair .str .unit)))), (0, .v (.pair .str (.pair (.sl (.pair .str (.pair .str .unit))) (.pair .str .unit))))] (fun x => z1x N x.1 x.2.1) (zev (.v .bool) 2)

theorem zet (N : Nat) : Contract Go.Proofs.Tryd.prog zi 29 (z6d N) :=
  Contract.of (E := z1i N) (H := z7u N) (L := z23) (N := N) (body := zz) (K := (z6u (.v .bool) 2)) (zdl N) Go.Proofs.Tryd.func29 (by kernel_rfl) (by decide) (fun _ hb => (TabOk.cons (zdk hb) (TabOk.cons (zdi hb) TabOk.nil))) (fun x y h => by rw [zcm]; exact h) (z1v (s := (.v .bool)) (m := 2))

def zu : Code := (Go.Proofs.Tryd.f14.body).getD .skip

def z1u : List (List Nat × List Nat) := [([0], [2, 3]), ([0, 0, 1], [20, 2, 3]), ([1, 0, 1], [2, 3]), ([0, 0, 1, 0, 1], [4]), ([1, 0, 1, 0, 1], [4]), ([0, 0, 1, 1], [5, 2, 3]), ([0, 1, 0, 1, 1], [5, 2, 3]), ([0, 0, 0, 0, 1, 0, 1, 1], [25, 2, 5, 3]), ([1, 0, 0, 0, 1, 0, 1, 1], [2, 5, 3]), ([1, 1, 0, 0, 0, 1, 0, 1, 1], []), ([0, 0, 0, 1, 0, 0, 1, 0, 1, 1], [39, 5, 2, 3]), ([1, 0, 0, 1, 0, 0, 1, 0, 1, 1], [5, 2, 3]), ([0, 0, 1, 0, 0, 1, 0, 0, 1, 0, 1, 1], [4]), ([1, 0, 1, 0, 0, 1, 0, 0, 1, 0, 1, 1], [4]), ([0, 1, 0, 0, 1, 0, 1, 1], [5, 2, 3]), ([1, 1, 0, 0, 1, 0, 1, 1], [5, 2, 3]), ([1, 0, 1, 1], []), ([0, 1, 1, 1], [4]), ([1, 1, 1, 1], [4])]

def z1d (N : Nat) : Env := z3q tys zi [(29, z6d N)] [] [] [] false [] []

theorem zcq (N : Nat) : EnvOk Go.Proofs.Tryd.prog (z1d N) := zq mixed z1z (FnsOk.cons (zet N) (FnsOk.nil)) (ItsOk.nil)

def z39 (N : Nat) (a : (((List UInt8) × ((List ((List UInt8) × ((List UInt8) × Unit))) × ((List UInt8) × Unit))) × ((List ((List UInt8) × ((List ((List UInt8) × ((List UInt8) × Unit))) × ((List UInt8) × Unit)))) × Unit))) (b : (((List UInt8) × ((List ((List UInt8) × ((List UInt8) × Unit))) × ((List UInt8) × Unit))) × ((List ((List UInt8) × ((List ((List UInt8) × ((List UInt8) × Unit))) × ((List UInt8) × Unit)))) × Unit))) (k0 : Bool -> Option Bool) : Option Bool :=
 (z1x N a.1 b.1).bind fun y =>
 cond (!y)
 (k0 true)
 (k0 ((((List.length a.2.1) : Nat) : Int) != (((List.length b.2.1) : Nat) : Int)))

def z6j (N : Nat) (x : z2d [(2, .box (.pair (.pair .str (.pair (.sl (.pair .str (.pair .str .unit))) (.pair .str .unit))) (.pair (.sl (.pair .str (.pair (.sl (.pair .str (.pair .str .unit))) (.pair .str .unit)))) .unit))), (0, .box (.pair (.pair .str (.pair (.sl (.pair .str (.pair .str .unit))) (.pair .str .unit))) (.pair (.sl (.pair .str (.pair (.sl (.pair .str (.pair .str .unit))) (.pair .str .unit)))) .unit)))]) (K : Ex -> List A -> Option Bool) : Option Bool :=
 z39 N x.1 x.2.1 (fun a2 => (K .normal (mkS [(2, .box (.pair (.pair .str (.pair (.sl (.pair .str (.pair .str .unit))) (.pair .str .unit))) (.pair (.sl (.pair .str (.pair (.sl (.pair .str (.pair .str .unit))) (.pair .str .unit)))) .unit))), (0, .box (.pair (.pair .str (.pair (.sl (.pair .str (.pair .str .unit))) (.pair .str .unit))) (.pair (.sl (.pair .str (.pair (.sl (.pair .str (.pair .str .unit))) (.pair .str .unit)))) .unit))), (16, .v .bool)] 19 (x.1, x.2.1, a2, ()))))

def z6g (N : Nat) : Hd Bool := fun st K => (unS [(2, .box (.pair (.pair .str (.pair (.sl (.pair .str (.pair .str .unit))) (.pair .str .unit))) (.pair (.sl (.pair .str (.pair (.sl (.pair .str (.pair .str .unit))) (.pair .str .unit)))) .unit))), (0, .box (.pair (.pair .str (.pair (.sl (.pair .str (.pair .str .unit))) (.pair .str .unit))) (.pair (.sl (.pair .str (.pair (.sl (.pair .str (.pair .str .unit))) (.pair .str .unit)))) .unit)))] 36 (restr [2, 3] 0 st)).bind fun x => z6j N x K

def zdn (N : Nat) : Tab Bool := []

theorem zco {N : Nat} {c : Ctx} (hb : Base Go.Proofs.Tryd.prog (z1d N) c) : z16 Go.Proofs.Tryd.prog c (zl zu [0, 0, 1]) (z6g N) :=
  z1n (s := [(2, .box (.pair (.pair .str (.pair (.sl (.pair .str (.pair .str .unit))) (.pair .str .unit))) (.pair (.sl (.pair .str (.pair (.sl (.pair .str (.pair .str .unit))) (.pair .str .unit)))) .unit))), (0, .box (.pair (.pair .str (.pair (.sl (.pair .str (.pair .str .unit))) (.pair .str .unit))) (.pair (.sl (.pair .str (.pair (.sl (.pair .str (.pair .str .unit))) (.pair .str .unit)))) .unit)))]) (m := 36) (g := z6j N) [2, 3] (zh hb N (zdn N) z1u zu TabOk.nil [0, 0, 1] _ rfl) (fun x K => by kernel_rfl)

def z3a (N : Nat) (a : (((List UInt8) × ((List ((List UInt8) × ((List UInt8) × Unit))) × ((List UInt8) × Unit))) × ((List ((List UInt8) × ((List ((List UInt8) × ((List UInt8) × Unit))) × ((List UInt8) × Unit)))) × Unit))) (b : (((List UInt8) × ((List ((List UInt8) × ((List UInt8) × Unit))) × ((List UInt8) × Unit))) × ((List ((List UInt8) × ((List ((List UInt8) × ((List UInt8) × Unit))) × ((List UInt8) × Unit)))) × Unit))) (k0 : Bool -> Option Bool) (k1 : Option Bool) : Option Bool :=
 z39 N a b
 (fun x20 => cond x20
 (k0 false)
 (k1))

def z6k (N : Nat) (x : z2d [(2, .box (.pair (.pair .str (.pair (.sl (.pair .str (.pair .str .unit))) (.pair .str .unit))) (.pair (.sl (.pair .str (.pair (.sl (.pair .str (.pair .str .unit))) (.pair .str .unit)))) .unit))), (0, .box (.pair (.pair .str (.pair (.sl (.pair .str (.pair .str .unit))) (.pair .str .unit))) (.pair (.sl (.pair .str (.pair (.sl (.pair .str (.pair .str .unit))) (.pair .str .unit)))) .unit)))]) (K : Ex -> List A -> Option Bool) : Option Bool :=
 z3a N x.1 x.2.1 (fun a0 => (K .ret (mkS [(4, .v .bool)] 35 (a0, ())))) (K .normal (mkS [(2, .box (.pair (.pair .str (.pair (.sl (.pair .str (.pair .str .unit))) (.pair .str .unit))) (.pair (.sl (.pair .str (.pair (.sl (.pair .str (.pair .str .unit))) (.pair .str .unit)))) .unit))), (0, .box (.pair (.pair .str (.pair (.sl (.pair .str (.pair .str .unit))) (.pair .str .unit))) (.pair (.sl (.pair .str (.pair (.sl (.pair .str (.pair .str .unit))) (.pair .str .unit)))) .unit)))] 36 (x.1, x.2.1, ())))

def z6h (N : Nat) : Hd Bool := fun st K => (unS [(2, .box (.pair (.pair .str (.pair (.sl (.pair .str (.pair .str .unit))) (.pair .str .unit))) (.pair (.sl (.pair .str (.pair (.sl (.pair .str (.pair .str .unit))) (.pair .str .unit)))) .unit))), (0, .box (.pair (.pair .str (.pair (.sl (.pair .str (.pair .str .unit))) (.pair .str .unit))) (.pair (.sl (.pair .str (.pair (.sl (.pair .str (.pair .str .unit))) (.pair .str .unit)))) .unit)))] 36 (restr [2, 3] 0 st)).bind fun x => z6k N x K

def zdo (N : Nat) : Tab Bool := [([0, 0, 1], z6g N)]

theorem zcp {N : Nat} {c : Ctx} (hb : Base Go.Proofs.Tryd.prog (z1d N) c) : z16 Go.Proofs.Tryd.prog c (zl zu [0, 1]) (z6h N) :=
  z1n (s := [(2, .box (.pair (.pair .str (.pair (.sl (.pair .str (.pair .str .unit))) (.pair .str .unit))) (.pair (.sl (.pair .str (.pair (.sl (.pair .str (.pair .str .unit))) (.pair .str .unit)))) .unit))), (0, .box (.pair (.pair .str (.pair (.sl (.pair .str (.pair .str .unit))) (.pair .str .unit))) (.pair (.sl (.pair .str (.pair (.sl (.pair .str (.pair .str .unit))) (.pair .str .unit)))) .unit)))]) (m := 36) (g := z6k N) [2, 3] (zh hb N (zdo N) z1u zu (TabOk.cons (zco hb) TabOk.nil) [0, 1] _ rfl) (fun x K => by kernel_rfl)

def z38 (N : Nat) (a : (((List UInt8) × ((List ((List UInt8) × ((List UInt8) × Unit))) × ((List UInt8) × Unit))) × ((List ((List UInt8) × ((List ((List UInt8) × ((List UInt8) × Unit))) × ((List UInt8) × Unit)))) × Unit))) (b : (((List UInt8) × ((List ((List UInt8) × ((List UInt8) × Unit))) × ((List UInt8) × Unit))) × ((List ((List UInt8) × ((List ((List UInt8) × ((List UInt8) × Unit))) × ((List UInt8) × Unit)))) × Unit))) (i : Int) (rec : Int -> Option Bool) (k0 : Bool -> Option Bool) (k1 : Option Bool) : Option Bool :=
 cond (decide (i < (((List.length a.2.1) : Nat) : Int)))
 (cond (Go.Lift.inR i (List.length a.2.1))
 (cond (Go.Lift.inR i (List.length b.2.1))
 ((z1x N (List.getD a.2.1 (Int.toNat i) (([] : List UInt8), (([] : List ((List UInt8) × ((List UInt8) × Unit))), (([] : List UInt8), ())))) (List.getD b.2.1 (Int.toNat i) (([] : List UInt8), (([] : List ((List UInt8) × ((List UInt8) × Unit))), (([] : List UInt8), ()))))).bind fun y =>
 cond (!y)
 (k0 false)
 (rec (Go.IntKind.wrap Go.IntKind.i64 (i + (1 : Int)))))
 (none))
 (none))
 (k1)

def z6e (N : Nat) (a : (((List UInt8) × ((List ((List UInt8) × ((List UInt8) × Unit))) × ((List UInt8) × Unit))) × ((List ((List UInt8) × ((List ((List UInt8) × ((List UInt8) × Unit))) × ((List UInt8) × Unit)))) × Unit))) (b : (((List UInt8) × ((List ((List UInt8) × ((List UInt8) × Unit))) × ((List UInt8) × Unit))) × ((List ((List UInt8) × ((List ((List UInt8) × ((List UInt8) × Unit))) × ((List UInt8) × Unit)))) × Unit))) (i : Int) (k0 : Bool -> Option Bool) (k1 : Option Bool) : Option Bool :=
 iter (fun (v : Int) r => z38 N a b v (fun i => (r i)) k0 k1) N i

def z6i (N : Nat) (i : ((((List UInt8) × ((List ((List UInt8) × ((List UInt8) × Unit))) × ((List UInt8) × Unit))) × ((List ((List UInt8) × ((List ((List UInt8) × ((List UInt8) × Unit))) × ((List UInt8) × Unit)))) × Unit)) × (((List UInt8) × ((List ((List UInt8) × ((List UInt8) × Unit))) × ((List UInt8) × Unit))) × ((List ((List UInt8) × ((List ((List UInt8) × ((List UInt8) × Unit))) × ((List UInt8) × Unit)))) × Unit)))) (v : Int) (r : Int -> Option Bool) (K : Ex -> List A -> Option Bool) : Option Bool :=
 z38 N i.1 i.2 v (fun i => (r i)) (fun a0 => (K .ret (mkS [(4, .v .bool)] 35 (a0, ())))) (K (.exit 0) (mkS [] 40 ()))

def z6f (N : Nat) : Hd Bool := fun st K => (unS [(2, .box (.pair (.pair .str (.pair (.sl (.pair .str (.pair .str .unit))) (.pair .str .unit))) (.pair (.sl (.pair .str (.pair (.sl (.pair .str (.pair .str .unit))) (.pair .str .unit)))) .unit))), (0, .box (.pair (.pair .str (.pair (.sl (.pair .str (.pair .str .unit))) (.pair .str .unit))) (.pair (.sl (.pair .str (.pair (.sl (.pair .str (.pair .str .unit))) (.pair .str .unit)))) .unit))), (1, .v (.int .i64))] 34 (restr [5, 2, 3] 0 st)).bind fun x => iter (fun v r => z6i N ((fun x => (x.1, x.2.1)) x) v r K) N ((fun x => x.2.2.1) x)

def zdm (N : Nat) : Tab Bool := []

theorem zcn {N : Nat} {c : Ctx} (hb : Base Go.Proofs.Tryd.prog (z1d N) c) : z16 Go.Proofs.Tryd.prog c (zl zu [0, 1, 0, 1, 1]) (z6f N) :=
  z88 (s := [(2, .box (.pair (.pair .str (.pair (.sl (.pair .str (.pair .str .unit))) (.pair .str .unit))) (.pair (.sl (.pair .str (.pair (.sl (.pair .str (.pair .str .unit))) (.pair .str .unit)))) .unit))), (0, .box (.pair (.pair .str (.pair (.sl (.pair .str (.pair .str .unit))) (.pair .str .unit))) (.pair (.sl (.pair .str (.pair (.sl (.pair .str (.pair .str .unit))) (.pair .str .unit)))) .unit))), (1, .v (.int .i64))]) (m := 34) (z6i N) [5, 2, 3] N (fun x => (x.1, x.2.1)) (fun x => x.2.2.1) (fun i v => (i.1, i.2, v, ())) (fun _ => rfl) (zh hb N (zdm N) z1u zu TabOk.nil [0, 0, 1, 0, 1, 1] _ rfl) (fun i v r K => by kernel_rfl)

def z1q (N : Nat) (a : (((List UInt8) × ((List ((List UInt8) × ((List UInt8) × Unit))) × ((List UInt8) × Unit))) × ((List ((List UInt8) × ((List ((List UInt8) × ((List UInt8) × Unit))) × ((List UInt8) × Unit)))) × Unit))) (b : (((List UInt8) × ((List ((List UInt8) × ((List UInt8) × Unit))) × ((List UInt8) × Unit))) × ((List ((List UInt8) × ((List ((List UInt8) × ((List UInt8) × Unit))) × ((List UInt8) × Unit)))) × Unit))) : Option Bool :=
 z3a N a b
 (fun x4 => some x4)
 (z6e N a b (0 : Int)
 (fun x41 => some x41)
 (some true))

def z76 (N : Nat) : Tab Bool := [([0, 1], z6h N), ([0, 1, 0, 1, 1], z6f N)]

theorem zbn (N : Nat) (x : z2d [(0, .v (.pair (.pair .str (.pair (.sl (.pair .str (.pair .str .unit))) (.pair .str .unit))) (.pair (.sl (.pair .str (.pair (.sl (.pair .str (.pair .str .unit))) (.pair .str .unit)))) .unit))), (0, .v (.pair (.pair .str (.pair (.sl (.pair .str (.pair .str .unit))) (.pair .str .unit))) (.pair (.sl (.pair .str (.pair (.sl (.pair .str (.pair .str .unit))) (.pair .str .unit)))) .unit)))]) : zc6 (z1d N) N (z76 N) z1u Go.Proofs.Tryd.f14 (mkS [(0, .v (.pair (.pair .str (.pair (.sl (.pair .str (.pair .str .unit))) (.pair .str .unit))) (.pair (.sl (.pair .str (.pair (.sl (.pair .str (.pair .str .unit))) (.pair .str .unit)))) .unit))), (0, .v (.pair (.pair .str (.pair (.sl (.pair .str (.pair .str .unit))) (.pair .str .unit))) (.pair (.sl (.pair .str (.pair (.sl (.pair .str (.pair .str .unit))) (.pair .str .unit)))) .unit)))] 0 x) (z6u (.v .bool) 2) = z1q N x.1 x.2.1 := by kernel_rfl

def z2y (N : Nat) : List A -> Res := z1t [(0, .v (.pair (.pair .str (.pair (.sl (.pair .str (.pair .str .unit))) (.pair .str .unit))) (.pair (.sl (.pair .str (.pair (.sl (.pair .str (.pair .str .unit))) (.pair .str .unit)))) .unit))), (0, .v (.pair (.pair .str (.pair (.sl (.pair .str (.pair .str .unit))) (.pair .str .unit))) (.pair (.sl (.pair .str (.pair (.sl (.pair .str (.pair .str .unit))) (.pair .str .unit)))) .unit)))] (fun x => z1q N x.1 x.2.1) (zev (.v .bool) 2)

theorem z6l (N : Nat) : Contract Go.Proofs.Tryd.prog zi 14 (z2y N) :=
  Contract.of (E := z1d N) (H := z76 N) (L := z1u) (N := N) (body := zu) (K := (z6u (.v .bool) 2)) (zcq N) Go.Proofs.Tryd.func14 (by kernel_rfl) (by decide) (fun _ hb => (TabOk.cons (zcp hb) (TabOk.cons (zcn hb) TabOk.nil))) (fun x y h => by rw [zbn]; exact h) (z1v (s := (.v .bool)) (m := 2))

def glob : Nat -> Option Dat := lk [(0, ⟨.opq, Value.iface 123 (.agg #[.pointer (some ⟨1, 70, none⟩)])⟩)]

open Go.RowKit Go.Extern.Stop Go.Stop Go.Extern

theorem z19b (t : Value) (w : World) :
    Calls Tryd.prog 68 #[.nilIface, t] w fun e w' => e = .returned (.bool false) /\ w' = w := by
  go_enter Tryd.func68, Tryd.ntmps68
  go_wp2
  go_ret
  exact ⟨rfl, rfl⟩

theorem zwz (t : Addr) (w : World) : (ReflectliteValue.unpack (.iface 106 (.pointer (some t)))).run Tryd.prog w
    = .ok (.agg #[.pointer (some ⟨1, 106, none⟩), .pointer (some ⟨w.heap.size, 0, none⟩), .int .u64 150]) (w.alloc (.cells #[.pointer (some t)] 106)) := by kernel_rfl

theorem z15t (a : Addr) (w : World) : (ReflectliteValue.methodAny (ReflectliteValue.valueError "reflectlite.Value.Type" 0) (fun t _ _ _ => ReflectliteType.toType t) #[.agg #[.pointer (some ⟨1, 106, none⟩), .pointer (some a), .int .u64 150]]).run Tryd.prog w
    = .ok (.iface 123 (.agg #[.pointer (some ⟨1, 106, none⟩)])) w := by kernel_rfl

theorem zte (h : Value) (w : World) : (Go.method 263 123 (.agg #[h]) "Kind").run Tryd.prog w = .ok (95, h) w := by kernel_rfl

theorem z15u (w : World) : ((ReflectliteType.abiMethod fun t => (fun a : Nat => Value.int IntKind.u8 (a : Int)) <$> Rtype.kind t) #[.pointer (some ⟨1, 106, none⟩)]).run Tryd.prog w = .ok (.int .u8 22) w := by kernel_rfl

theorem z15v (w : World) : ((ReflectliteType.abiMethod fun t => (fun a : Nat => Value.int IntKind.u8 (a : Int)) <$> Rtype.kind t) #[.pointer (some ⟨1, 104, none⟩)]).run Tryd.prog w = .ok (.int .u8 25) w := by kernel_rfl

theorem z16o (z : Sem Value) (f : TypeId -> Addr -> Nat -> Nat -> Sem Value) (v : Value) :
    ReflectliteValue.method z f #[v] = (do match <- ReflectliteValue.parts v with | none => z | some (t, a, fl) => f t a fl (fl % 32)) := rfl

theorem zvi (a : Addr) (w : World) : (ReflectliteValue.parts (.agg #[.pointer (some ⟨1, 106, none⟩), .pointer (some a), .int .u64 150])).run Tryd.prog w = .ok (some (106, a, 150)) w := by kernel_rfl

theorem z13v (a p : Addr) (W : World) (ha : W.cell? a = some (.pointer (some p))) :
    (ReflectliteValue.method (ReflectliteValue.valueError "reflectlite.Value.IsNil" 0) ReflectliteValue.isNil #[.agg #[.pointer (some ⟨1, 106, none⟩), .pointer (some a), .int .u64 150]]).run Tryd.prog W = .ok (.bool false) W := by
  rw [z16o]
  simp only [Sem.run_bind, zvi, Result.andThen]
  simp [ReflectliteValue.isNil, loadVar, isAgg, underlying, Tryd.underlying106, ha, Result.andThen]

theorem ztf (h : Value) (w : World) : (Go.method 263 123 (.agg #[h]) "Elem").run Tryd.prog w = .ok (106, .agg #[h]) w := by kernel_rfl

theorem zk6 (h : Value) (w : World) : (Go.method 263 123 (.agg #[h]) "Implements").run Tryd.prog w = .ok (107, .agg #[h]) w := by kernel_rfl

theorem zhp (h : Value) (w : World) : (Go.method 263 123 (.agg #[h]) "AssignableTo").run Tryd.prog w = .ok (104, .agg #[h]) w := by kernel_rfl

theorem z15x (w : World) : (ReflectliteType.method ReflectliteType.elem #[.agg #[.pointer (some ⟨1, 106, none⟩)]]).run Tryd.prog w = .ok (.iface 123 (.agg #[.pointer (some ⟨1, 104, none⟩)])) w := by kernel_rfl

theorem z18c (w : World) : (ReflectliteType.relation "Implements" ReflectliteType.implements_ #[.agg #[.pointer (some ⟨1, 104, none⟩)], .iface 123 (.agg #[.pointer (some ⟨1, 70, none⟩)])]).run Tryd.prog w = .ok (.bool true) w := by kernel_rfl

theorem z13s (v : Value) (w : World) : (ReflectliteType.typeOf #[.iface 104 v]).run Tryd.prog w = .ok (.iface 123 (.agg #[.pointer (some ⟨1, 104, none⟩)])) w := by kernel_rfl

theorem ztg (w : World) : (ReflectliteType.relation "AssignableTo" ReflectliteType.assignableTo #[.agg #[.pointer (some ⟨1, 104, none⟩)], .iface 123 (.agg #[.pointer (some ⟨1, 104, none⟩)])]).run Tryd.prog w = .ok (.bool true) w := by kernel_rfl

theorem zx0 (c : Int) (w : World) : (ReflectliteValue.unpack (.iface 104 (.agg #[.int .i64 c]))).run Tryd.prog w
    = .ok (.agg #[.pointer (some ⟨1, 104, none⟩), .pointer (some ⟨w.heap.size, 0, none⟩), .int .u64 153]) (w.alloc (.cells #[.int .i64 c] 104)) := by kernel_rfl

theorem z13w (w : World) : (Rtype.elem? 106).run Tryd.prog w = .ok (some 104) w := by kernel_rfl

theorem as_mk (p : Addr) (w : World) : (ReflectliteValue.mk 104 p ReflectliteValue.flagAddr).run Tryd.prog w = .ok (.agg #[.pointer (some ⟨1, 104, none⟩), .pointer (some p), .int .u64 409]) w := by kernel_rfl

theorem z15w (a p : Addr) (W : World) (ha : W.cell? a = some (.pointer (some p))) :
    (ReflectliteValue.method (ReflectliteValue.valueError "reflectlite.Value.Elem" 0) ReflectliteValue.elem #[.agg #[.pointer (some ⟨1, 106, none⟩), .pointer (some a), .int .u64 150]]).run Tryd.prog W
      = .ok (.agg #[.pointer (some ⟨1, 104, none⟩), .pointer (some p), .int .u64 409]) W := by
  rw [z16o]
  simp only [Sem.run_bind, zvi, Result.andThen]
  simp [ReflectliteValue.elem, loadVar, isAgg, underlying, Tryd.underlying106, ha, Result.andThen, z13w, as_mk]

theorem z19a (v x : Value) : ReflectliteValue.set #[v, x] = (do
    let (some (dst, a, fl), some (src, b, _)) := (<- ReflectliteValue.parts v, <- ReflectliteValue.parts x)
      | unsupported (.noEntry "extern/(internal/reflectlite.Value).Set.zeroValue")
    if fl / ReflectliteValue.flagAddr % 2 == 0 then unsupported (.noEntry "extern/(internal/reflectlite.Value).Set.unaddressable")
    let val <- loadVar src b
    if <- Rtype.directlyAssignable dst src then storeVar dst a val
    else if <- Rtype.implements dst src then
      if (<- Rtype.kind src) == 20 then
        match val with
        | .nilIface => unsupported (.noEntry "extern/reflectlite: a nil value of one interface type handed on as a value of another")
        | _ => storeVar dst a val
      else storeVar dst a (.iface src val)
    else panicString ("reflectlite.Set: value of type " ++ (<- Rtype.spelt src) ++ " is not assignable to type " ++ (<- Rtype.spelt dst))
    pure (.tuple #[])) := rfl

theorem z13u (a : Addr) (w : World) : (ReflectliteValue.parts (.agg #[.pointer (some ⟨1, 104, none⟩), .pointer (some a), .int .u64 409])).run Tryd.prog w = .ok (some (104, a, 409)) w := by kernel_rfl

theorem z13t (a : Addr) (w : World) : (ReflectliteValue.parts (.agg #[.pointer (some ⟨1, 104, none⟩), .pointer (some a), .int .u64 153])).run Tryd.prog w = .ok (some (104, a, 153)) w := by kernel_rfl

theorem z13x (w : World) : (Rtype.directlyAssignable 104 104).run Tryd.prog w = .ok true w := by kernel_rfl

theorem z199 (ta b : Addr) (c : Int) (old : Value) (W : World) (hb : W.cell? b = some (.int .i64 c)) (ht : W.cell? ta = some old) (hf : W.frozen? ta = false) :
    (ReflectliteValue.set #[.agg #[.pointer (some ⟨1, 104, none⟩), .pointer (some ta), .int .u64 409], .agg #[.pointer (some ⟨1, 104, none⟩), .pointer (some b), .int .u64 153]]).run Tryd.prog W
      = .ok (.tuple #[]) (W.setCell ta (.int .i64 c)) := by
  have lc : (loadCells b 1).run Tryd.prog W = .ok #[.int .i64 c] W := by
    simp [loadCells, loadCellsFrom, hb, Result.andThen, Addr.add]
  rw [z19a]
  simp only [Sem.run_bind, z13u, z13t, Result.andThen]
  simp [ReflectliteValue.flagAddr, loadVar, isAgg, underlying, Tryd.underlying104, lc, Result.andThen, z13x, storeVar, Value.cells, storeCells, Addr.add]
  rw [run_store Tryd.prog W ta _ _ (by rfl)]
  simp [ht, hf]

set_option maxHeartbeats 4000000 in
theorem z19c (c : Int) (t : Addr) (old : Value) (w : World) (hg : w.cell? ⟨0, 0, none⟩ = some (.iface 123 (.agg #[.pointer (some ⟨1, 70, none⟩)]))) (ht0 : w.cell? t = some old) (hf0 : w.frozen? t = false) :
    Calls Tryd.prog 68 #[.iface 104 (.agg #[.int .i64 c]), .iface 106 (.pointer (some t))] w fun ev w' => ev = .returned (.bool true) /\ w' = ((((w.alloc (.cells #[.pointer (some t)] 106)).alloc (.cells #[.pointer (some ⟨1, 106, none⟩), .pointer (some ⟨w.heap.size, 0, none⟩), .int .u64 150] 113)).alloc (.cells #[.pointer (some ⟨1, 106, none⟩), .pointer (some ⟨w.heap.size, 0, none⟩), .int .u64 150] 113)).alloc (.cells #[.int .i64 c] 104)).setCell t (.int .i64 c) := by
  have h6 := @run_callFunc_extern Tryd.prog 74 _ (fun args => ReflectliteValue.unpack (args.getD 0 (.tuple #[]))) Tryd.func74 (by kernel_rfl) (by kernel_rfl) (by kernel_rfl) (by kernel_rfl)
  have h7 := @run_callFunc_extern Tryd.prog 75 _ (ReflectliteValue.methodAny (ReflectliteValue.valueError "reflectlite.Value.Type" 0) (fun t _ _ _ => ReflectliteType.toType t)) Tryd.func75 (by kernel_rfl) (by kernel_rfl) (by kernel_rfl) (by kernel_rfl)
  have h8 := @run_callFunc_extern Tryd.prog 76 _ (ReflectliteValue.method (ReflectliteValue.valueError "reflectlite.Value.IsNil" 0) ReflectliteValue.isNil) Tryd.func76 (by kernel_rfl) (by kernel_rfl) (by kernel_rfl) (by kernel_rfl)
  have h27 := @run_callFunc_extern Tryd.prog 95 _ (ReflectliteType.abiMethod fun t => do pure (.int .u8 (<- Rtype.kind t))) Tryd.func95 (by kernel_rfl) (by kernel_rfl) (by kernel_rfl) (by kernel_rfl)
  have h37 := @run_callFunc_extern Tryd.prog 106 _ (ReflectliteType.method ReflectliteType.elem) Tryd.func106 (by kernel_rfl) (by kernel_rfl) (by kernel_rfl) (by kernel_rfl)
  have h38 := @run_callFunc_extern Tryd.prog 107 _ (ReflectliteType.relation "Implements" ReflectliteType.implements_) Tryd.func107 (by kernel_rfl) (by kernel_rfl) (by kernel_rfl) (by kernel_rfl)
  have h10 := @run_callFunc_extern Tryd.prog 78 _ ReflectliteType.typeOf Tryd.func78 (by kernel_rfl) (by kernel_rfl) (by kernel_rfl) (by kernel_rfl)
  have h35 := @run_callFunc_extern Tryd.prog 104 _ (ReflectliteType.relation "AssignableTo" ReflectliteType.assignableTo) Tryd.func104 (by kernel_rfl) (by kernel_rfl) (by kernel_rfl) (by kernel_rfl)
  have h11 := @run_callFunc_extern Tryd.prog 79 _ (ReflectliteValue.method (ReflectliteValue.valueError "reflectlite.Value.Elem" 0) ReflectliteValue.elem) Tryd.func79 (by kernel_rfl) (by kernel_rfl) (by kernel_rfl) (by kernel_rfl)
  have h12 := @run_callFunc_extern Tryd.prog 80 _ ReflectliteValue.set Tryd.func80 (by kernel_rfl) (by kernel_rfl) (by kernel_rfl) (by kernel_rfl)
  have tO := z13s
  have mA := zhp
  have a25 := ztg
  have v25 := zx0
  have f6 := zwz
  have f7 := z15t
  have mK := zte
  have mE := ztf
  have mI := zk6
  have k27 := z15u
  have k25 := z15v
  have e27 := z15x
  have i25 := z18c
  have n8 := z13v ⟨w.heap.size, 0, none⟩ t ((w.alloc (.cells #[.pointer (some t)] 106)).alloc (.cells #[.pointer (some ⟨1, 106, none⟩), .pointer (some ⟨w.heap.size, 0, none⟩), .int .u64 150] 113)) (by simp)
  have hlt : 0 < w.heap.size := by
    rcases Nat.eq_zero_or_pos w.heap.size with h0 | h
    . simp [World.cell?, h0] at hg
    . exact h
  have hg2 : ((w.alloc (.cells #[.pointer (some t)] 106)).alloc (.cells #[.pointer (some ⟨1, 106, none⟩), .pointer (some ⟨w.heap.size, 0, none⟩), .int .u64 150] 113)).cell? ⟨0, 0, none⟩ = some (.iface 123 (.agg #[.pointer (some ⟨1, 70, none⟩)])) := by
    rw [World.cell?_alloc_lt _ _ ⟨0, 0, none⟩ (by simp), World.cell?_alloc_lt _ _ ⟨0, 0, none⟩ hlt]; exact hg
  have htl : t.block < w.heap.size := by
    rcases Nat.lt_or_ge t.block w.heap.size with h | h
    . exact h
    . simp [World.cell?, Array.getElem?_eq_none h] at ht0
  have el := z15w ⟨w.heap.size, 0, none⟩ t (((w.alloc (.cells #[.pointer (some t)] 106)).alloc (.cells #[.pointer (some ⟨1, 106, none⟩), .pointer (some ⟨w.heap.size, 0, none⟩), .int .u64 150] 113)).alloc (.cells #[.pointer (some ⟨1, 106, none⟩), .pointer (some ⟨w.heap.size, 0, none⟩), .int .u64 150] 113)) (by rw [World.cell?_alloc_lt _ _ ⟨w.heap.size, 0, none⟩ (by simp; omega)]; simp)
  have st := z199 t ⟨w.heap.size + 1 + 1 + 1, 0, none⟩ c old ((((w.alloc (.cells #[.pointer (some t)] 106)).alloc (.cells #[.pointer (some ⟨1, 106, none⟩), .pointer (some ⟨w.heap.size, 0, none⟩), .int .u64 150] 113)).alloc (.cells #[.pointer (some ⟨1, 106, none⟩), .pointer (some ⟨w.heap.size, 0, none⟩), .int .u64 150] 113)).alloc (.cells #[.int .i64 c] 104))
    (by rw [World.cell?_alloc_at _ _ _ _ (by simp)]; rfl)
    (by rw [World.cell?_alloc_lt _ _ t (by simp; omega), World.cell?_alloc_lt _ _ t (by simp; omega), World.cell?_alloc_lt _ _ t (by simp; omega), World.cell?_alloc_lt _ _ t htl]; exact ht0)
    (by rw [World.frozen?_alloc_old _ _ t (by simp; omega), World.frozen?_alloc_old _ _ t (by simp; omega), World.frozen?_alloc_old _ _ t (by simp; omega), World.frozen?_alloc_old _ _ t (Nat.ne_of_lt htl)]; exact hf0)
  go_enter Tryd.func68, Tryd.ntmps68
  go_wp2
  refine wp_loop_rounds 1 ?_
  rw [rounds_succ]
  go_wp2
  go_ret
  exact ⟨rfl, rfl⟩

theorem z10c (w : World) : Calls Tryd.prog 56 #[.nilIface] w fun e w' => e = .returned (.int .i64 0) /\ w' = w.alloc (.cells #[.int .i64 0] 104) := by
  go_enter Tryd.func56, Tryd.ntmps56
  go_wp2_with (first | (go_at_call 68; refine (z19b _ _).mono ?_; rintro e w' ⟨rfl, rfl⟩))
  go_ret
  exact ⟨rfl, rfl⟩

def asW (w : World) (c : Int) : World := (((((w.alloc (.cells #[.int .i64 0] 104)).alloc (.cells #[.pointer (some ⟨w.heap.size, 0, none⟩)] 106)).alloc (.cells #[.pointer (some ⟨1, 106, none⟩), .pointer (some ⟨w.heap.size + 1, 0, none⟩), .int .u64 150] 113)).alloc (.cells #[.pointer (some ⟨1, 106, none⟩), .pointer (some ⟨w.heap.size + 1, 0, none⟩), .int .u64 150] 113)).alloc (.cells #[.int .i64 c] 104)).setCell ⟨w.heap.size, 0, none⟩ (.int .i64 c)

theorem z18d (c : Int) (w : World) (hg : w.cell? ⟨0, 0, none⟩ = some (.iface 123 (.agg #[.pointer (some ⟨1, 70, none⟩)]))) : Calls Tryd.prog 68 #[.iface 104 (.agg #[.int .i64 c]), .iface 106 (.pointer (some ⟨w.heap.size, 0, none⟩))] (w.alloc (.cells #[.int .i64 0] 104)) fun e w' => e = .returned (.bool true) /\ w' = asW w c := by
  have hlt : 0 < w.heap.size := by
    rcases Nat.eq_zero_or_pos w.heap.size with h0 | h
    . simp [World.cell?, h0] at hg
    . exact h
  have h1 : (w.alloc (.cells #[.int .i64 0] 104)).cell? ⟨0, 0, none⟩ = some (.iface 123 (.agg #[.pointer (some ⟨1, 70, none⟩)])) := by
    rw [World.cell?_alloc_lt _ _ ⟨0, 0, none⟩ hlt]; exact hg
  have hs : (w.alloc (.cells #[.int .i64 0] 104)).heap.size = w.heap.size + 1 := by simp
  refine (z19c c ⟨w.heap.size, 0, none⟩ (.int .i64 0) (w.alloc (.cells #[.int .i64 0] 104)) h1 (by simp) (by simp)).mono fun e w' ⟨h2, h3⟩ => ⟨h2, ?_⟩
  rw [h3, hs]; rfl

theorem z15z (w : World) (c : Int) : (asW w c).cell? ⟨w.heap.size, 0, none⟩ = some (.int .i64 c) := by
  have h : (((((w.alloc (.cells #[.int .i64 0] 104)).alloc (.cells #[.pointer (some ⟨w.heap.size, 0, none⟩)] 106)).alloc (.cells #[.pointer (some ⟨1, 106, none⟩), .pointer (some ⟨w.heap.size + 1, 0, none⟩), .int .u64 150] 113)).alloc (.cells #[.pointer (some ⟨1, 106, none⟩), .pointer (some ⟨w.heap.size + 1, 0, none⟩), .int .u64 150] 113)).alloc (.cells #[.int .i64 c] 104)).heap[w.heap.size]? = some (.cells #[.int .i64 0] 104 (0, 0)) := by
    simp only [World.alloc, Array.getElem?_push, Array.size_push]
    rw [if_neg (by omega), if_neg (by omega), if_neg (by omega), if_neg (by omega), if_pos trivial]
  unfold asW
  simp only [World.setCell, World.cell?]
  rw [Array.getElem?_modify, if_pos rfl, h]
  rfl

theorem z10d (c : Int) (w : World) (hg : w.cell? ⟨0, 0, none⟩ = some (.iface 123 (.agg #[.pointer (some ⟨1, 70, none⟩)]))) : Calls Tryd.prog 56 #[.iface 104 (.agg #[.int .i64 c])] w fun e w' => e = .returned (.int .i64 c) /\ w' = asW w c := by
  have hc := z15z w c
  go_enter Tryd.func56, Tryd.ntmps56
  go_wp2_with (first | (go_at_call 68; refine (z18d c w hg).mono ?_; rintro e w' ⟨rfl, rfl⟩))
  go_ret
  exact ⟨rfl, rfl⟩

theorem z15y (w : World) (c : Int) : w.heap.size <= (asW w c).heap.size /\ (∀ k, k < w.heap.size -> (asW w c).heap[k]? = w.heap[k]?) /\ (asW w c).tape = w.tape /\ (asW w c).os = w.os /\ (asW w c).output = w.output := by
  unfold asW
  refine ⟨by simp [World.setCell]; omega, fun k hk => ?_, rfl, rfl, rfl⟩
  simp only [World.setCell, World.alloc, Array.getElem?_modify, Array.getElem?_push, Array.size_push]
  rw [if_neg (by omega), if_neg (by omega), if_neg (by omega), if_neg (by omega), if_neg (by omega), if_neg (by omega)]

def errP (v : Value) : Option Int := match v with
  | .nilIface => some 0
  | .iface t (.agg cs) => match cs.toList with
    | [.int .i64 c] => cond (Nat.beq t 104) (some c) none
    | _ => none
  | _ => none

def eV (c : Int) : Value := .iface 104 (.agg #[.int .i64 c])

theorem z15c {v : Value} {c : Int} (h : errP v = some c) : (v = .nilIface /\ c = 0) \/ v = .iface 104 (.agg #[.int .i64 c]) := by
  unfold errP at h
  split at h
  . exact .inl ⟨rfl, (Option.some.inj h).symm⟩
  . rename_i t cs
    split at h
    . rename_i c' hc
      cases ht : Nat.beq t 104 with
      | false => rw [ht] at h; cases h
      | true =>
        rw [ht] at h
        have e1 := Nat.eq_of_beq_eq_true ht
        have e2 : c' = c := Option.some.inj h
        refine .inr ?_
        rw [e1, <- e2]
        congr 2
        apply Array.toList_inj.1
        rw [hc]
    . cases h
  . cases h

theorem zpv {w w' : World} {S : Hp} {args : List A} {vals : List Value} {ob : Nat -> List Nat} {rA : A} {rV : Value} {outs : List A} (hS : Lift.Sub S (hp w))
    (hb : ∀ y ∈ args, z8q y = false) (hob : ∀ i, ob i = []) (hw : w.heap.size <= w'.heap.size /\ (∀ k, k < w.heap.size -> w'.heap[k]? = w.heap[k]?) /\ w'.tape = w.tape /\ w'.os = w.os /\ w'.output = w.output) (hr : ∀ S', ARel (hp w') S' (fun _ => undef) rA rV []) (hrr : rA.refs = []) : Lift.Ends w S args vals ob rA outs (.returned rV) w' := by
  obtain ⟨h1, h2, h3, h4, h5⟩ := hw
  refine ⟨rV, S, [], ob, rfl, ⟨h1, fun k hk _ => h2 k hk, h3, h4, h5⟩, Lift.Sub.refl S, fun k q hq => ?_, fun k hk => .inl hk, ⟨hr S, hrr⟩, (fun k hk => by cases hk), .nil, ?_, ?_, ?_, ?_, fun _ h => h⟩
  . have := hS k q hq
    simp only [hp] at this ⊢
    rw [h2 k (Array.getElem?_eq_some_iff.1 this).1]; exact this
  . intro i y hy hbx
    have := hb y (List.mem_of_getElem? hy)
    rw [hbx] at this; cases this
  . intro i k hk
    rw [hob i] at hk; cases hk
  . intro i j k hi
    rw [hob i] at hi; cases hi
  . intro i
    rw [hob i]; exact .nil

theorem zqx {w : World} {S : Hp} (hS : Lift.Sub S (hp w)) (hg : GlobOk glob S) : w.cell? ⟨0, 0, none⟩ = some (.iface 123 (.agg #[.pointer (some ⟨1, 70, none⟩)])) := by
  have h := hg 0 ⟨.opq, .iface 123 (.agg #[.pointer (some ⟨1, 70, none⟩)])⟩ rfl
  obtain ⟨b, off, c1, e, ⟨all, E, fr, c0, c2, h1, h2, h3⟩, h4, _⟩ := VR.ptr_inv h
  have e0 : (some (⟨0, 0, none⟩ : Addr)) = some ⟨b, off, none⟩ := Value.pointer.inj e
  have e1 := Option.some.inj e0
  have eb : b = 0 := (congrArg Addr.block e1).symm
  have eo : off = 0 := (congrArg Addr.off e1).symm
  subst eb eo
  have hw : w.heap[0]? = some (.cells all E fr) := hS 0 _ h1
  simp only [World.cell?, hw]
  have hc0 : c0 = [] := List.length_eq_zero_iff.1 h3
  have : all.toList[0]? = some (.iface 123 (.agg #[.pointer (some ⟨1, 70, none⟩)])) := by
    rw [h2, hc0, h4]; rfl
  simpa using this

def zbv (N : Nat) (v : Value) : Option Int := errP v

def z90 (N : Nat) : List A -> Res := z1t [(0, .v .opq)] (fun x => zbv N x.1) (zev (.v (.int .i64)) 1)

theorem zg9 (N : Nat) : Contract Tryd.prog glob 56 (z90 N) := by
  refine Contract.hand ⟨_, Tryd.func56, by kernel_rfl, by decide⟩ ?_
  rintro w S vals ob ⟨v, ⟨⟩⟩ y har hS hg hy
  have hy' : errP v = some y := hy
  obtain ⟨⟨u1, e1, r1⟩, _⟩ := har.rel 0 _ rfl
  have hob : ∀ i, ob i = [] := by
    intro i
    match i with
    | 0 => exact r1.2
    | i + 1 => exact har.out _ (by simp [mkS, zbc])
  have hv : vals = [u1] := by
    match vals, har.len, e1 with
    | [a], _, h1 => simp at h1; rw [h1]
  subst hv
  have hu := VR.opq_inv r1.1
  subst hu
  have hbx : ∀ y ∈ (mkS [(0, .v .opq)] 0 ((u1, ()) : z2d [(0, .v .opq)])), z8q y = false := by
    intro y hy
    have hy : y ∈ [A.v .opq u1] := hy
    rw [List.mem_singleton.1 hy]; rfl
  rcases z15c hy' with ⟨rfl, rfl⟩ | rfl
  . refine (z10c w).mono fun e w' ⟨h1, h2⟩ => ?_
    subst h1 h2
    exact zpv hS hbx hob ⟨by simp, fun k hk => by simp only [World.alloc, Array.getElem?_push]; rw [if_neg (by omega)], rfl, rfl, rfl⟩ (fun S' => ⟨VR.int, rfl⟩) rfl
  . refine (z10d y w (zqx hS hg)).mono fun e w' ⟨h1, h2⟩ => ?_
    subst h1 h2
    exact zpv hS hbx hob (z15y w y) (fun S' => ⟨VR.int, rfl⟩) rfl

def zqk : Code := (Go.Proofs.Tryd.f51.body).getD .skip

def zof : List (List Nat × List Nat) := [([0], [1]), ([0, 0, 1], [4, 1]), ([0, 1, 0, 1], [9, 4, 1]), ([1, 1, 0, 1], [1]), ([0, 0, 1, 1, 0, 1], [2, 3]), ([1, 0, 1, 1, 0, 1], [2, 3]), ([0, 1, 1], [2, 3]), ([1, 1, 1], [2, 3])]

def zjj (N : Nat) : Env := z3q tys glob [(56, z90 N), (58, zcd N), (66, zga N)] [] [] [] false [] []

theorem zsa (N : Nat) : EnvOk Go.Proofs.Tryd.prog (zjj N) := zq mixed z1z (FnsOk.cons (zg9 N) (FnsOk.cons ((Contract.up (zko N) glob)) (FnsOk.cons ((Contract.up (zqf N) glob)) (FnsOk.nil)))) (ItsOk.nil)

def zd9 (N : Nat) (t : ((List UInt8) × ((List ((List UInt8) × ((List UInt8) × Unit))) × ((List UInt8) × Unit)))) : Option ((List UInt8) × Int × Unit) :=
 (zag N t).bind fun y =>
 (zbv N y).bind fun y1 =>
 cond (y1 != (0 : Int))
 (some (([] : List UInt8), (y1, ())))
 ((za6 N t).bind fun y2 =>
 cond (decide (((List.length y2) + (List.length t.2.2.1)) <= 9223372036854775807))
 (some ((y2 ++ t.2.2.1), ((0 : Int), ())))
 (none))

def zoe (N : Nat) : Tab ((List UInt8) × Int × Unit) := []

theorem zqj (N : Nat) (x : z2d [(0, .v (.pair .str (.pair (.sl (.pair .str (.pair .str .unit))) (.pair .str .unit))))]) : zc6 (zjj N) N (zoe N) zof Go.Proofs.Tryd.f51 (mkS [(0, .v (.pair .str (.pair (.sl (.pair .str (.pair .str .unit))) (.pair .str .unit))))] 0 x) (z6u (.tup [.str, (.int .i64)]) 1) = zd9 N x.1 := by kernel_rfl

def zs9 (N : Nat) : List A -> Res := z1t [(0, .v (.pair .str (.pair (.sl (.pair .str (.pair .str .unit))) (.pair .str .unit))))] (fun x => zd9 N x.1) (zev (.tup [.str, (.int .i64)]) 1)

theorem ztm (N : Nat) : Contract Go.Proofs.Tryd.prog glob 51 (zs9 N) :=
  Contract.of (E := zjj N) (H := zoe N) (L := zof) (N := N) (body := zqk) (K := (z6u (.tup [.str, (.int .i64)]) 1)) (zsa N) Go.Proofs.Tryd.func51 (by kernel_rfl) (by decide) (fun _ hb => TabOk.nil) (fun x y h => by rw [zqj]; exact h) (z1v (s := (.tup [.str, (.int .i64)])) (m := 1))

def zod : Code := (Go.Proofs.Tryd.f36.body).getD .skip

def zmo : List (List Nat × List Nat) := [([0], [1]), ([0, 0, 1], [6, 1]), ([1, 0, 1], [1]), ([0, 0, 1, 0, 1], [2]), ([1, 0, 1, 0, 1], [2]), ([0, 1, 1], [2]), ([1, 1, 1], [2])]

def zgc (N : Nat) : Env := z3q tys glob [(56, z90 N), (58, zcd N), (57, z63 N)] [] [] [] false [] []

theorem zqi (N : Nat) : EnvOk Go.Proofs.Tryd.prog (zgc N) := zq mixed z1z (FnsOk.cons (zg9 N) (FnsOk.cons ((Contract.up (zko N) glob)) (FnsOk.cons ((Contract.up (zby N) glob)) (FnsOk.nil)))) (ItsOk.nil)

def zd8 (N : Nat) (t : ((List UInt8) × ((List ((List UInt8) × ((List UInt8) × Unit))) × ((List UInt8) × Unit)))) : Option Int :=
 (z35 N t).bind fun y =>
 (zbv N y).bind fun y1 =>
 cond (y1 != (0 : Int))
 (some (0 : Int))
 ((za6 N t).bind fun y2 =>
 some (Go.IntKind.wrap Go.IntKind.i64 ((((List.length y2) : Nat) : Int) + (32 : Int))))

def zmn (N : Nat) : Tab Int := []

theorem zoc (N : Nat) (x : z2d [(0, .v (.pair .str (.pair (.sl (.pair .str (.pair .str .unit))) (.pair .str .unit))))]) : zc6 (zgc N) N (zmn N) zmo Go.Proofs.Tryd.f36 (mkS [(0, .v (.pair .str (.pair (.sl (.pair .str (.pair .str .unit))) (.pair .str .unit))))] 0 x) (z6u (.v (.int .i64)) 1) = zd8 N x.1 := by kernel_rfl

def zj5 (N : Nat) : List A -> Res := z1t [(0, .v (.pair .str (.pair (.sl (.pair .str (.pair .str .unit))) (.pair .str .unit))))] (fun x => zd8 N x.1) (zev (.v (.int .i64)) 1)

theorem zs8 (N : Nat) : Contract Go.Proofs.Tryd.prog glob 36 (zj5 N) :=
  Contract.of (E := zgc N) (H := zmn N) (L := zmo) (N := N) (body := zod) (K := (z6u (.v (.int .i64)) 1)) (zqi N) Go.Proofs.Tryd.func36 (by kernel_rfl) (by decide) (fun _ hb => TabOk.nil) (fun x y h => by rw [zoc]; exact h) (z1v (s := (.v (.int .i64))) (m := 1))

def zle : Code := (Go.Proofs.Tryd.f19.body).getD .skip

def zhl : List (List Nat × List Nat) := [([0], [1]), ([0, 1], [3]), ([0, 0, 1, 1], [7, 3]), ([1, 0, 1, 1], [3]), ([0, 0, 1, 0, 1, 1], [2]), ([1, 0, 1, 0, 1, 1], [2]), ([0, 1, 1, 1], [2]), ([1, 1, 1, 1], [2])]

def zbd (N : Nat) : Env := z3q tys glob [(36, zj5 N), (20, za1 N)] [] [] [] false [] []

theorem zmk (N : Nat) : EnvOk Go.Proofs.Tryd.prog (zbd N) := zq mixed z1z (FnsOk.cons (zs8 N) (FnsOk.cons ((Contract.up (zc5 N) glob)) (FnsOk.nil))) (ItsOk.nil)

def z52 (N : Nat) (t : ((List UInt8) × ((List ((List UInt8) × ((List UInt8) × Unit))) × ((List UInt8) × Unit)))) : Option Int :=
 (zd8 N t).bind fun y =>
 cond (y == (0 : Int))
 (some (0 : Int))
 ((z7n N (Go.IntKind.wrap Go.IntKind.u64 y)).bind fun y1 =>
 some (Go.IntKind.wrap Go.IntKind.i64 ((((List.length y1) : Nat) : Int) + y)))

def zhk (N : Nat) : Tab Int := []

theorem zld (N : Nat) (x : z2d [(0, .v (.pair .str (.pair (.sl (.pair .str (.pair .str .unit))) (.pair .str .unit))))]) : zc6 (zbd N) N (zhk N) zhl Go.Proofs.Tryd.f19 (mkS [(0, .v (.pair .str (.pair (.sl (.pair .str (.pair .str .unit))) (.pair .str .unit))))] 0 x) (z6u (.v (.int .i64)) 1) = z52 N x.1 := by kernel_rfl

def ze7 (N : Nat) : List A -> Res := z1t [(0, .v (.pair .str (.pair (.sl (.pair .str (.pair .str .unit))) (.pair .str .unit))))] (fun x => z52 N x.1) (zev (.v (.int .i64)) 1)

theorem zno (N : Nat) : Contract Go.Proofs.Tryd.prog glob 19 (ze7 N) :=
  Contract.of (E := zbd N) (H := zhk N) (L := zhl) (N := N) (body := zle) (K := (z6u (.v (.int .i64)) 1)) (zmk N) Go.Proofs.Tryd.func19 (by kernel_rfl) (by decide) (fun _ hb => TabOk.nil) (fun x y h => by rw [zld]; exact h) (z1v (s := (.v (.int .i64))) (m := 1))

def z93 : Code := (Go.Proofs.Tryd.f10.body).getD .skip

def zfg : List (List Nat × List Nat) := [([0], [1]), ([0, 0, 1], [10, 1]), ([1, 0, 1], [1]), ([0, 0, 1, 0, 1], [2]), ([1, 0, 1, 0, 1], [2]), ([0, 1, 1], [3, 1]), ([0, 0, 1, 1, 1], [15, 3, 1]), ([1, 0, 1, 1, 1], [3, 1]), ([0, 0, 1, 0, 1, 1, 1], [2]), ([1, 0, 1, 0, 1, 1, 1], [2]), ([0, 1, 1, 1, 1], [1, 3]), ([0, 0, 1, 1, 1, 1, 1], [27, 26, 25, 3]), ([0, 1, 0, 1, 1, 1, 1, 1], [27, 26, 25, 3]), ([0, 0, 0, 1, 0, 1, 1, 1, 1, 1], [28, 25, 27, 3, 26]), ([0, 1, 0, 0, 1, 0, 1, 1, 1, 1, 1], [25, 27, 3, 26]), ([1, 0, 1, 0, 0, 1, 0, 1, 1, 1, 1, 1], [3]), ([0, 0, 0, 1, 1, 0, 0, 1, 0, 1, 1, 1, 1, 1], [5, 3, 27, 26, 25]), ([0, 1, 0, 0, 1, 1, 0, 0, 1, 0, 1, 1, 1, 1, 1], [6, 3, 27, 26, 25]), ([0, 0, 1, 1, 0, 0, 1, 1, 0, 0, 1, 0, 1, 1, 1, 1, 1], [34, 3, 6, 27, 26, 25]), ([1, 0, 1, 1, 0, 0, 1, 1, 0, 0, 1, 0, 1, 1, 1, 1, 1], [3, 6, 27, 26, 25]), ([0, 0, 1, 0, 1, 1, 0, 0, 1, 1, 0, 0, 1, 0, 1, 1, 1, 1, 1], [2]), ([1, 0, 1, 0, 1, 1, 0, 0, 1, 1, 0, 0, 1, 0, 1, 1, 1, 1, 1], [2]), ([1, 1, 1, 0, 0, 1, 1, 0, 0, 1, 0, 1, 1, 1, 1, 1], [27, 26, 25, 3]), ([0, 1, 1, 0, 0, 1, 0, 1, 1, 1, 1, 1], [27, 26, 25, 3]), ([1, 1, 1, 0, 0, 1, 0, 1, 1, 1, 1, 1], [27, 26, 25, 3]), ([1, 0, 1, 1, 1, 1, 1], [3]), ([0, 1, 1, 1, 1, 1, 1], [2]), ([1, 1, 1, 1, 1, 1, 1], [2])]

def za3 (N : Nat) : Env := z3q tys glob [(19, ze7 N), (20, za1 N)] [] [] [] false [] []

theorem zpy (N : Nat) : EnvOk Go.Proofs.Tryd.prog (za3 N) := zq mixed z1z (FnsOk.cons (zno N) (FnsOk.cons ((Contract.up (zc5 N) glob)) (FnsOk.nil))) (ItsOk.nil)

def zcy (N : Nat) (x25 : (List ((List UInt8) × ((List ((List UInt8) × ((List UInt8) × Unit))) × ((List UInt8) × Unit))))) (x26 : Int) (total : Int) (x27 : Int) (rec : Int -> Int -> Option Int) (k0 : Int -> Option Int) (k1 : Int -> Option Int) : Option Int :=
 cond (decide (x27 < x26))
 (cond (Go.Lift.inR x27 (List.length x25))
 ((z52 N (List.getD x25 (Int.toNat x27) (([] : List UInt8), (([] : List ((List UInt8) × ((List UInt8) × Unit))), (([] : List UInt8), ()))))).bind fun y =>
 cond (y == (0 : Int))
 (k0 (0 : Int))
 (rec (Go.IntKind.wrap Go.IntKind.i64 (total + y)) (Go.IntKind.wrap Go.IntKind.i64 (x27 + (1 : Int)))))
 (none))
 (k1 total)

def zcz (N : Nat) (total : Int) (x25 : (List ((List UInt8) × ((List ((List UInt8) × ((List UInt8) × Unit))) × ((List UInt8) × Unit))))) (x26 : Int) (x27 : Int) (k0 : Int -> Option Int) (k1 : Int -> Option Int) : Option Int :=
 iter (fun (v : (Int × Int)) r => zcy N x25 x26 v.1 v.2 (fun total x27 => (r (total, x27))) k0 k1) N (total, x27)

def zjd (N : Nat) (i : ((List ((List UInt8) × ((List ((List UInt8) × ((List UInt8) × Unit))) × ((List UInt8) × Unit)))) × Int)) (v : (Int × Int)) (r : (Int × Int) -> Option Int) (K : Ex -> List A -> Option Int) : Option Int :=
 zcy N i.1 i.2 v.1 v.2 (fun total x27 => (r (total, x27))) (fun a0 => (K .ret (mkS [(2, .v (.int .i64))] 37 (a0, ())))) (fun a0 => (K (.exit 0) (mkS [(3, .v (.int .i64))] 36 (a0, ()))))

def zjc (N : Nat) : Hd Int := fun st K => (unS [(3, .v (.int .i64)), (21, .v (.sl (.pair .str (.pair (.sl (.pair .str (.pair .str .unit))) (.pair .str .unit))))), (0, .v (.int .i64)), (0, .v (.int .i64))] 12 (restr [27, 26, 25, 3] 0 st)).bind fun x => iter (fun v r => zjd N ((fun x => (x.2.1, x.2.2.1)) x) v r K) N ((fun x => (x.1, x.2.2.2.1)) x)

def zr1 (N : Nat) : Tab Int := []

theorem zpx {N : Nat} {c : Ctx} (hb : Base Go.Proofs.Tryd.prog (za3 N) c) : z16 Go.Proofs.Tryd.prog c (zl z93 [0, 1, 0, 1, 1, 1, 1, 1]) (zjc N) :=
  z88 (s := [(3, .v (.int .i64)), (21, .v (.sl (.pair .str (.pair (.sl (.pair .str (.pair .str .unit))) (.pair .str .unit))))), (0, .v (.int .i64)), (0, .v (.int .i64))]) (m := 12) (zjd N) [27, 26, 25, 3] N (fun x => (x.2.1, x.2.2.1)) (fun x => (x.1, x.2.2.2.1)) (fun i v => (v.1, i.1, i.2, v.2, ())) (fun _ => rfl) (zh hb N (zr1 N) zfg z93 TabOk.nil [0, 0, 1, 0, 1, 1, 1, 1, 1] _ rfl) (fun i v r K => by kernel_rfl)

def z8d (N : Nat) (b : (((List UInt8) × ((List ((List UInt8) × ((List UInt8) × Unit))) × ((List UInt8) × Unit))) × ((List ((List UInt8) × ((List ((List UInt8) × ((List UInt8) × Unit))) × ((List UInt8) × Unit)))) × Unit))) : Option Int :=
 cond (decide ((8 : Int) < (((List.length b.2.1) : Nat) : Int)))
 (some (0 : Int))
 ((z52 N b.1).bind fun y =>
 cond (y == (0 : Int))
 (some (0 : Int))
 ((z7n N (Go.IntKind.wrap Go.IntKind.u64 (((List.length b.2.1) : Nat) : Int))).bind fun y1 =>
 zcz N (Go.IntKind.wrap Go.IntKind.i64 (y + (((List.length y1) : Nat) : Int))) b.2.1 (((List.length b.2.1) : Nat) : Int) (0 : Int)
 (fun x2 => some x2)
 (fun total => some total)))

def zlg (N : Nat) : Tab Int := [([0, 1, 0, 1, 1, 1, 1, 1], zjc N)]

theorem znp (N : Nat) (x : z2d [(0, .v (.pair (.pair .str (.pair (.sl (.pair .str (.pair .str .unit))) (.pair .str .unit))) (.pair (.sl (.pair .str (.pair (.sl (.pair .str (.pair .str .unit))) (.pair .str .unit)))) .unit)))]) : zc6 (za3 N) N (zlg N) zfg Go.Proofs.Tryd.f10 (mkS [(0, .v (.pair (.pair .str (.pair (.sl (.pair .str (.pair .str .unit))) (.pair .str .unit))) (.pair (.sl (.pair .str (.pair (.sl (.pair .str (.pair .str .unit))) (.pair .str .unit)))) .unit)))] 0 x) (z6u (.v (.int .i64)) 1) = z8d N x.1 := by kernel_rfl

def zbf (N : Nat) : List A -> Res := z1t [(0, .v (.pair (.pair .str (.pair (.sl (.pair .str (.pair .str .unit))) (.pair .str .unit))) (.pair (.sl (.pair .str (.pair (.sl (.pair .str (.pair .str .unit))) (.pair .str .unit)))) .unit)))] (fun x => z8d N x.1) (zev (.v (.int .i64)) 1)

theorem zje (N : Nat) : Contract Go.Proofs.Tryd.prog glob 10 (zbf N) :=
  Contract.of (E := za3 N) (H := zlg N) (L := zfg) (N := N) (body := z93) (K := (z6u (.v (.int .i64)) 1)) (zpy N) Go.Proofs.Tryd.func10 (by kernel_rfl) (by decide) (fun _ hb => (TabOk.cons (zpx hb) TabOk.nil)) (fun x y h => by rw [znp]; exact h) (z1v (s := (.v (.int .i64))) (m := 1))

end
end Go.Proofs.YtaackaafmidjkaaDoorLg

set_option linter.all false
set_option maxRecDepth 100000
namespace Go.Lift
noncomputable section


def BSt (t : T) (w0 : World) (S0 : Hp) (ob0 : List Nat) (bf : Nat) (w : World) (x : t.den) (L : List (Nat × Array Value × Nat)) : Prop :=
 ∃ S o, WF w0 (fun k => k ∈ ob0) w /\ Sub S0 S /\ Sub S (hp w) /\ (∀ k, S k ≠ none -> S0 k ≠ none \/ k ∈ ob0 \/ w0.heap.size <= k) /\ ARel (hp w) S (fun _ => undef) (.box t x) (.pointer (some ⟨bf, 0, none⟩)) o /\ o.Nodup ∧
 (∀ k ∈ o, S k = none /\ (k ∈ ob0 \/ w0.heap.size <= k)) /\ ∀ p ∈ L, S p.1 = none /\ p.1 ∉ o /\ w0.heap.size <= p.1 /\ w.heap[p.1]? = some (.cells p.2.1 p.2.2 (0, 0))

variable {P : Program} {glob : Nat -> Option Dat} {t : T} {w0 w : World} {S0 : Hp} {ob0 : List Nat} {bf : Nat} {x : t.den} {L : List (Nat × Array Value × Nat)}

theorem BSt.lt (h : BSt t w0 S0 ob0 bf w x L) : ∀ p ∈ L, p.1 < w.heap.size := by
  obtain ⟨S, o, _, _, _, _, _, _, _, hL⟩ := h
  exact fun p hp => (Array.getElem?_eq_some_iff.1 (hL p hp).2.2.2).1

theorem BSt.drew (h : BSt t w0 S0 ob0 bf w x L) : BSt t w0 S0 ob0 bf w.drew x L := by
  obtain ⟨S, o, k1, k2⟩ := h
  exact ⟨S, o, ⟨k1.size, k1.same, k1.tape, k1.os, k1.output⟩, k2⟩

theorem BSt.cell (h : BSt t w0 S0 ob0 bf w x L) {p : Nat} {cs : Array Value} {E i : Nat} {v : Value} (hm : (p, cs, E) ∈ L) (hi : cs[i]? = some v) : w.cell? ⟨p, i, none⟩ = some v := by
  obtain ⟨S, o, _, _, _, _, _, _, _, hL⟩ := h
  have := (hL _ hm).2.2.2
  simp only at this
  simp [World.cell?, this, hi]

theorem BSt.plain {f : FuncId} {g : List A -> Res} (ct : Contract P glob f g) (hg : ∀ S, GlobOk glob S) (h : BSt t w0 S0 ob0 bf w x L) {args : List A} {vals : List Value}
    (hrel : ∀ S, Sub S (hp w) -> ArgsRel (hp w) S args vals (fun _ => [])) {y : (g args).X} (hy : (g args).val = some y) :
    Calls P f vals.toArray w fun e w' => ∃ v S' o', e = .returned v /\ ARel (hp w') S' (fun _ => undef) ((g args).out y).1 v o' /\ BSt t w0 S0 ob0 bf w' x L := by
  have h' := h
  obtain ⟨S, o, h1, h2, h3, h4, h5, h6, h7, hL⟩ := h'
  refine ((ct.2 w S args vals _ (hrel S h3) h3 (hg S) y hy)).mono ?_
  rintro e w' ⟨v, S', q, ob', rfl, hwf, hSS, hSw, hnew, ⟨hr, _⟩, _⟩
  refine ⟨v, S', q, rfl, hr, ?_⟩
  have hwf' : WF w (fun _ => False) w' := ⟨hwf.size, fun k hk _ => hwf.same k hk (by rintro ⟨i, hi⟩; cases hi), hwf.tape, hwf.os, hwf.output⟩
  have hlt : ∀ k ∈ o, k < w.heap.size := fun k hk => by
    obtain ⟨ob, hob⟩ := h5.obj k hk
    exact (Array.getElem?_eq_some_iff.1 hob.1).1
  have hnw : ∀ k, k < w.heap.size -> S' k ≠ none -> S k ≠ none := fun k hk hs => by
    rcases hnew k hs with h | ⟨i, hi⟩ | h
    . exact h
    . cases hi
    . omega
  refine ⟨S', o, h1.trans hwf' (fun _ h => h.elim), h2.trans hSS, hSw, fun k hk => ?_, ?_, h6, fun k hk => ⟨?_, (h7 k hk).2⟩, fun p hp => ?_⟩
  . rcases hnew k hk with h | ⟨i, hi⟩ | h
    . exact h4 k h
    . cases hi
    . exact .inr (.inr (Nat.le_trans h1.size h))
  . obtain ⟨b, cs, E, fr, bs, rfl, e1, e2, e3, e4⟩ := h5
    refine ⟨b, cs, E, fr, bs, rfl, e1, ?_, e3, e4.mono hSS _ _ _ _ (fun k hk => hwf'.same k (hlt k (by simp [hk])) (fun h => h))⟩
    have := hwf'.same b (hlt b (by simp)) (fun h => h)
    simp only [hp] at e2 ⊢
    rw [this]; exact e2
  . cases hs : S' k with
    | none => rfl
    | some q => exact absurd (h7 k hk).1 (hnw k (hlt k hk) (by rw [hs]; simp))
  . obtain ⟨p1, p2, p3, p4⟩ := hL p hp
    have hl := (Array.getElem?_eq_some_iff.1 p4).1
    refine ⟨?_, p2, p3, ?_⟩
    . cases hs : S' p.1 with
      | none => rfl
      | some q => exact absurd p1 (hnw _ hl (by rw [hs]; simp))
    . rw [hwf'.same p.1 hl (fun h => h)]; exact p4

theorem zyw {S : Hp} {v : Value} {o : List Nat} {args : List A} {vals : List Value} (h5 : ARel (hp w) S (fun _ => undef) (.box t x) v o) (h6 : o.Nodup) (h7 : ∀ k ∈ o, S k = none) (hr0 : ArgsRel (hp w) S args vals (fun _ => [])) :
    ArgsRel (hp w) S (.box t x :: args) (v :: vals) (fun i => if i = 0 then o else []) := by
  refine ⟨by simp [hr0.len], fun i q hq => ?_, fun i hi => ?_, fun i j b hi hj => ?_, fun i => ?_, fun i b hb => ?_⟩
  . cases i with
    | zero =>
      simp at hq; subst hq
      exact ⟨⟨_, rfl, by simpa using h5⟩, rfl⟩
    | succ i =>
      obtain ⟨⟨v, hv, ha⟩, hrf⟩ := hr0.rel i q (by simpa using hq)
      exact ⟨⟨v, by simpa using hv, by simpa using ha⟩, hrf⟩
  . rw [if_neg (by intro e; subst e; simp at hi)]
  . by_cases hi0 : i = 0 <;> by_cases hj0 : j = 0 <;> simp_all
  . by_cases hi0 : i = 0 <;> simp [hi0, h6]
  . by_cases hi0 : i = 0
    . rw [if_pos hi0] at hb; exact h7 b hb
    . rw [if_neg hi0] at hb; cases hb

theorem BSt.alloc (h : BSt t w0 S0 ob0 bf w x L) (cs : Array Value) (E : Nat) : BSt t w0 S0 ob0 bf (w.alloc (.cells cs E)) x ((w.heap.size, cs, E) :: L) := by
  have hlt := h.lt
  obtain ⟨S, o, h1, h2, h3, h4, h5, h6, h7, hL⟩ := h
  have hh : (w.alloc (.cells cs E)).heap = w.heap.push (.cells cs E (0, 0)) := rfl
  have hk : ∀ k, k < w.heap.size -> (w.alloc (.cells cs E)).heap[k]? = w.heap[k]? := fun k hk => by
    rw [hh, Array.getElem?_push, if_neg (by omega)]
  have hol : ∀ k ∈ o, k < w.heap.size := fun k hk => by
    obtain ⟨ob, hob⟩ := h5.obj k hk
    exact (Array.getElem?_eq_some_iff.1 hob.1).1
  refine ⟨S, o, ⟨by rw [hh, Array.size_push]; have := h1.size; omega, fun k h1' h2' => by rw [hk k (by have := h1.size; omega)]; exact h1.same k h1' h2', h1.tape, h1.os, h1.output⟩, h2, fun k q ho => ?_, h4, ?_, h6, h7, fun p hpm => ?_⟩
  . have := h3 k q ho
    simp only [hp] at this ⊢
    rw [hk k (Array.getElem?_eq_some_iff.1 this).1]
    exact this
  . obtain ⟨b, c1, E', fr, bs, rfl, e1, e2, e3, e4⟩ := h5
    refine ⟨b, c1, E', fr, bs, rfl, e1, ?_, e3, e4.mono (Sub.refl _) _ _ _ _ (fun k hkm => hk k (hol k (by simp [hkm])))⟩
    simp only [hp] at e2 ⊢
    rw [hk b (hol b (by simp))]; exact e2
  . rcases List.mem_cons.1 hpm with rfl | hpm
    . refine ⟨?_, fun hm => absurd (hol _ hm) (by simp), h1.size, ?_⟩
      . cases hs : S w.heap.size with
        | none => rfl
        | some q =>
          have := h3 _ _ hs
          simp only [hp] at this
          have := (Array.getElem?_eq_some_iff.1 this).1
          omega
      . simp only
        rw [hh, Array.getElem?_push, if_pos rfl]
    . obtain ⟨p1, p2, p3, p4⟩ := hL p hpm
      exact ⟨p1, p2, p3, by rw [hk p.1 (hlt p hpm)]; exact p4⟩

theorem BSt.put {p : Nat} {cs : Array Value} {E : Nat} (h : BSt t w0 S0 ob0 bf w x ((p, cs, E) :: L)) (hd : ∀ q ∈ L, q.1 ≠ p) {w' : World} {cs' : Array Value} (hw : w' = z10 w p (.cells cs' E (0, 0))) : BSt t w0 S0 ob0 bf w' x ((p, cs', E) :: L) := by
  obtain ⟨S, o, h1, h2, h3, h4, h5, h6, h7, hL⟩ := h
  obtain ⟨q1, q2, q3, q4⟩ := hL (p, cs, E) (List.mem_cons_self ..)
  simp only at q1 q2 q3 q4
  have hne : ∀ k, k ≠ p -> w'.heap[k]? = w.heap[k]? := fun k hk => by
    have := ze (w := w) (o := .cells cs' E (0, 0)) hk
    rw [hw]; exact this
  have hsz : w'.heap.size = w.heap.size := by rw [hw]; simp [z10]
  refine ⟨S, o, ⟨by rw [hsz]; exact h1.size, fun k h1' h2' => by rw [hne k (by omega)]; exact h1.same k h1' h2', by rw [hw]; exact h1.tape, by rw [hw]; exact h1.os, by rw [hw]; exact h1.output⟩, h2, fun k q ho => ?_, h4, ?_, h6, h7, fun u hu => ?_⟩
  . have hk : k ≠ p := fun e => by rw [e, q1] at ho; cases ho
    have := h3 k q ho
    simp only [hp] at this ⊢
    rw [hne k hk]
    exact this
  . obtain ⟨b, c1, E', fr, bs, rfl, e1, e2, e3, e4⟩ := h5
    refine ⟨b, c1, E', fr, bs, rfl, e1, ?_, e3, e4.mono (Sub.refl _) _ _ _ _ (fun k hkm => hne k (fun e => q2 (by simp [<- e, hkm])))⟩
    simp only [hp] at e2 ⊢
    rw [hne b (fun e => q2 (by simp [<- e]))]; exact e2
  . rcases List.mem_cons.1 hu with rfl | hu
    . refine ⟨q1, q2, q3, ?_⟩
      rw [hw]
      exact z1r q4
    . obtain ⟨p1, p2, p3, p4⟩ := hL u (List.mem_cons_of_mem _ hu)
      exact ⟨p1, p2, p3, by rw [hne u.1 (hd u hu)]; exact p4⟩

theorem BSt.setCell {p : Nat} {cs : Array Value} {E : Nat} (h : BSt t w0 S0 ob0 bf w x ((p, cs, E) :: L)) (hd : ∀ q ∈ L, q.1 ≠ p) (i : Nat) (v : Value) :
    BSt t w0 S0 ob0 bf (w.setCell ⟨p, i, none⟩ v) x ((p, cs.setIfInBounds i v, E) :: L) := by
  have hb : hp w p = some (.cells cs E (0, 0)) := by
    obtain ⟨S, o, _, _, _, _, _, _, _, hL⟩ := h
    exact (hL _ (List.mem_cons_self ..)).2.2.2
  exact h.put hd (zlx v hb)

theorem BSt.start {args : List A} {vals : List Value} {ob : Nat -> List Nat} (har : ArgsRel (hp w) S0 (.box t x :: args) vals ob) (hS : Sub S0 (hp w)) :
    ∃ bf vs, vals = .pointer (some ⟨bf, 0, none⟩) :: vs /\ ob 0 ≠ [] /\ BSt t w S0 (ob 0) bf w x [] := by
  obtain ⟨⟨v, hv, hr⟩, _⟩ := har.rel 0 _ rfl
  have hr' := hr
  obtain ⟨b, cs, E, fr, bs, hob, rfl, _⟩ := hr'
  cases vals with
  | nil => cases hv
  | cons v vs =>
    cases hv
    exact ⟨b, vs, rfl, by rw [hob]; simp, S0, ob 0, WF.refl _ _, Sub.refl _, hS, fun _ h => .inl h, hr, har.nd 0, fun k hk => ⟨har.hid 0 k hk, .inl hk⟩, fun p hp => by cases hp⟩

end
end Go.Lift
