import Derived.Test.YtaackaafmidjkaaDoorLgPrBp2
import Derived.Test.YtaackaafmidjkaaDoorLgPrBp1
import Derived.LaidEql
import Derived.Stop.Asserts
import Derived.RowKitTokens
import Derived.Deep.RegionHeld3
import Derived.WalkKit
import Derived.Tactics
import Derived.Tactics2
import Derived.Defers
import Derived.Lib.Hide
import Derived.Below
import Derived.Recover
import Derived.Orders
import Derived.WalkSmall
import Derived.LoopN
import Derived.Test.YtaackaafmidjkaaDoorLgW
set_option linter.all false
set_option maxRecDepth 100000
namespace Go.Proofs.YtaackaafmidjkaaDoorLg
noncomputable section
open Go Go.Lift

def z8g : Code := (Go.Proofs.Tryd.f31.body).getD .skip

def z43 : List (List Nat × List Nat) := [([0], [0, 1]), ([0, 1], [0, 1]), ([0, 1, 1], [1, 0]), ([0, 1, 1, 1], [4, 5, 0]), ([1, 1, 1, 1], [4, 5, 0])]

def z2d (N : Nat) : Env := z2n tys za [(53, z167)] [] [] [0] false [] []

theorem z8q (N : Nat) : EnvOk Go.Proofs.Tryd.prog (z2d N) := zk mixed z1a (FnsOk.cons (z1ca za) (FnsOk.nil)) (ItsOk.nil)

def zb (N : Nat) (b : (Unit × ((List Int) × Unit))) (s : (List UInt8)) : Option ((Int × Go.Value × Unit) × ((Unit × ((List Int) × Unit)) × Unit)) :=
 cond (decide ((((List.length b.2.1) + (List.length (Go.Lift.ofStr s))) * 1) <= 70368744177664))
 (some (((((List.length s) : Nat) : Int), (Go.Value.nilIface, ())), ((b.1, ((b.2.1 ++ (Go.Lift.ofStr s)), b.2.2)), ())))
 (none)

def z42 (N : Nat) : Tab ((Int × Go.Value × Unit) × ((Unit × ((List Int) × Unit)) × Unit)) := []

theorem z8f (N : Nat) (x : z26 [(0, .box (.pair (.self 68) (.pair (.own (.byt 5)) .unit))), (0, .v .str)]) : z9l (z2d N) N (z42 N) z43 Go.Proofs.Tryd.f31 (mkS [(0, .box (.pair (.self 68) (.pair (.own (.byt 5)) .unit))), (0, .v .str)] 0 x) (zfk (.tup [(.int .i64), .opq]) [(0, .box (.pair (.self 68) (.pair (.own (.byt 5)) .unit)))] 1) = zb N x.1 x.2.1 := by kernel_rfl

def z36 (N : Nat) : List A -> Res := z1f [(0, .box (.pair (.self 68) (.pair (.own (.byt 5)) .unit))), (0, .v .str)] (fun x => zb N x.1 x.2.1) (zj7 (.tup [(.int .i64), .opq]) [(0, .box (.pair (.self 68) (.pair (.own (.byt 5)) .unit)))] 1)

theorem z3o (N : Nat) : Contract Go.Proofs.Tryd.prog za 31 (z36 N) :=
  Contract.of (E := z2d N) (H := z42 N) (L := z43) (N := N) (body := z8g) (K := (zfk (.tup [(.int .i64), .opq]) [(0, .box (.pair (.self 68) (.pair (.own (.byt 5)) .unit)))] 1)) (z8q N) Go.Proofs.Tryd.func31 (by kernel_rfl) (by decide) (fun _ hb => TabOk.nil) (fun x y h => by rw [z8f]; exact h) (zax (s := (.tup [(.int .i64), .opq])) (os := [(0, .box (.pair (.self 68) (.pair (.own (.byt 5)) .unit)))]) (m := 1))

def z9b : Code := (Go.Proofs.Tryd.f71.body).getD .skip

def z4t : List (List Nat × List Nat) := [([0], [0, 1]), ([0, 1], [0, 1]), ([0, 1, 1], [0]), ([0, 1, 1, 1], [4, 0]), ([1, 1, 1, 1], [4, 0])]

def z2o (N : Nat) : Env := z2n tys za [(53, z167)] [] [] [0] false [] []

theorem z9s (N : Nat) : EnvOk Go.Proofs.Tryd.prog (z2o N) := zk mixed z1a (FnsOk.cons (z1ca za) (FnsOk.nil)) (ItsOk.nil)

def z18 (N : Nat) (b : (Unit × ((List Int) × Unit))) (c : Int) : Option (Go.Value × ((Unit × ((List Int) × Unit)) × Unit)) :=
 cond (decide ((((List.length b.2.1) + 1) * 1) <= 70368744177664))
 (some (Go.Value.nilIface, ((b.1, ((b.2.1 ++ ([c] : List Int)), b.2.2)), ())))
 (none)

def z4s (N : Nat) : Tab (Go.Value × ((Unit × ((List Int) × Unit)) × Unit)) := []

theorem z9a (N : Nat) (x : z26 [(0, .box (.pair (.self 68) (.pair (.own (.byt 5)) .unit))), (0, .v (.int .u8))]) : z9l (z2o N) N (z4s N) z4t Go.Proofs.Tryd.f71 (mkS [(0, .box (.pair (.self 68) (.pair (.own (.byt 5)) .unit))), (0, .v (.int .u8))] 0 x) (zfk (.v .opq) [(0, .box (.pair (.self 68) (.pair (.own (.byt 5)) .unit)))] 1) = z18 N x.1 x.2.1 := by kernel_rfl

def z44 (N : Nat) : List A -> Res := z1f [(0, .box (.pair (.self 68) (.pair (.own (.byt 5)) .unit))), (0, .v (.int .u8))] (fun x => z18 N x.1 x.2.1) (zj7 (.v .opq) [(0, .box (.pair (.self 68) (.pair (.own (.byt 5)) .unit)))] 1)

theorem zaw (N : Nat) : Contract Go.Proofs.Tryd.prog za 71 (z44 N) :=
  Contract.of (E := z2o N) (H := z4s N) (L := z4t) (N := N) (body := z9b) (K := (zfk (.v .opq) [(0, .box (.pair (.self 68) (.pair (.own (.byt 5)) .unit)))] 1)) (z9s N) Go.Proofs.Tryd.func71 (by kernel_rfl) (by decide) (fun _ hb => TabOk.nil) (fun x y h => by rw [z9a]; exact h) (zax (s := (.v .opq)) (os := [(0, .box (.pair (.self 68) (.pair (.own (.byt 5)) .unit)))]) (m := 1))

def zd0 (N : Nat) : Env := z2n tys za [(71, z44 N), (20, zay N), (31, z36 N), (52, zlg N), (32, z13x)] [] [] [] false [(3, (.pair (.self 68) (.pair (.own (.byt 5)) .unit)))] []

theorem zth (N : Nat) : EnvOk Go.Proofs.Tryd.prog (zd0 N) := zk mixed z1a (FnsOk.cons (zaw N) (FnsOk.cons (zdu N) (FnsOk.cons (z3o N) (FnsOk.cons (zo3 N) (FnsOk.cons (z194 za) (FnsOk.nil)))))) (ItsOk.nil)

def zga (N : Nat) (x17 : (List ((List UInt8) × ((List UInt8) × Unit)))) (x18 : Int) (out : (Unit × ((List Int) × Unit))) (x19 : Int) (rec : (Unit × ((List Int) × Unit)) -> Int -> Option (List UInt8)) (k0 : (Unit × ((List Int) × Unit)) -> Option (List UInt8)) : Option (List UInt8) :=
 cond (decide (x19 < x18))
 (cond (Go.Lift.inR x19 (List.length x17))
 (cond ((List.getD x17 (Int.toNat x19) (([] : List UInt8), (([] : List UInt8), ()))).2.1 == ([] : List UInt8))
 ((z18 N out (0 : Int)).bind fun y =>
 (z4d N (List.getD x17 (Int.toNat x19) (([] : List UInt8), (([] : List UInt8), ()))).1).bind fun y1 =>
 (zb N y.2.1 y1).bind fun y2 =>
 rec y2.2.1 (Go.IntKind.wrap Go.IntKind.i64 (x19 + (1 : Int))))
 ((z18 N out (1 : Int)).bind fun y3 =>
 (z4d N (List.getD x17 (Int.toNat x19) (([] : List UInt8), (([] : List UInt8), ()))).1).bind fun y4 =>
 (zb N y3.2.1 y4).bind fun y5 =>
 (z4d N (List.getD x17 (Int.toNat x19) (([] : List UInt8), (([] : List UInt8), ()))).2.1).bind fun y6 =>
 (zb N y5.2.1 y6).bind fun y7 =>
 rec y7.2.1 (Go.IntKind.wrap Go.IntKind.i64 (x19 + (1 : Int)))))
 (none))
 (k0 out)

def zgb (N : Nat) (out : (Unit × ((List Int) × Unit))) (x17 : (List ((List UInt8) × ((List UInt8) × Unit)))) (x18 : Int) (x19 : Int) (k0 : (Unit × ((List Int) × Unit)) -> Option (List UInt8)) : Option (List UInt8) :=
 iter (fun (v : ((Unit × ((List Int) × Unit)) × Int)) r => zga N x17 x18 v.1 v.2 (fun out x19 => (r (out, x19))) k0) N (out, x19)

def zna (N : Nat) (i : ((List ((List UInt8) × ((List UInt8) × Unit))) × Int)) (v : ((Unit × ((List Int) × Unit)) × Int)) (r : ((Unit × ((List Int) × Unit)) × Int) -> Option (List UInt8)) (K : Ex -> List A -> Option (List UInt8)) : Option (List UInt8) :=
 zga N i.1 i.2 v.1 v.2 (fun out x19 => (r (out, x19))) (fun a0 => (K (.exit 0) (mkS [(3, .box (.pair (.self 68) (.pair (.own (.byt 5)) .unit)))] 38 (a0, ()))))

def zn9 (N : Nat) : Hd (List UInt8) := fun st K => (unS [(3, .box (.pair (.self 68) (.pair (.own (.byt 5)) .unit))), (13, .v (.sl (.pair .str (.pair .str .unit)))), (0, .v (.int .i64)), (0, .v (.int .i64))] 22 (restr [19, 18, 17, 3] 0 st)).bind fun x => iter (fun v r => zna N ((fun x => (x.2.1, x.2.2.1)) x) v r K) N ((fun x => (x.1, x.2.2.2.1)) x)

theorem ztg {N : Nat} {c : Ctx} (hb : Base Go.Proofs.Tryd.prog (zd0 N) c) : z11 Go.Proofs.Tryd.prog c (zj zbg [0, 1, 0, 1, 1, 1, 1]) (zn9 N) :=
  z5y (s := [(3, .box (.pair (.self 68) (.pair (.own (.byt 5)) .unit))), (13, .v (.sl (.pair .str (.pair .str .unit)))), (0, .v (.int .i64)), (0, .v (.int .i64))]) (m := 22) (zna N) [19, 18, 17, 3] N (fun x => (x.2.1, x.2.2.1)) (fun x => (x.1, x.2.2.2.1)) (fun i v => (v.1, i.1, i.2, v.2, ())) (fun _ => rfl) (ze hb N (zv1 N) zi3 zbg TabOk.nil [0, 0, 1, 0, 1, 1, 1, 1] _ rfl) (fun i v r K => by kernel_rfl)

def zb4 (N : Nat) (t : ((List UInt8) × ((List ((List UInt8) × ((List UInt8) × Unit))) × ((List UInt8) × Unit)))) : Option (List UInt8) :=
 (z4d N t.1).bind fun y =>
 (zb N ((), (([] : List Int), ())) y).bind fun y1 =>
 (z8b N (Go.IntKind.wrap Go.IntKind.u64 (((List.length t.2.1) : Nat) : Int))).bind fun y2 =>
 (zb N y1.2.1 y2).bind fun y3 =>
 zgb N y3.2.1 t.2.1 (((List.length t.2.1) : Nat) : Int) (0 : Int)
 (fun out => (zyi (out, ())).bind fun y4 =>
 some y4.1)

def zpo (N : Nat) : Tab (List UInt8) := [([0, 1, 0, 1, 1, 1, 1], zn9 N)]

theorem zre (N : Nat) (x : z26 [(0, .v (.pair .str (.pair (.sl (.pair .str (.pair .str .unit))) (.pair .str .unit))))]) : z9l (zd0 N) N (zpo N) zi3 Go.Proofs.Tryd.f58 (mkS [(0, .v (.pair .str (.pair (.sl (.pair .str (.pair .str .unit))) (.pair .str .unit))))] 0 x) (z41 (.v .str) 1) = zb4 N x.1 := by kernel_rfl

def ze1 (N : Nat) : List A -> Res := z1f [(0, .v (.pair .str (.pair (.sl (.pair .str (.pair .str .unit))) (.pair .str .unit))))] (fun x => zb4 N x.1) (zaj (.v .str) 1)

theorem znb (N : Nat) : Contract Go.Proofs.Tryd.prog za 58 (ze1 N) :=
  Contract.of (E := zd0 N) (H := zpo N) (L := zi3) (N := N) (body := zbg) (K := (z41 (.v .str) 1)) (zth N) Go.Proofs.Tryd.func58 (by kernel_rfl) (by decide) (fun _ hb => (TabOk.cons (ztg hb) TabOk.nil)) (fun x y h => by rw [zre]; exact h) (z16 (s := (.v .str)) (m := 1))

theorem zjj {w w' : World} {S : Hp} {b : Nat} {x x' : RdrT.den} {rest : List A} {vals : List Value} {ob : Nat -> List Nat} {rA : A} {rV : Value} {outs : List A}
    (hrest : ∀ y ∈ rest, z9g y = false) (hv0 : vals[0]? = some (.pointer (some ⟨b, 0, none⟩))) (hob : ob 0 = [b]) (hob' : ∀ i, i ≠ 0 -> ob i = []) (houts : outs[0]? = some (.box RdrT x'))
    (hF : Fine w S b x' w') (hr : ∀ S', ARel (hp w') S' (fun _ => undef) rA rV []) (hrr : rA.refs = []) : Lift.Ends w S (.box RdrT x :: rest) vals ob rA outs (.returned rV) w' := by
  obtain ⟨S', h1, h2, h3, h4, h5, E, fr, h6, h7⟩ := hF
  have hmem : ∀ i k, k ∈ ob i -> k = b := fun i k hk => by
    by_cases hi : i = 0
    . subst hi; rw [hob] at hk; exact List.mem_singleton.1 hk
    . rw [hob' i hi] at hk; cases hk
  refine ⟨rV, S', [], ob, rfl, ⟨h1.size, fun k hk hn => h1.same k hk (fun e => hn ⟨0, by rw [hob, e]; exact List.mem_singleton.2 rfl⟩), h1.tape, h1.os, h1.output⟩, h2, h4, fun k hk => ?_, ⟨hr S', hrr⟩, (fun k hk => by cases hk), .nil, ?_, ?_, ?_, ?_, fun _ h => h⟩
  . rcases h3 k hk with h | h
    . exact .inl h
    . exact .inr (.inr h)
  . intro i y hy hbx
    match i with
    | 0 =>
      cases hy
      exact ⟨_, _, houts, hv0, rfl, by rw [hob]; exact z10s h6 h7⟩
    | i + 1 =>
      have := hrest y (List.mem_of_getElem? hy)
      rw [hbx] at this
      cases this
  . intro i k hk
    refine ⟨.inl ⟨i, hk⟩, ?_, fun h => by cases h⟩
    rw [hmem i k hk]; exact h5
  . intro i j k hi hj
    by_cases h0 : i = 0
    . by_cases h1 : j = 0
      . omega
      . rw [hob' j h1] at hj; cases hj
    . rw [hob' i h0] at hi; cases hi
  . intro i
    by_cases h0 : i = 0
    . subst h0; rw [hob]; exact List.nodup_cons.2 ⟨by simp, List.nodup_nil⟩
    . rw [hob' i h0]; exact .nil

theorem z18x {w : World} {S : Hp} {x : RdrT.den} {vals : List Value} {ob : Nat -> List Nat} (hS : Lift.Sub S (hp w)) (har : ArgsRel (hp w) S [.box RdrT x] vals ob) :
    ∃ b, vals = [.pointer (some ⟨b, 0, none⟩)] /\ ob 0 = [b] /\ (∀ i, i ≠ 0 -> ob i = []) /\ Rdr w S b x := by
  obtain ⟨⟨v0, hv0, hA0⟩, _⟩ := har.rel 0 _ rfl
  obtain ⟨b, E, fr, ho, hv, hc, hf⟩ := zvf hA0
  have hlen := har.len
  have hvals : vals = [v0] := by
    match vals, hlen with
    | [a], _ => cases hv0; rfl
  subst hv
  exact ⟨b, hvals, ho, fun i hi => har.out i (by simp; omega), hS, har.hid 0 b (by rw [ho]; exact List.mem_singleton.2 rfl), E, fr, hc, hf⟩

theorem z11n {w : World} {S : Hp} {x : RdrT.den} {k : IntKind} {n : Int} {vals : List Value} {ob : Nat -> List Nat} (hS : Lift.Sub S (hp w)) (har : ArgsRel (hp w) S [.box RdrT x, .v (.int k) n] vals ob) :
    ∃ b, vals = [.pointer (some ⟨b, 0, none⟩), .int k n] /\ ob 0 = [b] /\ (∀ i, i ≠ 0 -> ob i = []) /\ Rdr w S b x := by
  obtain ⟨⟨v0, hv0, hA0⟩, _⟩ := har.rel 0 _ rfl
  obtain ⟨⟨v1, hv1, hA1⟩, _⟩ := har.rel 1 _ rfl
  obtain ⟨b, E, fr, ho, hv, hc, hf⟩ := zvf hA0
  have hlen := har.len
  have hvals : vals = [v0, v1] := by
    match vals, hlen with
    | [a, c], _ => cases hv0; cases hv1; rfl
  have e1 := VR.int_inv hA1.1
  subst e1
  subst hv
  refine ⟨b, hvals, ho, fun i hi => ?_, hS, har.hid 0 b (by rw [ho]; exact List.mem_singleton.2 rfl), E, fr, hc, hf⟩
  match i with
  | 0 => exact absurd rfl hi
  | 1 => exact hA1.2
  | i + 2 => exact har.out _ (by simp)

def z53 (N : Nat) : List A -> Res := z1f [(0, .box (.pair .bool (.pair .str (.pair (.int .i64) .unit))))] (fun x => z13 N x.1) (zj7 (.v (.int .u8)) [(0, .box (.pair .bool (.pair .str (.pair (.int .i64) .unit))))] 0)

theorem zas (N : Nat) : Contract Tryd.prog za 61 (z53 N) := by
  refine Contract.hand ⟨_, Tryd.func61, by kernel_rfl, by decide⟩ ?_
  intro w S vals ob x y har hS hg hy
  obtain ⟨x, u⟩ := x
  cases u
  obtain ⟨b, rfl, ho, ho', hR⟩ := z18x hS har
  have fin : ∀ (n : Int) (x' : RdrT.den), y = (n, (x', ())) -> Calls Tryd.prog 61 #[.pointer (some ⟨b, 0, none⟩)] w (fun r w' => r = .returned (.int .u8 n) /\ Fine w S b x' w') →
      Calls Tryd.prog 61 [Value.pointer (some ⟨b, 0, none⟩)].toArray w fun e w' => Lift.Ends w S (mkS [(0, .box RdrT)] 0 (x, ())) [.pointer (some ⟨b, 0, none⟩)] ob (zj7 (.v (.int .u8)) [(0, .box RdrT)] 0 y).1 (zj7 (.v (.int .u8)) [(0, .box RdrT)] 0 y).2 e w' := by
    rintro n x' rfl hc
    refine hc.mono ?_
    rintro r w' ⟨rfl, hF⟩
    exact zjj (rest := []) (fun _ h => by cases h) rfl ho ho' rfl hF (fun S' => ⟨VR.int, rfl⟩) rfl
  have hy' : z13 N x = some y := hy
  unfold z13 at hy'
  cases hr : (x.1 && (x.2.2.1 == 0)) with
  | false =>
    rw [hr] at hy'
    cases hy'
    exact fin _ _ rfl (z18h N hR hr)
  | true =>
    rw [hr] at hy'
    by_cases hle : 1 <= Go.IntKind.wrap .u64 (x.2.1.length : Int)
    . rw [decide_eq_true hle] at hy'
      cases hy'
      obtain ⟨m, s, e, u⟩ := x
      cases u
      cases s with
      | nil => exact absurd (show 1 <= Go.IntKind.wrap .u64 (0 : Int) from hle) (by decide)
      | cons a l => exact fin _ _ rfl (z1b5 N hR hr hle)
    . rw [decide_eq_false hle] at hy'
      cases hy'
      refine fin _ _ rfl ?_
      have e : zsq x 1 = (x.1, [], 1, ()) := by
        unfold zsq
        rw [hr]
        rfl
      rw [<- e]
      exact z18i N hR hr hle

def z20 (N : Nat) (x : RdrT.den) (most : Int) : Option (Int × (RdrT.den × Unit)) :=
 cond (x.1 && (x.2.2.1 == 0))
 ((z2c N x.2.1).bind fun y =>
 cond (decide (y.2.2.1 = 0))
 (cond (decide (y.1 <= most))
 (cond (decide (0 <= y.2.1 /\ y.2.1 <= x.2.1.length))
 (some (y.1, ((x.1, x.2.1.drop y.2.1.toNat, x.2.2.1, ()), ())))
 none)
 (some (0, ((x.1, [], 3, ()), ()))))
 (some (0, ((x.1, [], y.2.2.1, ()), ()))))
 (some (0, (x, ())))

theorem zo5 {x : RdrT.den} {e : Int} (hr : (x.1 && (x.2.2.1 == 0)) = true) (he : e ≠ 0) : zsq x e = (x.1, [], e, ()) := by
  unfold zsq
  rw [hr, bne_iff_ne.2 he]
  rfl

theorem z17t (N : Nat) {w : World} {S : Hp} {b : Nat} {x : RdrT.den} {most n : Int} {x' : RdrT.den} (h : Rdr w S b x) (hy : z20 N x most = some (n, (x', ()))) :
    Calls Tryd.prog 24 #[.pointer (some ⟨b, 0, none⟩), .int .u64 most] w fun r w' => r = .returned (.int .u64 n) /\ Fine w S b x' w' := by
  unfold z20 at hy
  cases hr : (x.1 && (x.2.2.1 == 0)) with
  | false =>
    rw [hr] at hy
    cases hy
    exact z1ar N h hr
  | true =>
    rw [hr] at hy
    cases ht : z2c N x.2.1 with
    | none => rw [ht] at hy; cases hy
    | some y =>
      rw [ht, Option.bind_some] at hy
      by_cases he : y.2.2.1 = 0
      . rw [decide_eq_true he] at hy
        by_cases hm : y.1 <= most
        . rw [decide_eq_true hm] at hy
          by_cases hu : 0 <= y.2.1 /\ y.2.1 <= x.2.1.length
          . rw [decide_eq_true hu] at hy
            cases hy
            exact z1c0 N h hr (fun w1 S1 h1 => zma N h1 ht he hm hu.1 hu.2)
          . rw [decide_eq_false hu] at hy
            cases hy
        . rw [decide_eq_false hm] at hy
          cases hy
          rw [<- zo5 hr (by decide : (3 : Int) ≠ 0)]
          exact z111 N h hr (fun w1 S1 h1 => zs7 N h1 ht he hm)
      . rw [decide_eq_false he] at hy
        cases hy
        rw [<- zo5 hr he]
        exact z111 N h hr (fun w1 S1 h1 => zuf N h1 ht he)

def zam (N : Nat) : List A -> Res := z1f [(0, .box (.pair .bool (.pair .str (.pair (.int .i64) .unit)))), (0, .v (.int .u64))] (fun x => z20 N x.1 x.2.1) (zj7 (.v (.int .u64)) [(0, .box (.pair .bool (.pair .str (.pair (.int .i64) .unit))))] 1)

theorem zh0 (N : Nat) : Contract Tryd.prog za 24 (zam N) := by
  refine Contract.hand ⟨_, Tryd.func24, by kernel_rfl, by decide⟩ ?_
  intro w S vals ob x y har hS hg hy
  obtain ⟨x, most, u⟩ := x
  cases u
  obtain ⟨n, x', u⟩ := y
  cases u
  obtain ⟨b, rfl, ho, ho', hR⟩ := z11n hS har
  refine (z17t N hR hy).mono ?_
  rintro r w' ⟨rfl, hF⟩
  exact zjj (rest := [.v (.int .u64) most]) (fun _ h => by rw [List.mem_singleton.1 h]; rfl) rfl ho ho' rfl hF (fun S' => ⟨VR.int, rfl⟩) rfl

theorem z128 (N : Nat) {w : World} {S : Hp} (hS : Lift.Sub S (hp w)) :
    Calls Tryd.prog 43 #[.pointer none] w fun r w' => r = .returned (.bool false) ∧
      ∃ S', WF w (fun _ => False) w' /\ Lift.Sub S S' /\ Lift.Sub S' (hp w') /\ ∀ k, S' k ≠ none -> S k ≠ none \/ w.heap.size <= k := by
  have h := (z68 N).2 w S [.v .opq (.pointer none)] [.pointer none] (fun _ => []) ⟨rfl, fun i x hx => ?_, fun _ _ => rfl, (fun i j b hb => by cases hb), fun _ => .nil, (fun i b hb => by cases hb)⟩ hS (z9h S) false rfl
  . refine h.mono ?_
    rintro r w' ⟨v, S', o, ob', rfl, hwf, h3, h4, h5, ⟨⟨hv, _⟩, _⟩, _⟩
    refine ⟨by rw [VR.bool_inv hv], S', ⟨hwf.size, fun k hk _ => hwf.same k hk (by rintro ⟨i, hi⟩; cases hi), hwf.tape, hwf.os, hwf.output⟩, h3, h4, fun b hb => ?_⟩
    rcases h5 b hb with h | ⟨i, hi⟩ | h
    . exact .inl h
    . cases hi
    . exact .inr h
  . match i with
    | 0 => cases hx; exact ⟨⟨_, rfl, VR.of_one rfl ⟨rfl, rfl⟩, rfl⟩, rfl⟩
    | i + 1 => cases hx

theorem z1as (N : Nat) {w : World} {S : Hp} {most : Int} (hS : Lift.Sub S (hp w)) :
    Calls Tryd.prog 24 #[.pointer none, .int .u64 most] w fun r w' => r = .returned (.int .u64 0) ∧
      ∃ S', WF w (fun _ => False) w' /\ Lift.Sub S S' /\ Lift.Sub S' (hp w') /\ ∀ k, S' k ≠ none -> S k ≠ none \/ w.heap.size <= k := by
  have hmf : ∀ (fn : Fn) (first cap : Array Value) (w : World), (Instr.makeFunc fn first cap).run Tryd.prog w = .ok (.func fn first cap) w := fun _ _ _ _ => rfl
  have hA := z2x w (.pointer none) 47
  have hh : (w.alloc (.cells #[.pointer none] 47)).heap = w.heap.push (.cells #[.pointer none] 47 (0, 0)) := rfl
  have hk : ∀ k, k < w.heap.size -> (w.alloc (.cells #[.pointer none] 47)).heap[k]? = w.heap[k]? := fun k hk => by
    rw [hh, Array.getElem?_push, if_neg (by omega)]
  have hz : (w.alloc (.cells #[.pointer none] 47)).heap.size = w.heap.size + 1 := by rw [hh, Array.size_push]
  have hS1 : Lift.Sub S (hp (w.alloc (.cells #[.pointer none] 47))) := fun k o ho => by
    have := hS k o ho
    simp only [hp] at this ⊢
    rw [hk k (Array.getElem?_eq_some_iff.1 this).1]
    exact this
  have hcr := z128 N hS1
  clear hh
  go_enter_defers Tryd.func24, Tryd.ntmps24
  go_wp2_with (go_at_call 43; refine hcr.mono ?_; rintro r w2 ⟨rfl, hF2⟩; have HM := Go.Lib.hid hF2; clear hcr hF2)
  obtain ⟨S2, g1, g2, g3, g4⟩ := HM.out
  have hc2 : w2.cell? ⟨w.heap.size, 0, none⟩ = some (.pointer none) := by
    have := g1.same w.heap.size (by rw [hz]; omega) (fun h => h)
    simp only [World.cell?] at hA ⊢
    rw [this]; exact hA
  refine leaves_cons (f := 41) (args := #[.pointer (some ⟨w.heap.size, 0, none⟩)]) (by simp) (by simp [go_sem]) ?_
  refine (zvh hc2).mono ?_
  rintro r u w3 ⟨⟨v, rfl⟩, rfl, rfl⟩
  refine ⟨_, ?_, rfl, S2, ⟨?_, fun k h1 _ => ?_, ?_, ?_, ?_⟩, g2, g3, fun k hk => ?_⟩
  . simp [results, Tryd.results24, go_sem]
  . have := g1.size
    rw [hz] at this
    exact Nat.le_of_succ_le this
  . have := g1.same k (by rw [hz]; omega) (fun h => h)
    exact this.trans (hk k h1)
  . exact g1.tape
  . exact g1.os
  . exact g1.output
  . rcases g4 k hk with h | h
    . exact .inl h
    . rw [hz] at h; exact .inr (by omega)

def z61 (N : Nat) : List A -> Res := zpy [(0, .nilp), (0, .v (.int .u64))] (fun _ => some 0) (zaj (.v (.int .u64)) 2) (zam N)

theorem zc3 (N : Nat) : Contract Tryd.prog za 24 (z61 N) := by
  refine Contract.alt (Contract.hand ⟨_, Tryd.func24, by kernel_rfl, by decide⟩ ?_) (zh0 N)
  intro w S vals ob x y har hS hg hy
  obtain ⟨p, most, u⟩ := x
  cases p
  cases u
  cases hy
  obtain ⟨⟨v0, hv0, hA0, ho0⟩, _⟩ := har.rel 0 _ rfl
  obtain ⟨⟨v1, hv1, hA1, ho1⟩, _⟩ := har.rel 1 _ rfl
  have hvals : vals = [v0, v1] := by
    match vals, har.len with
    | [a, c], _ => cases hv0; cases hv1; rfl
  have e0 := VR.opq_inv hA0
  have e1 := VR.int_inv hA1
  subst e0
  subst e1
  subst hvals
  have hnone : ∀ i, ob i = [] := fun i => by
    match i with
    | 0 => exact ho0
    | 1 => exact ho1
    | i + 2 => exact har.out _ (by simp [mkS, zch])
  refine (z1as N hS).mono ?_
  rintro r w' ⟨rfl, S', h1, h2, h3, h4⟩
  refine ⟨_, S', [], ob, rfl, ⟨h1.size, fun k hk _ => h1.same k hk (fun h => h), h1.tape, h1.os, h1.output⟩, h2, h3, fun k hk => ?_, ⟨⟨VR.int, rfl⟩, rfl⟩, (fun k hk => by cases hk), .nil, ?_, ?_, har.inj, har.nd, fun _ h => h⟩
  . rcases h4 k hk with h | h
    . exact .inl h
    . exact .inr (.inr h)
  . intro i y hy hbx
    match i with
    | 0 => cases hy; cases hbx
    | 1 => cases hy; cases hbx
    | i + 2 => simp [mkS, zch] at hy
  . intro i k hk
    rw [hnone i] at hk
    cases hk

theorem z16y (n : Nat) : Go.IntKind.wrap .u64 (n : Int) <= n := by
  have e : Go.IntKind.wrap .u64 (n : Int) = (n : Int) % 18446744073709551616 := rfl
  rw [e]
  omega

theorem z13v {w : World} {S : Hp} {b : Nat} {x : RdrT.den} (h : Rdr w S b x) {n : Int} (hn : 0 <= n) (hle : n <= Go.IntKind.wrap .u64 (x.2.1.length : Int)) :
    Calls Tryd.prog 63 #[.pointer (some ⟨b, 0, none⟩), .int .u64 n] w fun r w' => r = .returned (.string ⟨⟨x.2.1.take n.toNat⟩⟩) /\ Fine w S b (x.1, x.2.1.drop n.toNat, x.2.2.1, ()) w' := by
  obtain ⟨c1, z1⟩ := z9c h
  refine (zwl c1 z1 hn hle (Int.le_trans hle (z16y _))).mono ?_
  rintro r w' ⟨rfl, rfl⟩
  exact ⟨rfl, zvt h _⟩

theorem z109 {w : World} {S : Hp} {b : Nat} {x : RdrT.den} (h : Rdr w S b x) {n : Int} (hle : ¬ n <= Go.IntKind.wrap .u64 (x.2.1.length : Int)) :
    Calls Tryd.prog 63 #[.pointer (some ⟨b, 0, none⟩), .int .u64 n] w fun r w' => r = .panicked [{ v := .iface 30 (.int .i64 1), recovered := false }] /\ Fine w S b x w' := by
  obtain ⟨c1, z1⟩ := z9c h
  refine (zwm c1 z1 hle).mono ?_
  rintro r w' ⟨rfl, rfl⟩
  exact ⟨rfl, z15q h⟩

def zn (N : Nat) (x : RdrT.den) (most : Int) : Option (List UInt8 × (RdrT.den × Unit)) :=
 cond (x.1 && (x.2.2.1 == 0))
 ((z2c N x.2.1).bind fun y =>
 cond (decide (y.2.2.1 = 0))
 (cond (decide (y.1 <= Go.IntKind.wrap .u64 (if most < 0 then 0 else most)))
 (cond (decide (0 <= y.1 /\ 0 <= y.2.1 /\ y.2.1 <= x.2.1.length))
 (cond (decide (y.1 <= Go.IntKind.wrap .u64 ((x.2.1.drop y.2.1.toNat).length : Int)))
 (some ((x.2.1.drop y.2.1.toNat).take y.1.toNat, ((x.1, (x.2.1.drop y.2.1.toNat).drop y.1.toNat, x.2.2.1, ()), ())))
 (some ([], ((x.1, [], 1, ()), ()))))
 none)
 (some ([], ((x.1, [], 3, ()), ()))))
 (some ([], ((x.1, [], y.2.2.1, ()), ()))))
 (some ([], (x, ())))

theorem z13t (N : Nat) {w : World} {S : Hp} {b : Nat} {x : RdrT.den} {most : Int} {s : List UInt8} {x' : RdrT.den} (h : Rdr w S b x) (hy : zn N x most = some (s, (x', ()))) :
    Calls Tryd.prog 39 #[.pointer (some ⟨b, 0, none⟩), .int .i64 most] w fun r w' => r = .returned (.string ⟨⟨s⟩⟩) /\ Fine w S b x' w' := by
  unfold zn at hy
  cases hr : (x.1 && (x.2.2.1 == 0)) with
  | false =>
    rw [hr] at hy
    cases hy
    exact z173 N h hr
  | true =>
    rw [hr] at hy
    cases ht : z2c N x.2.1 with
    | none => rw [ht] at hy; cases hy
    | some y =>
      rw [ht, Option.bind_some] at hy
      by_cases he : y.2.2.1 = 0
      . rw [decide_eq_true he] at hy
        by_cases hm : y.1 <= Go.IntKind.wrap .u64 (if most < 0 then 0 else most)
        . rw [decide_eq_true hm] at hy
          by_cases hu : 0 <= y.1 /\ 0 <= y.2.1 /\ y.2.1 <= x.2.1.length
          . rw [decide_eq_true hu] at hy
            by_cases hl : y.1 <= Go.IntKind.wrap .u64 ((x.2.1.drop y.2.1.toNat).length : Int)
            . rw [decide_eq_true hl] at hy
              cases hy
              exact z1ad N h rfl hr (fun w1 S1 h1 => zma N h1 ht he hm hu.2.1 hu.2.2) (fun w1 S1 h1 => z13v h1 hu.1 hl)
            . rw [decide_eq_false hl] at hy
              cases hy
              have e := zo5 (x := (x.1, x.2.1.drop y.2.1.toNat, x.2.2.1, ())) (e := 1) hr (by decide)
              have k := z175 N h rfl hr (fun w1 S1 h1 => zma N h1 ht he hm hu.2.1 hu.2.2) (fun w1 S1 h1 => z109 h1 hl)
              rw [e] at k
              exact k
          . rw [decide_eq_false hu] at hy
            cases hy
        . rw [decide_eq_false hm] at hy
          cases hy
          rw [<- zo5 hr (by decide : (3 : Int) ≠ 0)]
          exact zwk N h rfl hr (fun w1 S1 h1 => zs7 N h1 ht he hm)
      . rw [decide_eq_false he] at hy
        cases hy
        rw [<- zo5 hr he]
        exact zwk N h rfl hr (fun w1 S1 h1 => zuf N h1 ht he)

def z2y (N : Nat) : List A -> Res := z1f [(0, .box (.pair .bool (.pair .str (.pair (.int .i64) .unit)))), (0, .v (.int .i64))] (fun x => zn N x.1 x.2.1) (zj7 (.v .str) [(0, .box (.pair .bool (.pair .str (.pair (.int .i64) .unit))))] 1)

theorem z60 (N : Nat) : Contract Tryd.prog za 39 (z2y N) := by
  refine Contract.hand ⟨_, Tryd.func39, by kernel_rfl, by decide⟩ ?_
  intro w S vals ob x y har hS hg hy
  obtain ⟨x, most, u⟩ := x
  cases u
  obtain ⟨s, x', u⟩ := y
  cases u
  obtain ⟨b, rfl, ho, ho', hR⟩ := z11n hS har
  refine (z13t N hR hy).mono ?_
  rintro r w' ⟨rfl, hF⟩
  exact zjj (rest := [.v (.int .i64) most]) (fun _ h => by rw [List.mem_singleton.1 h]; rfl) rfl ho ho' rfl hF (fun S' => ⟨VR.str, rfl⟩) rfl

def zn4 : Code := (Go.Proofs.Tryd.f60.body).getD .skip

def zi0 : List (List Nat × List Nat) := [([0], [0, 2]), ([0, 1], [0, 3, 2]), ([0, 0, 1, 1], [5, 0, 3, 2]), ([0, 0, 1, 0, 1, 1], [8, 0, 3, 2, 5]), ([1, 0, 1, 0, 1, 1], [3, 2, 0]), ([0, 1, 1, 0, 1, 0, 1, 1], [13, 0, 3, 2]), ([1, 1, 1, 0, 1, 0, 1, 1], [3, 2, 0]), ([1, 1, 1, 1, 0, 1, 0, 1, 1], [3, 2, 0]), ([0, 0, 1, 1, 1, 0, 1, 0, 1, 1], [0, 3, 2]), ([0, 1, 0, 1, 1, 1, 0, 1, 0, 1, 1], [3, 0, 2]), ([0, 1, 1, 0, 1, 1, 1, 0, 1, 0, 1, 1], [23, 0, 3, 2]), ([1, 1, 1, 0, 1, 1, 1, 0, 1, 0, 1, 1], [3, 2, 0]), ([0, 1, 1, 1, 0, 1, 1, 1, 0, 1, 0, 1, 1], [3, 2, 0]), ([0, 1, 0, 1, 0, 1, 1], [3, 2, 0]), ([1, 0, 1, 1], [3, 2, 0]), ([0, 1, 1, 1], [2, 0]), ([1, 1, 1, 1], [2, 0])]

def zbd (N : Nat) : Env := z2n tys za [(61, z53 N), (39, z2y N), (40, z1o N)] [] [] [0] false [] []

theorem zov (N : Nat) : EnvOk Go.Proofs.Tryd.prog (zbd N) := zk mixed z1a (FnsOk.cons (zas N) (FnsOk.cons (z60 N) (FnsOk.cons (z1w N) (FnsOk.nil)))) (ItsOk.nil)

def z78 (N : Nat) (f : (Bool × ((List UInt8) × (Int × Unit)))) : Option (((List UInt8) × ((List UInt8) × Unit)) × ((Bool × ((List UInt8) × (Int × Unit))) × Unit)) :=
 (z13 N f).bind fun y =>
 cond (y.1 == (0 : Int))
 ((zn N y.2.1 (2048 : Int)).bind fun y1 =>
 some ((y1.1, (([] : List UInt8), ())), (y1.2.1, ())))
 (cond (y.1 == (1 : Int))
 ((zn N y.2.1 (4144 : Int)).bind fun y2 =>
 (zn N y2.2.1 (4144 : Int)).bind fun y3 =>
 cond (y3.1 == ([] : List UInt8))
 ((zl N y3.2.1 (2 : Int)).bind fun y4 =>
 some ((y2.1, (y3.1, ())), (y4.2.1, ())))
 (some ((y2.1, (y3.1, ())), (y3.2.1, ()))))
 ((zl N y.2.1 (2 : Int)).bind fun y5 =>
 some ((([] : List UInt8), (([] : List UInt8), ())), (y5.2.1, ()))))

def zhz (N : Nat) : Tab (((List UInt8) × ((List UInt8) × Unit)) × ((Bool × ((List UInt8) × (Int × Unit))) × Unit)) := []

theorem zn3 (N : Nat) (x : z26 [(0, .box (.pair .bool (.pair .str (.pair (.int .i64) .unit))))]) : z9l (zbd N) N (zhz N) zi0 Go.Proofs.Tryd.f60 (mkS [(0, .box (.pair .bool (.pair .str (.pair (.int .i64) .unit))))] 0 x) (zfk (.v (.pair .str (.pair .str .unit))) [(0, .box (.pair .bool (.pair .str (.pair (.int .i64) .unit))))] 0) = z78 N x.1 := by kernel_rfl

def zep (N : Nat) : List A -> Res := z1f [(0, .box (.pair .bool (.pair .str (.pair (.int .i64) .unit))))] (fun x => z78 N x.1) (zj7 (.v (.pair .str (.pair .str .unit))) [(0, .box (.pair .bool (.pair .str (.pair (.int .i64) .unit))))] 0)

theorem zqk (N : Nat) : Contract Go.Proofs.Tryd.prog za 60 (zep N) :=
  Contract.of (E := zbd N) (H := zhz N) (L := zi0) (N := N) (body := zn4) (K := (zfk (.v (.pair .str (.pair .str .unit))) [(0, .box (.pair .bool (.pair .str (.pair (.int .i64) .unit))))] 0)) (zov N) Go.Proofs.Tryd.func60 (by kernel_rfl) (by decide) (fun _ hb => TabOk.nil) (fun x y h => by rw [zn3]; exact h) (zax (s := (.v (.pair .str (.pair .str .unit)))) (os := [(0, .box (.pair .bool (.pair .str (.pair (.int .i64) .unit))))]) (m := 0))

def zhl : Code := (Go.Proofs.Tryd.f45.body).getD .skip

def zc5 : List (List Nat × List Nat) := [([0], [0]), ([0, 0, 1], [4, 0]), ([1, 0, 1], [0]), ([0, 0, 1, 0, 1], [2, 0]), ([1, 0, 1, 0, 1], [2, 0]), ([0, 1, 1], [2, 0]), ([1, 1, 1], [2, 0])]

def z6k (N : Nat) : Env := z2n tys za [] [] [] [0] false [] []

theorem zje (N : Nat) : EnvOk Go.Proofs.Tryd.prog (z6k N) := zk mixed z1a (FnsOk.nil) (ItsOk.nil)

def zfq (N : Nat) (r_ : (Bool × ((List UInt8) × (Int × Unit)))) : Option (Int × ((Bool × ((List UInt8) × (Int × Unit))) × Unit)) :=
 some ((((List.length r_.2.1) : Nat) : Int), (r_, ()))

def zc4 (N : Nat) : Tab (Int × ((Bool × ((List UInt8) × (Int × Unit))) × Unit)) := []

theorem zhk (N : Nat) (x : z26 [(0, .box (.pair .bool (.pair .str (.pair (.int .i64) .unit))))]) : z9l (z6k N) N (zc4 N) zc5 Go.Proofs.Tryd.f45 (mkS [(0, .box (.pair .bool (.pair .str (.pair (.int .i64) .unit))))] 0 x) (zfk (.v (.int .i64)) [(0, .box (.pair .bool (.pair .str (.pair (.int .i64) .unit))))] 0) = zfq N x.1 := by kernel_rfl

def z9j (N : Nat) : List A -> Res := z1f [(0, .box (.pair .bool (.pair .str (.pair (.int .i64) .unit))))] (fun x => zfq N x.1) (zj7 (.v (.int .i64)) [(0, .box (.pair .bool (.pair .str (.pair (.int .i64) .unit))))] 0)

theorem zkt (N : Nat) : Contract Go.Proofs.Tryd.prog za 45 (z9j N) :=
  Contract.of (E := z6k N) (H := zc4 N) (L := zc5) (N := N) (body := zhl) (K := (zfk (.v (.int .i64)) [(0, .box (.pair .bool (.pair .str (.pair (.int .i64) .unit))))] 0)) (zje N) Go.Proofs.Tryd.func45 (by kernel_rfl) (by decide) (fun _ hb => TabOk.nil) (fun x y h => by rw [zhk]; exact h) (zax (s := (.v (.int .i64))) (os := [(0, .box (.pair .bool (.pair .str (.pair (.int .i64) .unit))))]) (m := 0))

def zcs : Code := (Go.Proofs.Tryd.f45.body).getD .skip

def z7z : List (List Nat × List Nat) := [([0], [0]), ([0, 0, 1], [4, 0]), ([1, 0, 1], [0]), ([0, 0, 1, 0, 1], [2]), ([1, 0, 1, 0, 1], [2]), ([0, 1, 1], [2]), ([1, 1, 1], [2])]

def z3v (N : Nat) : Env := z2n tys za [] [] [] [] false [] []

theorem zec (N : Nat) : EnvOk Go.Proofs.Tryd.prog (z3v N) := zk mixed z1a (FnsOk.nil) (ItsOk.nil)

def z50 (N : Nat) : Option Int :=
 some (0 : Int)

def z7y (N : Nat) : Tab Int := []

theorem zcr (N : Nat) (x : z26 [(0, .nilp)]) : z9l (z3v N) N (z7y N) z7z Go.Proofs.Tryd.f45 (mkS [(0, .nilp)] 0 x) (z41 (.v (.int .i64)) 1) = z50 N := by kernel_rfl

def zeb (N : Nat) : List A -> Res := z1f [(0, .nilp)] (fun x => z50 N) (zaj (.v (.int .i64)) 1)

theorem zfp (N : Nat) : Contract Go.Proofs.Tryd.prog za 45 (zeb N) :=
  Contract.of (E := z3v N) (H := z7y N) (L := z7z) (N := N) (body := zcs) (K := (z41 (.v (.int .i64)) 1)) (zec N) Go.Proofs.Tryd.func45 (by kernel_rfl) (by decide) (fun _ hb => TabOk.nil) (fun x y h => by rw [zcr]; exact h) (z16 (s := (.v (.int .i64))) (m := 1))

def z30 (N : Nat) : List A -> Res := zpy [(0, .nilp)] (fun x => z50 N) (zaj (.v (.int .i64)) 1) (z9j N)

theorem z4z (N : Nat) : Contract Go.Proofs.Tryd.prog za 45 (z30 N) := Contract.alt (zfp N) (zkt N)

def z2a : Code := (Go.Proofs.Tryd.f46.body).getD .skip

def z4m : List (List Nat × List Nat) := [([0], [0]), ([0, 0, 1], [11, 0]), ([1, 0, 1], [0]), ([0, 0, 1, 0, 1], [2, 0]), ([1, 0, 1, 0, 1], [2, 0]), ([0, 1, 1], [2, 0]), ([1, 1, 1], [2, 0])]

def z2z (N : Nat) : Env := z2n tys za [] [] [] [0] false [] []

theorem zkx (N : Nat) : EnvOk Go.Proofs.Tryd.prog (z2z N) := zk mixed z1a (FnsOk.nil) (ItsOk.nil)

def zc7 (N : Nat) (r_ : (Bool × ((List UInt8) × (Int × Unit)))) (k0 : Bool -> Option (Int × ((Bool × ((List UInt8) × (Int × Unit))) × Unit))) : Option (Int × ((Bool × ((List UInt8) × (Int × Unit))) × Unit)) :=
 k0 (!r_.1)

def zcb (N : Nat) (x : z26 [(0, .box (.pair .bool (.pair .str (.pair (.int .i64) .unit))))]) (K : Ex -> List A -> Option (Int × ((Bool × ((List UInt8) × (Int × Unit))) × Unit))) : Option (Int × ((Bool × ((List UInt8) × (Int × Unit))) × Unit)) :=
 zc7 N x.1 (fun a1 => (K .normal (mkS [(0, .box (.pair .bool (.pair .str (.pair (.int .i64) .unit)))), (10, .v .bool)] 4 (x.1, a1, ()))))

def zc9 (N : Nat) : Hd (Int × ((Bool × ((List UInt8) × (Int × Unit))) × Unit)) := fun st K => (unS [(0, .box (.pair .bool (.pair .str (.pair (.int .i64) .unit))))] 15 (restr [0] 0 st)).bind fun x => zcb N x K

def zmh (N : Nat) : Tab (Int × ((Bool × ((List UInt8) × (Int × Unit))) × Unit)) := []

theorem zkv {N : Nat} {c : Ctx} (hb : Base Go.Proofs.Tryd.prog (z2z N) c) : z11 Go.Proofs.Tryd.prog c (zj z2a [0, 0, 1]) (zc9 N) :=
  z1j (s := [(0, .box (.pair .bool (.pair .str (.pair (.int .i64) .unit))))]) (m := 15) (g := zcb N) [0] (ze hb N (zmh N) z4m z2a TabOk.nil [0, 0, 1] _ rfl) (fun x K => by kernel_rfl)

def zc8 (N : Nat) (r_ : (Bool × ((List UInt8) × (Int × Unit)))) (k0 : Int -> Option (Int × ((Bool × ((List UInt8) × (Int × Unit))) × Unit))) (k1 : Option (Int × ((Bool × ((List UInt8) × (Int × Unit))) × Unit))) : Option (Int × ((Bool × ((List UInt8) × (Int × Unit))) × Unit)) :=
 zc7 N r_
 (fun x11 => cond x11
 (k0 (21 : Int))
 (k1))

def zcc (N : Nat) (x : z26 [(0, .box (.pair .bool (.pair .str (.pair (.int .i64) .unit))))]) (K : Ex -> List A -> Option (Int × ((Bool × ((List UInt8) × (Int × Unit))) × Unit))) : Option (Int × ((Bool × ((List UInt8) × (Int × Unit))) × Unit)) :=
 zc8 N x.1 (fun a1 => (K .ret (mkS [(0, .box (.pair .bool (.pair .str (.pair (.int .i64) .unit)))), (1, .v (.int .i64))] 13 (x.1, a1, ())))) (K .normal (mkS [(0, .box (.pair .bool (.pair .str (.pair (.int .i64) .unit))))] 15 (x.1, ())))

def zca (N : Nat) : Hd (Int × ((Bool × ((List UInt8) × (Int × Unit))) × Unit)) := fun st K => (unS [(0, .box (.pair .bool (.pair .str (.pair (.int .i64) .unit))))] 15 (restr [0] 0 st)).bind fun x => zcc N x K

def zmi (N : Nat) : Tab (Int × ((Bool × ((List UInt8) × (Int × Unit))) × Unit)) := [([0, 0, 1], zc9 N)]

theorem zkw {N : Nat} {c : Ctx} (hb : Base Go.Proofs.Tryd.prog (z2z N) c) : z11 Go.Proofs.Tryd.prog c (zj z2a [0, 1]) (zca N) :=
  z1j (s := [(0, .box (.pair .bool (.pair .str (.pair (.int .i64) .unit))))]) (m := 15) (g := zcc N) [0] (ze hb N (zmi N) z4m z2a (TabOk.cons (zkv hb) TabOk.nil) [0, 1] _ rfl) (fun x K => by kernel_rfl)

def z6c (N : Nat) (r_ : (Bool × ((List UInt8) × (Int × Unit)))) : Option (Int × ((Bool × ((List UInt8) × (Int × Unit))) × Unit)) :=
 zc8 N r_
 (fun x2 => some (x2, (r_, ())))
 (some (r_.2.2.1, (r_, ())))

def zds (N : Nat) : Tab (Int × ((Bool × ((List UInt8) × (Int × Unit))) × Unit)) := [([0, 1], zca N)]

theorem zjh (N : Nat) (x : z26 [(0, .box (.pair .bool (.pair .str (.pair (.int .i64) .unit))))]) : z9l (z2z N) N (zds N) z4m Go.Proofs.Tryd.f46 (mkS [(0, .box (.pair .bool (.pair .str (.pair (.int .i64) .unit))))] 0 x) (zfk (.v (.int .i64)) [(0, .box (.pair .bool (.pair .str (.pair (.int .i64) .unit))))] 0) = z6c N x.1 := by kernel_rfl

def zaq (N : Nat) : List A -> Res := z1f [(0, .box (.pair .bool (.pair .str (.pair (.int .i64) .unit))))] (fun x => z6c N x.1) (zj7 (.v (.int .i64)) [(0, .box (.pair .bool (.pair .str (.pair (.int .i64) .unit))))] 0)

theorem zmj (N : Nat) : Contract Go.Proofs.Tryd.prog za 46 (zaq N) :=
  Contract.of (E := z2z N) (H := zds N) (L := z4m) (N := N) (body := z2a) (K := (zfk (.v (.int .i64)) [(0, .box (.pair .bool (.pair .str (.pair (.int .i64) .unit))))] 0)) (zkx N) Go.Proofs.Tryd.func46 (by kernel_rfl) (by decide) (fun _ hb => (TabOk.cons (zkw hb) TabOk.nil)) (fun x y h => by rw [zjh]; exact h) (zax (s := (.v (.int .i64))) (os := [(0, .box (.pair .bool (.pair .str (.pair (.int .i64) .unit))))]) (m := 0))

def z1p : Code := (Go.Proofs.Tryd.f46.body).getD .skip

def z2s : List (List Nat × List Nat) := [([0], [0]), ([0, 0, 1], [11, 0]), ([1, 0, 1], [0]), ([0, 0, 1, 0, 1], [2]), ([1, 0, 1, 0, 1], [2]), ([0, 1, 1], [2]), ([1, 1, 1], [2])]

def z23 (N : Nat) : Env := z2n tys za [] [] [] [] false [] []

theorem zfw (N : Nat) : EnvOk Go.Proofs.Tryd.prog (z23 N) := zk mixed z1a (FnsOk.nil) (ItsOk.nil)

def z81 (N : Nat) (k0 : Bool -> Option Int) : Option Int :=
 k0 true

def z85 (N : Nat) (x : z26 [(0, .nilp)]) (K : Ex -> List A -> Option Int) : Option Int :=
 z81 N (fun a0 => (K .normal (mkS [(0, .nilp), (10, .v .bool)] 4 ((), a0, ()))))

def z83 (N : Nat) : Hd Int := fun st K => (unS [(0, .nilp)] 15 (restr [0] 0 st)).bind fun x => z85 N x K

def zh1 (N : Nat) : Tab Int := []

theorem zfu {N : Nat} {c : Ctx} (hb : Base Go.Proofs.Tryd.prog (z23 N) c) : z11 Go.Proofs.Tryd.prog c (zj z1p [0, 0, 1]) (z83 N) :=
  z1j (s := [(0, .nilp)]) (m := 15) (g := z85 N) [0] (ze hb N (zh1 N) z2s z1p TabOk.nil [0, 0, 1] _ rfl) (fun x K => by kernel_rfl)

def z82 (N : Nat) (k0 : Int -> Option Int) (k1 : Option Int) : Option Int :=
 z81 N
 (fun x11 => cond x11
 (k0 (21 : Int))
 (k1))

def z86 (N : Nat) (x : z26 [(0, .nilp)]) (K : Ex -> List A -> Option Int) : Option Int :=
 z82 N (fun a0 => (K .ret (mkS [(2, .v (.int .i64))] 13 (a0, ())))) (K .normal (mkS [(0, .nilp)] 15 ((), ())))

def z84 (N : Nat) : Hd Int := fun st K => (unS [(0, .nilp)] 15 (restr [0] 0 st)).bind fun x => z86 N x K

def zh2 (N : Nat) : Tab Int := [([0, 0, 1], z83 N)]

theorem zfv {N : Nat} {c : Ctx} (hb : Base Go.Proofs.Tryd.prog (z23 N) c) : z11 Go.Proofs.Tryd.prog c (zj z1p [0, 1]) (z84 N) :=
  z1j (s := [(0, .nilp)]) (m := 15) (g := z86 N) [0] (ze hb N (zh2 N) z2s z1p (TabOk.cons (zfu hb) TabOk.nil) [0, 1] _ rfl) (fun x K => by kernel_rfl)

def z62 (N : Nat) : Option Int :=
 z82 N
 (fun x2 => some x2)
 (none)

def z8l (N : Nat) : Tab Int := [([0, 1], z84 N)]

theorem zeg (N : Nat) (x : z26 [(0, .nilp)]) : z9l (z23 N) N (z8l N) z2s Go.Proofs.Tryd.f46 (mkS [(0, .nilp)] 0 x) (z41 (.v (.int .i64)) 1) = z62 N := by kernel_rfl

def zft (N : Nat) : List A -> Res := z1f [(0, .nilp)] (fun x => z62 N) (zaj (.v (.int .i64)) 1)

theorem zh3 (N : Nat) : Contract Go.Proofs.Tryd.prog za 46 (zft N) :=
  Contract.of (E := z23 N) (H := z8l N) (L := z2s) (N := N) (body := z1p) (K := (z41 (.v (.int .i64)) 1)) (zfw N) Go.Proofs.Tryd.func46 (by kernel_rfl) (by decide) (fun _ hb => (TabOk.cons (zfv hb) TabOk.nil)) (fun x y h => by rw [zeg]; exact h) (z16 (s := (.v (.int .i64))) (m := 1))

def z3h (N : Nat) : List A -> Res := zpy [(0, .nilp)] (fun x => z62 N) (zaj (.v (.int .i64)) 1) (zaq N)

theorem z5h (N : Nat) : Contract Go.Proofs.Tryd.prog za 46 (z3h N) := Contract.alt (zh3 N) (zmj N)

def z52 : Code := (Go.Proofs.Tryd.f25.body).getD .skip

def z8a : List (List Nat × List Nat) := [([0], [0]), ([0, 0, 1], [5, 0]), ([1, 0, 1], [0]), ([0, 1, 0, 1], [0]), ([0, 1, 1], [2, 0]), ([1, 1, 1], [2, 0])]

def z4n (N : Nat) : Env := z2n tys za [(46, z3h N), (45, z30 N), (40, z1o N)] [] [] [0] false [] []

theorem zkz (N : Nat) : EnvOk Go.Proofs.Tryd.prog (z4n N) := zk mixed z1a (FnsOk.cons (z5h N) (FnsOk.cons (z4z N) (FnsOk.cons (z1w N) (FnsOk.nil)))) (ItsOk.nil)

def z3y (N : Nat) (r_ : (Bool × ((List UInt8) × (Int × Unit)))) (k0 : (Bool × ((List UInt8) × (Int × Unit))) -> Option (Int × ((Bool × ((List UInt8) × (Int × Unit))) × Unit))) : Option (Int × ((Bool × ((List UInt8) × (Int × Unit))) × Unit)) :=
 cond (decide ((0 : Int) < (((List.length r_.2.1) : Nat) : Int)))
 ((zl N r_ (2 : Int)).bind fun y =>
 k0 y.2.1)
 (k0 r_)

def zce (N : Nat) (x : z26 [(0, .box (.pair .bool (.pair .str (.pair (.int .i64) .unit))))]) (K : Ex -> List A -> Option (Int × ((Bool × ((List UInt8) × (Int × Unit))) × Unit))) : Option (Int × ((Bool × ((List UInt8) × (Int × Unit))) × Unit)) :=
 z3y N x.1 (fun a0 => (K .normal (mkS [(0, .box (.pair .bool (.pair .str (.pair (.int .i64) .unit))))] 9 (a0, ()))))

def zcd (N : Nat) : Hd (Int × ((Bool × ((List UInt8) × (Int × Unit))) × Unit)) := fun st K => (unS [(0, .box (.pair .bool (.pair .str (.pair (.int .i64) .unit))))] 9 (restr [0] 0 st)).bind fun x => zce N x K

def zmk (N : Nat) : Tab (Int × ((Bool × ((List UInt8) × (Int × Unit))) × Unit)) := []

theorem zky {N : Nat} {c : Ctx} (hb : Base Go.Proofs.Tryd.prog (z4n N) c) : z11 Go.Proofs.Tryd.prog c (zj z52 [0, 1]) (zcd N) :=
  z1j (s := [(0, .box (.pair .bool (.pair .str (.pair (.int .i64) .unit))))]) (m := 9) (g := zce N) [0] (ze hb N (zmk N) z8a z52 TabOk.nil [0, 1] _ rfl) (fun x K => by kernel_rfl)

def z2e (N : Nat) (r_ : (Bool × ((List UInt8) × (Int × Unit)))) : Option (Int × ((Bool × ((List UInt8) × (Int × Unit))) × Unit)) :=
 z3y N r_
 (fun r_1 => (z6c N r_1).bind fun y =>
 some (y.1, (y.2.1, ())))

def zdt (N : Nat) : Tab (Int × ((Bool × ((List UInt8) × (Int × Unit))) × Unit)) := [([0, 1], zcd N)]

theorem zji (N : Nat) (x : z26 [(0, .box (.pair .bool (.pair .str (.pair (.int .i64) .unit))))]) : z9l (z4n N) N (zdt N) z8a Go.Proofs.Tryd.f25 (mkS [(0, .box (.pair .bool (.pair .str (.pair (.int .i64) .unit))))] 0 x) (zfk (.v (.int .i64)) [(0, .box (.pair .bool (.pair .str (.pair (.int .i64) .unit))))] 0) = z2e N x.1 := by kernel_rfl

def zar (N : Nat) : List A -> Res := z1f [(0, .box (.pair .bool (.pair .str (.pair (.int .i64) .unit))))] (fun x => z2e N x.1) (zj7 (.v (.int .i64)) [(0, .box (.pair .bool (.pair .str (.pair (.int .i64) .unit))))] 0)

theorem zml (N : Nat) : Contract Go.Proofs.Tryd.prog za 25 (zar N) :=
  Contract.of (E := z4n N) (H := zdt N) (L := z8a) (N := N) (body := z52) (K := (zfk (.v (.int .i64)) [(0, .box (.pair .bool (.pair .str (.pair (.int .i64) .unit))))] 0)) (zkz N) Go.Proofs.Tryd.func25 (by kernel_rfl) (by decide) (fun _ hb => (TabOk.cons (zky hb) TabOk.nil)) (fun x y h => by rw [zji]; exact h) (zax (s := (.v (.int .i64))) (os := [(0, .box (.pair .bool (.pair .str (.pair (.int .i64) .unit))))]) (m := 0))

def z31 : Code := (Go.Proofs.Tryd.f25.body).getD .skip

def z4h : List (List Nat × List Nat) := [([0], [0]), ([0, 0, 1], [5, 0]), ([1, 0, 1], [0]), ([0, 1, 0, 1], [0]), ([0, 1, 1], [2]), ([1, 1, 1], [2])]

def z2t (N : Nat) : Env := z2n tys za [(46, z3h N), (45, z30 N), (40, z1o N)] [] [] [] false [] []

theorem zfz (N : Nat) : EnvOk Go.Proofs.Tryd.prog (z2t N) := zk mixed z1a (FnsOk.cons (z5h N) (FnsOk.cons (z4z N) (FnsOk.cons (z1w N) (FnsOk.nil)))) (ItsOk.nil)

def z87 (N : Nat) (k0 : Option Int) : Option Int :=
 k0

def z89 (N : Nat) (x : z26 [(0, .nilp)]) (K : Ex -> List A -> Option Int) : Option Int :=
 z87 N (K .normal (mkS [(0, .nilp)] 9 ((), ())))

def z88 (N : Nat) : Hd Int := fun st K => (unS [(0, .nilp)] 9 (restr [0] 0 st)).bind fun x => z89 N x K

def zh4 (N : Nat) : Tab Int := []

theorem zfy {N : Nat} {c : Ctx} (hb : Base Go.Proofs.Tryd.prog (z2t N) c) : z11 Go.Proofs.Tryd.prog c (zj z31 [0, 1]) (z88 N) :=
  z1j (s := [(0, .nilp)]) (m := 9) (g := z89 N) [0] (ze hb N (zh4 N) z4h z31 TabOk.nil [0, 1] _ rfl) (fun x K => by kernel_rfl)

def z63 (N : Nat) : Option Int :=
 z87 N
 (some (21 : Int))

def z8m (N : Nat) : Tab Int := [([0, 1], z88 N)]

theorem zeh (N : Nat) (x : z26 [(0, .nilp)]) : z9l (z2t N) N (z8m N) z4h Go.Proofs.Tryd.f25 (mkS [(0, .nilp)] 0 x) (z41 (.v (.int .i64)) 1) = z63 N := by kernel_rfl

def zfx (N : Nat) : List A -> Res := z1f [(0, .nilp)] (fun x => z63 N) (zaj (.v (.int .i64)) 1)

theorem zh5 (N : Nat) : Contract Go.Proofs.Tryd.prog za 25 (zfx N) :=
  Contract.of (E := z2t N) (H := z8m N) (L := z4h) (N := N) (body := z31) (K := (z41 (.v (.int .i64)) 1)) (zfz N) Go.Proofs.Tryd.func25 (by kernel_rfl) (by decide) (fun _ hb => (TabOk.cons (zfy hb) TabOk.nil)) (fun x y h => by rw [zeh]; exact h) (z16 (s := (.v (.int .i64))) (m := 1))

def z3i (N : Nat) : List A -> Res := zpy [(0, .nilp)] (fun x => z63 N) (zaj (.v (.int .i64)) 1) (zar N)

theorem z5i (N : Nat) : Contract Go.Proofs.Tryd.prog za 25 (z3i N) := Contract.alt (zh5 N) (zml N)

def z65 : Code := (Go.Proofs.Tryd.f38.body).getD .skip

def zgc : List (List Nat × List Nat) := [([0], [0, 2]), ([0, 1], [4, 2]), ([0, 1, 1], [4, 5, 2]), ([0, 0, 1, 1, 1], [16, 15, 5, 4, 2]), ([0, 1, 0, 1, 1, 1], [16, 15, 5, 4, 2]), ([0, 0, 0, 1, 0, 1, 1, 1], [17, 5, 4, 16, 15, 2]), ([0, 1, 0, 0, 1, 0, 1, 1, 1], [5, 4, 16, 15, 2]), ([1, 0, 1, 0, 0, 1, 0, 1, 1, 1], [4, 5, 2]), ([0, 0, 1, 1, 0, 0, 1, 0, 1, 1, 1], [16, 15, 5, 4, 2]), ([0, 1, 1, 0, 0, 1, 0, 1, 1, 1], [16, 15, 5, 4, 2]), ([1, 1, 1, 0, 0, 1, 0, 1, 1, 1], [16, 15, 5, 4, 2]), ([1, 0, 1, 1, 1], [4, 5, 2]), ([0, 1, 1, 1, 1], [6, 4, 5, 2]), ([0, 0, 1, 1, 1, 1, 1], [29, 28, 6, 4, 5, 2]), ([0, 1, 0, 1, 1, 1, 1, 1], [29, 28, 6, 4, 5, 2]), ([0, 0, 0, 1, 0, 1, 1, 1, 1, 1], [30, 29, 6, 4, 28, 5, 2]), ([0, 1, 0, 0, 1, 0, 1, 1, 1, 1, 1], [29, 6, 4, 28, 5, 2]), ([1, 0, 1, 0, 0, 1, 0, 1, 1, 1, 1, 1], [6, 5, 4, 2]), ([0, 0, 0, 1, 1, 0, 0, 1, 0, 1, 1, 1, 1, 1], [6, 7, 4, 29, 28, 5, 2]), ([1, 0, 0, 1, 1, 0, 0, 1, 0, 1, 1, 1, 1, 1], [29, 28, 6, 4, 5, 2]), ([0, 1, 1, 0, 0, 1, 0, 1, 1, 1, 1, 1], [29, 28, 6, 4, 5, 2]), ([1, 1, 1, 0, 0, 1, 0, 1, 1, 1, 1, 1], [29, 28, 6, 4, 5, 2]), ([1, 0, 1, 1, 1, 1, 1], [6, 5, 4, 2]), ([0, 1, 1, 1, 1, 1, 1], [4, 2, 5]), ([0, 0, 1, 1, 1, 1, 1, 1, 1], [8, 2, 5]), ([0, 1, 0, 1, 1, 1, 1, 1, 1, 1], [44, 8, 2, 5]), ([1, 1, 0, 1, 1, 1, 1, 1, 1, 1], [5, 2]), ([0, 0, 1, 1, 0, 1, 1, 1, 1, 1, 1, 1], [2, 3]), ([1, 0, 1, 1, 0, 1, 1, 1, 1, 1, 1, 1], [2, 3]), ([0, 1, 1, 1, 1, 1, 1, 1, 1], [2, 3]), ([1, 1, 1, 1, 1, 1, 1, 1, 1], [2, 3])]

def zbh (N : Nat) : Env := z2n tys za [(25, z3i N), (60, zep N), (61, z53 N), (24, z61 N), (39, z2y N), (22, zh6 N)] [(6, (.int .u8))] [] [] false [(13, (.pair .str (.pair (.own (.pair .str (.pair .str .unit))) (.pair .str .unit)))), (5, (.pair .str (.pair (.own (.pair .str (.pair .str .unit))) (.pair .str .unit))))] []

theorem zv7 (N : Nat) : EnvOk Go.Proofs.Tryd.prog (zbh N) := zk mixed z1a (FnsOk.cons (z5i N) (FnsOk.cons (zqk N) (FnsOk.cons (zas N) (FnsOk.cons (zc3 N) (FnsOk.cons (z60 N) (FnsOk.cons (zq7 N) (FnsOk.nil))))))) (ItsOk.nil)

def zi6 (N : Nat) (x2 : ((List UInt8) × ((List ((List UInt8) × ((List UInt8) × Unit))) × ((List UInt8) × Unit)))) (x15 : Int) (f : (Bool × ((List UInt8) × (Int × Unit)))) (t : ((List UInt8) × ((List ((List UInt8) × ((List UInt8) × Unit))) × ((List UInt8) × Unit)))) (x16 : Int) (rec : (Bool × ((List UInt8) × (Int × Unit))) -> ((List UInt8) × ((List ((List UInt8) × ((List UInt8) × Unit))) × ((List UInt8) × Unit))) -> Int -> Option (((List UInt8) × ((List ((List UInt8) × ((List UInt8) × Unit))) × ((List UInt8) × Unit))) × Int × Unit)) (k0 : (Bool × ((List UInt8) × (Int × Unit))) -> ((List UInt8) × ((List ((List UInt8) × ((List UInt8) × Unit))) × ((List UInt8) × Unit))) -> Option (((List UInt8) × ((List ((List UInt8) × ((List UInt8) × Unit))) × ((List UInt8) × Unit))) × Int × Unit)) : Option (((List UInt8) × ((List ((List UInt8) × ((List UInt8) × Unit))) × ((List UInt8) × Unit))) × Int × Unit) :=
 cond (decide (x16 < x15))
 ((z78 N f).bind fun y =>
 cond (decide ((((List.length t.2.1) + 1) * 32) <= 70368744177664))
 (rec y.2.1 (t.1, ((t.2.1 ++ ([y.1] : List ((List UInt8) × ((List UInt8) × Unit)))), t.2.2)) (Go.IntKind.wrap Go.IntKind.u64 (x16 + (1 : Int))))
 (none))
 (k0 f t)

def zi8 (N : Nat) (x2 : ((List UInt8) × ((List ((List UInt8) × ((List UInt8) × Unit))) × ((List UInt8) × Unit)))) (f : (Bool × ((List UInt8) × (Int × Unit)))) (t : ((List UInt8) × ((List ((List UInt8) × ((List UInt8) × Unit))) × ((List UInt8) × Unit)))) (x15 : Int) (x16 : Int) (k0 : (Bool × ((List UInt8) × (Int × Unit))) -> ((List UInt8) × ((List ((List UInt8) × ((List UInt8) × Unit))) × ((List UInt8) × Unit))) -> Option (((List UInt8) × ((List ((List UInt8) × ((List UInt8) × Unit))) × ((List UInt8) × Unit))) × Int × Unit)) : Option (((List UInt8) × ((List ((List UInt8) × ((List UInt8) × Unit))) × ((List UInt8) × Unit))) × Int × Unit) :=
 iter (fun (v : ((Bool × ((List UInt8) × (Int × Unit))) × ((List UInt8) × ((List ((List UInt8) × ((List UInt8) × Unit))) × ((List UInt8) × Unit))) × Int)) r => zi6 N x2 x15 v.1 v.2.1 v.2.2 (fun f t x16 => (r (f, t, x16))) k0) N (f, t, x16)

def zpu (N : Nat) (i : (((List UInt8) × ((List ((List UInt8) × ((List UInt8) × Unit))) × ((List UInt8) × Unit))) × Int)) (v : ((Bool × ((List UInt8) × (Int × Unit))) × ((List UInt8) × ((List ((List UInt8) × ((List UInt8) × Unit))) × ((List UInt8) × Unit))) × Int)) (r : ((Bool × ((List UInt8) × (Int × Unit))) × ((List UInt8) × ((List ((List UInt8) × ((List UInt8) × Unit))) × ((List UInt8) × Unit))) × Int) -> Option (((List UInt8) × ((List ((List UInt8) × ((List UInt8) × Unit))) × ((List UInt8) × Unit))) × Int × Unit)) (K : Ex -> List A -> Option (((List UInt8) × ((List ((List UInt8) × ((List UInt8) × Unit))) × ((List UInt8) × Unit))) × Int × Unit)) : Option (((List UInt8) × ((List ((List UInt8) × ((List UInt8) × Unit))) × ((List UInt8) × Unit))) × Int × Unit) :=
 zi6 N i.1 i.2 v.1 v.2.1 v.2.2 (fun f t x16 => (r (f, t, x16))) (fun a1 a2 => (K (.exit 0) (mkS [(2, .box (.pair .str (.pair (.sl (.pair .str (.pair .str .unit))) (.pair .str .unit)))), (1, .box (.pair .bool (.pair .str (.pair (.int .i64) .unit)))), (0, .box (.pair .str (.pair (.own (.pair .str (.pair .str .unit))) (.pair .str .unit))))] 42 (i.1, a1, a2, ()))))

def zps (N : Nat) : Hd (((List UInt8) × ((List ((List UInt8) × ((List UInt8) × Unit))) × ((List UInt8) × Unit))) × Int × Unit) := fun st K => (unS [(2, .box (.pair .str (.pair (.sl (.pair .str (.pair .str .unit))) (.pair .str .unit)))), (1, .box (.pair .bool (.pair .str (.pair (.int .i64) .unit)))), (0, .box (.pair .str (.pair (.own (.pair .str (.pair .str .unit))) (.pair .str .unit)))), (9, .v (.int .u64)), (0, .v (.int .u64))] 31 (restr [16, 15, 5, 4, 2] 0 st)).bind fun x => iter (fun v r => zpu N ((fun x => (x.1, x.2.2.2.1)) x) v r K) N ((fun x => (x.2.1, x.2.2.1, x.2.2.2.2.1)) x)

def zwg (N : Nat) : Tab (((List UInt8) × ((List ((List UInt8) × ((List UInt8) × Unit))) × ((List UInt8) × Unit))) × Int × Unit) := []

theorem zv6 {N : Nat} {c : Ctx} (hb : Base Go.Proofs.Tryd.prog (zbh N) c) : z11 Go.Proofs.Tryd.prog c (zj z65 [0, 1, 0, 1, 1, 1]) (zps N) :=
  z5y (s := [(2, .box (.pair .str (.pair (.sl (.pair .str (.pair .str .unit))) (.pair .str .unit)))), (1, .box (.pair .bool (.pair .str (.pair (.int .i64) .unit)))), (0, .box (.pair .str (.pair (.own (.pair .str (.pair .str .unit))) (.pair .str .unit)))), (9, .v (.int .u64)), (0, .v (.int .u64))]) (m := 31) (zpu N) [16, 15, 5, 4, 2] N (fun x => (x.1, x.2.2.2.1)) (fun x => (x.2.1, x.2.2.1, x.2.2.2.2.1)) (fun i v => (i.1, v.1, v.2.1, i.2, v.2.2, ())) (fun _ => rfl) (ze hb N (zwg N) zgc z65 TabOk.nil [0, 0, 1, 0, 1, 1, 1] _ rfl) (fun i v r K => by kernel_rfl)

def zi5 (N : Nat) (x2 : ((List UInt8) × ((List ((List UInt8) × ((List UInt8) × Unit))) × ((List UInt8) × Unit)))) (t : ((List UInt8) × ((List ((List UInt8) × ((List UInt8) × Unit))) × ((List UInt8) × Unit)))) (x28 : Int) (f : (Bool × ((List UInt8) × (Int × Unit)))) (tag : (List Int)) (x29 : Int) (rec : (Bool × ((List UInt8) × (Int × Unit))) -> (List Int) -> Int -> Option (((List UInt8) × ((List ((List UInt8) × ((List UInt8) × Unit))) × ((List UInt8) × Unit))) × Int × Unit)) (k0 : (Bool × ((List UInt8) × (Int × Unit))) -> (List Int) -> Option (((List UInt8) × ((List ((List UInt8) × ((List UInt8) × Unit))) × ((List UInt8) × Unit))) × Int × Unit)) : Option (((List UInt8) × ((List ((List UInt8) × ((List UInt8) × Unit))) × ((List UInt8) × Unit))) × Int × Unit) :=
 cond (decide (x29 < x28))
 ((z13 N f).bind fun y =>
 cond (Go.Lift.inR x29 (List.length tag))
 (cond (decide ((Int.toNat x29) < (List.length tag)))
 (rec y.2.1 (List.set tag (Int.toNat x29) y.1) (Go.IntKind.wrap Go.IntKind.i64 (x29 + (1 : Int))))
 (none))
 (none))
 (k0 f tag)

def zi7 (N : Nat) (x2 : ((List UInt8) × ((List ((List UInt8) × ((List UInt8) × Unit))) × ((List UInt8) × Unit)))) (f : (Bool × ((List UInt8) × (Int × Unit)))) (t : ((List UInt8) × ((List ((List UInt8) × ((List UInt8) × Unit))) × ((List UInt8) × Unit)))) (tag : (List Int)) (x28 : Int) (x29 : Int) (k0 : (Bool × ((List UInt8) × (Int × Unit))) -> (List Int) -> Option (((List UInt8) × ((List ((List UInt8) × ((List UInt8) × Unit))) × ((List UInt8) × Unit))) × Int × Unit)) : Option (((List UInt8) × ((List ((List UInt8) × ((List UInt8) × Unit))) × ((List UInt8) × Unit))) × Int × Unit) :=
 iter (fun (v : ((Bool × ((List UInt8) × (Int × Unit))) × (List Int) × Int)) r => zi5 N x2 t x28 v.1 v.2.1 v.2.2 (fun f tag x29 => (r (f, tag, x29))) k0) N (f, tag, x29)

def zpt (N : Nat) (i : (((List UInt8) × ((List ((List UInt8) × ((List UInt8) × Unit))) × ((List UInt8) × Unit))) × ((List UInt8) × ((List ((List UInt8) × ((List UInt8) × Unit))) × ((List UInt8) × Unit))) × Int)) (v : ((Bool × ((List UInt8) × (Int × Unit))) × (List Int) × Int)) (r : ((Bool × ((List UInt8) × (Int × Unit))) × (List Int) × Int) -> Option (((List UInt8) × ((List ((List UInt8) × ((List UInt8) × Unit))) × ((List UInt8) × Unit))) × Int × Unit)) (K : Ex -> List A -> Option (((List UInt8) × ((List ((List UInt8) × ((List UInt8) × Unit))) × ((List UInt8) × Unit))) × Int × Unit)) : Option (((List UInt8) × ((List ((List UInt8) × ((List UInt8) × Unit))) × ((List UInt8) × Unit))) × Int × Unit) :=
 zi5 N i.1 i.2.1 i.2.2 v.1 v.2.1 v.2.2 (fun f tag x29 => (r (f, tag, x29))) (fun a1 a3 => (K (.exit 2) (mkS [(2, .box (.pair .str (.pair (.sl (.pair .str (.pair .str .unit))) (.pair .str .unit)))), (1, .box (.pair .bool (.pair .str (.pair (.int .i64) .unit)))), (0, .box (.pair .str (.pair (.own (.pair .str (.pair .str .unit))) (.pair .str .unit)))), (0, .row (.int .u8))] 41 (i.1, a1, i.2.1, a3, ()))))

def zpr (N : Nat) : Hd (((List UInt8) × ((List ((List UInt8) × ((List UInt8) × Unit))) × ((List UInt8) × Unit))) × Int × Unit) := fun st K => (unS [(2, .box (.pair .str (.pair (.sl (.pair .str (.pair .str .unit))) (.pair .str .unit)))), (1, .box (.pair .bool (.pair .str (.pair (.int .i64) .unit)))), (0, .box (.pair .str (.pair (.own (.pair .str (.pair .str .unit))) (.pair .str .unit)))), (0, .row (.int .u8)), (21, .v (.int .i64)), (0, .v (.int .i64))] 18 (restr [29, 28, 6, 4, 5, 2] 0 st)).bind fun x => iter (fun v r => zpt N ((fun x => (x.1, x.2.2.1, x.2.2.2.2.1)) x) v r K) N ((fun x => (x.2.1, x.2.2.2.1, x.2.2.2.2.2.1)) x)

def zwf (N : Nat) : Tab (((List UInt8) × ((List ((List UInt8) × ((List UInt8) × Unit))) × ((List UInt8) × Unit))) × Int × Unit) := []

theorem zv5 {N : Nat} {c : Ctx} (hb : Base Go.Proofs.Tryd.prog (zbh N) c) : z11 Go.Proofs.Tryd.prog c (zj z65 [0, 1, 0, 1, 1, 1, 1, 1]) (zpr N) :=
  z5y (s := [(2, .box (.pair .str (.pair (.sl (.pair .str (.pair .str .unit))) (.pair .str .unit)))), (1, .box (.pair .bool (.pair .str (.pair (.int .i64) .unit)))), (0, .box (.pair .str (.pair (.own (.pair .str (.pair .str .unit))) (.pair .str .unit)))), (0, .row (.int .u8)), (21, .v (.int .i64)), (0, .v (.int .i64))]) (m := 18) (zpt N) [29, 28, 6, 4, 5, 2] N (fun x => (x.1, x.2.2.1, x.2.2.2.2.1)) (fun x => (x.2.1, x.2.2.2.1, x.2.2.2.2.2.1)) (fun i v => (i.1, v.1, i.2.1, v.2.1, i.2.2, v.2.2, ())) (fun _ => rfl) (ze hb N (zwf N) zgc z65 TabOk.nil [0, 0, 1, 0, 1, 1, 1, 1, 1] _ rfl) (fun i v r K => by kernel_rfl)

def zi9 (N : Nat) (s : (List UInt8)) : Option (((List UInt8) × ((List ((List UInt8) × ((List UInt8) × Unit))) × ((List UInt8) × Unit))) × Int × Unit) :=
 (zn N (true, (s, ((0 : Int), ()))) (4144 : Int)).bind fun y =>
 (z20 N y.2.1 (64 : Int)).bind fun y1 =>
 zi8 N (([] : List UInt8), (([] : List ((List UInt8) × ((List UInt8) × Unit))), (([] : List UInt8), ()))) y1.2.1 (y.1, (([] : List ((List UInt8) × ((List UInt8) × Unit))), (([] : List UInt8), ()))) y1.1 (0 : Int)
 (fun f t => zi7 N (([] : List UInt8), (([] : List ((List UInt8) × ((List UInt8) × Unit))), (([] : List UInt8), ()))) f t (List.replicate 32 (0 : Int)) (((List.length (List.replicate 32 (0 : Int))) : Nat) : Int) (0 : Int)
 (fun f1 tag => (z2e N f1).bind fun y2 =>
 cond (y2.1 != (0 : Int))
 (some ((([] : List UInt8), (([] : List ((List UInt8) × ((List UInt8) × Unit))), (([] : List UInt8), ()))), (y2.1, ())))
 (some ((t.1, (t.2.1, ((Go.Lift.toStr tag), t.2.2.2))), ((0 : Int), ())))))

def zrj (N : Nat) : Tab (((List UInt8) × ((List ((List UInt8) × ((List UInt8) × Unit))) × ((List UInt8) × Unit))) × Int × Unit) := [([0, 1, 0, 1, 1, 1], zps N), ([0, 1, 0, 1, 1, 1, 1, 1], zpr N)]

theorem ztl (N : Nat) (x : z26 [(0, .v .str)]) : z9l (zbh N) N (zrj N) zgc Go.Proofs.Tryd.f38 (mkS [(0, .v .str)] 0 x) (z41 (.tup [(.pair .str (.pair (.sl (.pair .str (.pair .str .unit))) (.pair .str .unit))), (.int .i64)]) 1) = zi9 N x.1 := by kernel_rfl

def znc (N : Nat) : List A -> Res := z1f [(0, .v .str)] (fun x => zi9 N x.1) (zaj (.tup [(.pair .str (.pair (.sl (.pair .str (.pair .str .unit))) (.pair .str .unit))), (.int .i64)]) 1)

theorem zwh (N : Nat) : Contract Go.Proofs.Tryd.prog za 38 (znc N) :=
  Contract.of (E := zbh N) (H := zrj N) (L := zgc) (N := N) (body := z65) (K := (z41 (.tup [(.pair .str (.pair (.sl (.pair .str (.pair .str .unit))) (.pair .str .unit))), (.int .i64)]) 1)) (zv7 N) Go.Proofs.Tryd.func38 (by kernel_rfl) (by decide) (fun _ hb => (TabOk.cons (zv6 hb) (TabOk.cons (zv5 hb) TabOk.nil))) (fun x y h => by rw [ztl]; exact h) (z16 (s := (.tup [(.pair .str (.pair (.sl (.pair .str (.pair .str .unit))) (.pair .str .unit))), (.int .i64)])) (m := 1))

def zl1 : Code := (Go.Proofs.Tryd.f23.body).getD .skip

def zg3 : List (List Nat × List Nat) := [([0], [0, 2]), ([0, 1], [0, 4, 3, 2]), ([0, 1, 1], [3, 2, 0]), ([0, 1, 1, 1], [2, 0]), ([1, 1, 1, 1], [2, 0])]

def z91 (N : Nat) : Env := z2n tys za [(38, znc N), (39, z2y N), (40, z1o N)] [] [] [0] false [] []

theorem zmq (N : Nat) : EnvOk Go.Proofs.Tryd.prog (z91 N) := zk mixed z1a (FnsOk.cons (zwh N) (FnsOk.cons (z60 N) (FnsOk.cons (z1w N) (FnsOk.nil)))) (ItsOk.nil)

def z3l (N : Nat) (f : (Bool × ((List UInt8) × (Int × Unit)))) : Option (((List UInt8) × ((List ((List UInt8) × ((List UInt8) × Unit))) × ((List UInt8) × Unit))) × ((Bool × ((List UInt8) × (Int × Unit))) × Unit)) :=
 (zn N f (65536 : Int)).bind fun y =>
 (zi9 N y.1).bind fun y1 =>
 (zl N y.2.1 y1.2.1).bind fun y2 =>
 some (y1.1, (y2.2.1, ()))

def zg2 (N : Nat) : Tab (((List UInt8) × ((List ((List UInt8) × ((List UInt8) × Unit))) × ((List UInt8) × Unit))) × ((Bool × ((List UInt8) × (Int × Unit))) × Unit)) := []

theorem zl0 (N : Nat) (x : z26 [(0, .box (.pair .bool (.pair .str (.pair (.int .i64) .unit))))]) : z9l (z91 N) N (zg2 N) zg3 Go.Proofs.Tryd.f23 (mkS [(0, .box (.pair .bool (.pair .str (.pair (.int .i64) .unit))))] 0 x) (zfk (.v (.pair .str (.pair (.sl (.pair .str (.pair .str .unit))) (.pair .str .unit)))) [(0, .box (.pair .bool (.pair .str (.pair (.int .i64) .unit))))] 0) = z3l N x.1 := by kernel_rfl

def zcj (N : Nat) : List A -> Res := z1f [(0, .box (.pair .bool (.pair .str (.pair (.int .i64) .unit))))] (fun x => z3l N x.1) (zj7 (.v (.pair .str (.pair (.sl (.pair .str (.pair .str .unit))) (.pair .str .unit)))) [(0, .box (.pair .bool (.pair .str (.pair (.int .i64) .unit))))] 0)

theorem zod (N : Nat) : Contract Go.Proofs.Tryd.prog za 23 (zcj N) :=
  Contract.of (E := z91 N) (H := zg2 N) (L := zg3) (N := N) (body := zl1) (K := (zfk (.v (.pair .str (.pair (.sl (.pair .str (.pair .str .unit))) (.pair .str .unit)))) [(0, .box (.pair .bool (.pair .str (.pair (.int .i64) .unit))))] 0)) (zmq N) Go.Proofs.Tryd.func23 (by kernel_rfl) (by decide) (fun _ hb => TabOk.nil) (fun x y h => by rw [zl0]; exact h) (zax (s := (.v (.pair .str (.pair (.sl (.pair .str (.pair .str .unit))) (.pair .str .unit))))) (os := [(0, .box (.pair .bool (.pair .str (.pair (.int .i64) .unit))))]) (m := 0))

def zcl : Code := (Go.Proofs.Tryd.f12.body).getD .skip

def zjm : List (List Nat × List Nat) := [([0], [0, 2]), ([0, 0, 1], [9, 2, 0]), ([1, 0, 1], [0, 2]), ([0, 0, 1, 0, 1], [2, 3]), ([1, 0, 1, 0, 1], [2, 3]), ([0, 1, 1], [4, 2]), ([0, 1, 1, 1], [4, 5, 2]), ([0, 0, 1, 1, 1, 1], [18, 17, 5, 4, 2]), ([0, 1, 0, 1, 1, 1, 1], [18, 17, 5, 4, 2]), ([0, 0, 0, 1, 0, 1, 1, 1, 1], [19, 5, 4, 18, 17, 2]), ([0, 1, 0, 0, 1, 0, 1, 1, 1, 1], [5, 4, 18, 17, 2]), ([1, 0, 1, 0, 0, 1, 0, 1, 1, 1, 1], [4, 2, 5]), ([0, 0, 1, 1, 0, 0, 1, 0, 1, 1, 1, 1], [18, 17, 5, 4, 2]), ([0, 1, 1, 0, 0, 1, 0, 1, 1, 1, 1], [18, 17, 5, 4, 2]), ([1, 1, 1, 0, 0, 1, 0, 1, 1, 1, 1], [18, 17, 5, 4, 2]), ([1, 0, 1, 1, 1, 1], [4, 2, 5]), ([0, 0, 1, 1, 1, 1, 1], [6, 2, 5]), ([0, 1, 0, 1, 1, 1, 1, 1], [31, 6, 2, 5]), ([1, 1, 0, 1, 1, 1, 1, 1], [5, 2]), ([0, 0, 1, 1, 0, 1, 1, 1, 1, 1], [2, 3]), ([1, 0, 1, 1, 0, 1, 1, 1, 1, 1], [2, 3]), ([0, 1, 1, 1, 1, 1, 1], [2, 3]), ([1, 1, 1, 1, 1, 1, 1], [2, 3])]

def zdv (N : Nat) : Env := z2n tys za [(23, zcj N), (25, z3i N), (24, z61 N), (22, zh6 N)] [] [] [] false [(15, (.pair (.pair .str (.pair (.sl (.pair .str (.pair .str .unit))) (.pair .str .unit))) (.pair (.own (.pair .str (.pair (.sl (.pair .str (.pair .str .unit))) (.pair .str .unit)))) .unit))), (5, (.pair (.pair .str (.pair (.sl (.pair .str (.pair .str .unit))) (.pair .str .unit))) (.pair (.own (.pair .str (.pair (.sl (.pair .str (.pair .str .unit))) (.pair .str .unit)))) .unit)))] []

theorem zu3 (N : Nat) : EnvOk Go.Proofs.Tryd.prog (zdv N) := zk mixed z1a (FnsOk.cons (zod N) (FnsOk.cons (z5i N) (FnsOk.cons (zc3 N) (FnsOk.cons (zq7 N) (FnsOk.nil))))) (ItsOk.nil)

def zh9 (N : Nat) (x2 : (((List UInt8) × ((List ((List UInt8) × ((List UInt8) × Unit))) × ((List UInt8) × Unit))) × ((List ((List UInt8) × ((List ((List UInt8) × ((List UInt8) × Unit))) × ((List UInt8) × Unit)))) × Unit))) (x17 : Int) (f : (Bool × ((List UInt8) × (Int × Unit)))) (b : (((List UInt8) × ((List ((List UInt8) × ((List UInt8) × Unit))) × ((List UInt8) × Unit))) × ((List ((List UInt8) × ((List ((List UInt8) × ((List UInt8) × Unit))) × ((List UInt8) × Unit)))) × Unit))) (x18 : Int) (rec : (Bool × ((List UInt8) × (Int × Unit))) -> (((List UInt8) × ((List ((List UInt8) × ((List UInt8) × Unit))) × ((List UInt8) × Unit))) × ((List ((List UInt8) × ((List ((List UInt8) × ((List UInt8) × Unit))) × ((List UInt8) × Unit)))) × Unit)) -> Int -> Option ((((List UInt8) × ((List ((List UInt8) × ((List UInt8) × Unit))) × ((List UInt8) × Unit))) × ((List ((List UInt8) × ((List ((List UInt8) × ((List UInt8) × Unit))) × ((List UInt8) × Unit)))) × Unit)) × Int × Unit)) (k0 : (Bool × ((List UInt8) × (Int × Unit))) -> (((List UInt8) × ((List ((List UInt8) × ((List UInt8) × Unit))) × ((List UInt8) × Unit))) × ((List ((List UInt8) × ((List ((List UInt8) × ((List UInt8) × Unit))) × ((List UInt8) × Unit)))) × Unit)) -> Option ((((List UInt8) × ((List ((List UInt8) × ((List UInt8) × Unit))) × ((List UInt8) × Unit))) × ((List ((List UInt8) × ((List ((List UInt8) × ((List UInt8) × Unit))) × ((List UInt8) × Unit)))) × Unit)) × Int × Unit)) : Option ((((List UInt8) × ((List ((List UInt8) × ((List UInt8) × Unit))) × ((List UInt8) × Unit))) × ((List ((List UInt8) × ((List ((List UInt8) × ((List UInt8) × Unit))) × ((List UInt8) × Unit)))) × Unit)) × Int × Unit) :=
 cond (decide (x18 < x17))
 ((z3l N f).bind fun y =>
 cond (decide ((((List.length b.2.1) + 1) * 56) <= 70368744177664))
 (rec y.2.1 (b.1, ((b.2.1 ++ ([y.1] : List ((List UInt8) × ((List ((List UInt8) × ((List UInt8) × Unit))) × ((List UInt8) × Unit))))), b.2.2)) (Go.IntKind.wrap Go.IntKind.u64 (x18 + (1 : Int))))
 (none))
 (k0 f b)

def zha (N : Nat) (x2 : (((List UInt8) × ((List ((List UInt8) × ((List UInt8) × Unit))) × ((List UInt8) × Unit))) × ((List ((List UInt8) × ((List ((List UInt8) × ((List UInt8) × Unit))) × ((List UInt8) × Unit)))) × Unit))) (f : (Bool × ((List UInt8) × (Int × Unit)))) (b : (((List UInt8) × ((List ((List UInt8) × ((List UInt8) × Unit))) × ((List UInt8) × Unit))) × ((List ((List UInt8) × ((List ((List UInt8) × ((List UInt8) × Unit))) × ((List UInt8) × Unit)))) × Unit))) (x17 : Int) (x18 : Int) (k0 : (Bool × ((List UInt8) × (Int × Unit))) -> (((List UInt8) × ((List ((List UInt8) × ((List UInt8) × Unit))) × ((List UInt8) × Unit))) × ((List ((List UInt8) × ((List ((List UInt8) × ((List UInt8) × Unit))) × ((List UInt8) × Unit)))) × Unit)) -> Option ((((List UInt8) × ((List ((List UInt8) × ((List UInt8) × Unit))) × ((List UInt8) × Unit))) × ((List ((List UInt8) × ((List ((List UInt8) × ((List UInt8) × Unit))) × ((List UInt8) × Unit)))) × Unit)) × Int × Unit)) : Option ((((List UInt8) × ((List ((List UInt8) × ((List UInt8) × Unit))) × ((List UInt8) × Unit))) × ((List ((List UInt8) × ((List ((List UInt8) × ((List UInt8) × Unit))) × ((List UInt8) × Unit)))) × Unit)) × Int × Unit) :=
 iter (fun (v : ((Bool × ((List UInt8) × (Int × Unit))) × (((List UInt8) × ((List ((List UInt8) × ((List UInt8) × Unit))) × ((List UInt8) × Unit))) × ((List ((List UInt8) × ((List ((List UInt8) × ((List UInt8) × Unit))) × ((List UInt8) × Unit)))) × Unit)) × Int)) r => zh9 N x2 x17 v.1 v.2.1 v.2.2 (fun f b x18 => (r (f, b, x18))) k0) N (f, b, x18)

def zoh (N : Nat) (i : ((((List UInt8) × ((List ((List UInt8) × ((List UInt8) × Unit))) × ((List UInt8) × Unit))) × ((List ((List UInt8) × ((List ((List UInt8) × ((List UInt8) × Unit))) × ((List UInt8) × Unit)))) × Unit)) × Int)) (v : ((Bool × ((List UInt8) × (Int × Unit))) × (((List UInt8) × ((List ((List UInt8) × ((List UInt8) × Unit))) × ((List UInt8) × Unit))) × ((List ((List UInt8) × ((List ((List UInt8) × ((List UInt8) × Unit))) × ((List UInt8) × Unit)))) × Unit)) × Int)) (r : ((Bool × ((List UInt8) × (Int × Unit))) × (((List UInt8) × ((List ((List UInt8) × ((List UInt8) × Unit))) × ((List UInt8) × Unit))) × ((List ((List UInt8) × ((List ((List UInt8) × ((List UInt8) × Unit))) × ((List UInt8) × Unit)))) × Unit)) × Int) -> Option ((((List UInt8) × ((List ((List UInt8) × ((List UInt8) × Unit))) × ((List UInt8) × Unit))) × ((List ((List UInt8) × ((List ((List UInt8) × ((List UInt8) × Unit))) × ((List UInt8) × Unit)))) × Unit)) × Int × Unit)) (K : Ex -> List A -> Option ((((List UInt8) × ((List ((List UInt8) × ((List UInt8) × Unit))) × ((List UInt8) × Unit))) × ((List ((List UInt8) × ((List ((List UInt8) × ((List UInt8) × Unit))) × ((List UInt8) × Unit)))) × Unit)) × Int × Unit)) : Option ((((List UInt8) × ((List ((List UInt8) × ((List UInt8) × Unit))) × ((List UInt8) × Unit))) × ((List ((List UInt8) × ((List ((List UInt8) × ((List UInt8) × Unit))) × ((List UInt8) × Unit)))) × Unit)) × Int × Unit) :=
 zh9 N i.1 i.2 v.1 v.2.1 v.2.2 (fun f b x18 => (r (f, b, x18))) (fun a1 a2 => (K (.exit 0) (mkS [(2, .box (.pair (.pair .str (.pair (.sl (.pair .str (.pair .str .unit))) (.pair .str .unit))) (.pair (.sl (.pair .str (.pair (.sl (.pair .str (.pair .str .unit))) (.pair .str .unit)))) .unit))), (1, .box (.pair .bool (.pair .str (.pair (.int .i64) .unit)))), (0, .box (.pair (.pair .str (.pair (.sl (.pair .str (.pair .str .unit))) (.pair .str .unit))) (.pair (.own (.pair .str (.pair (.sl (.pair .str (.pair .str .unit))) (.pair .str .unit)))) .unit)))] 29 (i.1, a1, a2, ()))))

def zog (N : Nat) : Hd ((((List UInt8) × ((List ((List UInt8) × ((List UInt8) × Unit))) × ((List UInt8) × Unit))) × ((List ((List UInt8) × ((List ((List UInt8) × ((List UInt8) × Unit))) × ((List UInt8) × Unit)))) × Unit)) × Int × Unit) := fun st K => (unS [(2, .box (.pair (.pair .str (.pair (.sl (.pair .str (.pair .str .unit))) (.pair .str .unit))) (.pair (.sl (.pair .str (.pair (.sl (.pair .str (.pair .str .unit))) (.pair .str .unit)))) .unit))), (1, .box (.pair .bool (.pair .str (.pair (.int .i64) .unit)))), (0, .box (.pair (.pair .str (.pair (.sl (.pair .str (.pair .str .unit))) (.pair .str .unit))) (.pair (.own (.pair .str (.pair (.sl (.pair .str (.pair .str .unit))) (.pair .str .unit)))) .unit))), (11, .v (.int .u64)), (0, .v (.int .u64))] 16 (restr [18, 17, 5, 4, 2] 0 st)).bind fun x => iter (fun v r => zoh N ((fun x => (x.1, x.2.2.2.1)) x) v r K) N ((fun x => (x.2.1, x.2.2.1, x.2.2.2.2.1)) x)

def zw2 (N : Nat) : Tab ((((List UInt8) × ((List ((List UInt8) × ((List UInt8) × Unit))) × ((List UInt8) × Unit))) × ((List ((List UInt8) × ((List ((List UInt8) × ((List UInt8) × Unit))) × ((List UInt8) × Unit)))) × Unit)) × Int × Unit) := []

theorem zu2 {N : Nat} {c : Ctx} (hb : Base Go.Proofs.Tryd.prog (zdv N) c) : z11 Go.Proofs.Tryd.prog c (zj zcl [0, 1, 0, 1, 1, 1, 1]) (zog N) :=
  z5y (s := [(2, .box (.pair (.pair .str (.pair (.sl (.pair .str (.pair .str .unit))) (.pair .str .unit))) (.pair (.sl (.pair .str (.pair (.sl (.pair .str (.pair .str .unit))) (.pair .str .unit)))) .unit))), (1, .box (.pair .bool (.pair .str (.pair (.int .i64) .unit)))), (0, .box (.pair (.pair .str (.pair (.sl (.pair .str (.pair .str .unit))) (.pair .str .unit))) (.pair (.own (.pair .str (.pair (.sl (.pair .str (.pair .str .unit))) (.pair .str .unit)))) .unit))), (11, .v (.int .u64)), (0, .v (.int .u64))]) (m := 16) (zoh N) [18, 17, 5, 4, 2] N (fun x => (x.1, x.2.2.2.1)) (fun x => (x.2.1, x.2.2.1, x.2.2.2.2.1)) (fun i v => (i.1, v.1, v.2.1, i.2, v.2.2, ())) (fun _ => rfl) (ze hb N (zw2 N) zjm zcl TabOk.nil [0, 0, 1, 0, 1, 1, 1, 1] _ rfl) (fun i v r K => by kernel_rfl)

def zg4 (N : Nat) (s : (List UInt8)) : Option ((((List UInt8) × ((List ((List UInt8) × ((List UInt8) × Unit))) × ((List UInt8) × Unit))) × ((List ((List UInt8) × ((List ((List UInt8) × ((List UInt8) × Unit))) × ((List UInt8) × Unit)))) × Unit)) × Int × Unit) :=
 cond (decide ((65536 : Int) < (((List.length s) : Nat) : Int)))
 (some (((([] : List UInt8), (([] : List ((List UInt8) × ((List UInt8) × Unit))), (([] : List UInt8), ()))), (([] : List ((List UInt8) × ((List ((List UInt8) × ((List UInt8) × Unit))) × ((List UInt8) × Unit)))), ())), ((3 : Int), ())))
 ((z3l N (true, (s, ((0 : Int), ())))).bind fun y =>
 (z20 N y.2.1 (8 : Int)).bind fun y1 =>
 zha N ((([] : List UInt8), (([] : List ((List UInt8) × ((List UInt8) × Unit))), (([] : List UInt8), ()))), (([] : List ((List UInt8) × ((List ((List UInt8) × ((List UInt8) × Unit))) × ((List UInt8) × Unit)))), ())) y1.2.1 (y.1, (([] : List ((List UInt8) × ((List ((List UInt8) × ((List UInt8) × Unit))) × ((List UInt8) × Unit)))), ())) y1.1 (0 : Int)
 (fun f b => (z2e N f).bind fun y2 =>
 cond (y2.1 != (0 : Int))
 (some (((([] : List UInt8), (([] : List ((List UInt8) × ((List UInt8) × Unit))), (([] : List UInt8), ()))), (([] : List ((List UInt8) × ((List ((List UInt8) × ((List UInt8) × Unit))) × ((List UInt8) × Unit)))), ())), (y2.1, ())))
 (some (((b.1.1, (b.1.2.1, (b.1.2.2.1, b.1.2.2.2))), (b.2.1, b.2.2)), ((0 : Int), ())))))

def zqc (N : Nat) : Tab ((((List UInt8) × ((List ((List UInt8) × ((List UInt8) × Unit))) × ((List UInt8) × Unit))) × ((List ((List UInt8) × ((List ((List UInt8) × ((List UInt8) × Unit))) × ((List UInt8) × Unit)))) × Unit)) × Int × Unit) := [([0, 1, 0, 1, 1, 1, 1], zog N)]

theorem zt0 (N : Nat) (x : z26 [(0, .v .str)]) : z9l (zdv N) N (zqc N) zjm Go.Proofs.Tryd.f12 (mkS [(0, .v .str)] 0 x) (z41 (.tup [(.pair (.pair .str (.pair (.sl (.pair .str (.pair .str .unit))) (.pair .str .unit))) (.pair (.sl (.pair .str (.pair (.sl (.pair .str (.pair .str .unit))) (.pair .str .unit)))) .unit)), (.int .i64)]) 1) = zg4 N x.1 := by kernel_rfl

def zll (N : Nat) : List A -> Res := z1f [(0, .v .str)] (fun x => zg4 N x.1) (zaj (.tup [(.pair (.pair .str (.pair (.sl (.pair .str (.pair .str .unit))) (.pair .str .unit))) (.pair (.sl (.pair .str (.pair (.sl (.pair .str (.pair .str .unit))) (.pair .str .unit)))) .unit)), (.int .i64)]) 1)

theorem zw3 (N : Nat) : Contract Go.Proofs.Tryd.prog za 12 (zll N) :=
  Contract.of (E := zdv N) (H := zqc N) (L := zjm) (N := N) (body := zcl) (K := (z41 (.tup [(.pair (.pair .str (.pair (.sl (.pair .str (.pair .str .unit))) (.pair .str .unit))) (.pair (.sl (.pair .str (.pair (.sl (.pair .str (.pair .str .unit))) (.pair .str .unit)))) .unit)), (.int .i64)]) 1)) (zu3 N) Go.Proofs.Tryd.func12 (by kernel_rfl) (by decide) (fun _ hb => (TabOk.cons (zu2 hb) TabOk.nil)) (fun x y h => by rw [zt0]; exact h) (z16 (s := (.tup [(.pair (.pair .str (.pair (.sl (.pair .str (.pair .str .unit))) (.pair .str .unit))) (.pair (.sl (.pair .str (.pair (.sl (.pair .str (.pair .str .unit))) (.pair .str .unit)))) .unit)), (.int .i64)])) (m := 1))

def zj1 : Code := (Go.Proofs.Tryd.f55.body).getD .skip

def zdo : List (List Nat × List Nat) := [([0], [0]), ([0, 1], [3]), ([0, 1, 1], [2]), ([1, 1, 1], [2])]

def z7n (N : Nat) : Env := z2n tys za [] [] [] [] false [] []

theorem zkr (N : Nat) : EnvOk Go.Proofs.Tryd.prog (z7n N) := zk mixed z1a (FnsOk.nil) (ItsOk.nil)

def zhc (N : Nat) (n : Int) : Option (List UInt8) :=
 some (Go.Lift.toStr ([(Go.IntKind.wrap Go.IntKind.u8 n)] : List Int))

def zdn (N : Nat) : Tab (List UInt8) := []

theorem zj0 (N : Nat) (x : z26 [(0, .v (.int .i64))]) : z9l (z7n N) N (zdn N) zdo Go.Proofs.Tryd.f55 (mkS [(0, .v (.int .i64))] 0 x) (z41 (.v .str) 1) = zhc N x.1 := by kernel_rfl

def z5x (N : Nat) : List A -> Res := z1f [(0, .v (.int .i64))] (fun x => zhc N x.1) (zaj (.v .str) 1)

theorem zbr (N : Nat) : Contract Go.Proofs.Tryd.prog za 55 (z5x N) :=
  Contract.of (E := z7n N) (H := zdn N) (L := zdo) (N := N) (body := zj1) (K := (z41 (.v .str) 1)) (zkr N) Go.Proofs.Tryd.func55 (by kernel_rfl) (by decide) (fun _ hb => TabOk.nil) (fun x y h => by rw [zj0]; exact h) (z16 (s := (.v .str)) (m := 1))

def zai : Code := (Go.Proofs.Tryd.f35.body).getD .skip

def zf9 : List (List Nat × List Nat) := [([0], [0]), ([0, 0, 1], [4, 0]), ([1, 0, 1], [0]), ([0, 0, 1, 0, 1], [2]), ([1, 0, 1, 0, 1], [2]), ([0, 1, 1], [2]), ([1, 1, 1], [2])]

def z8x (N : Nat) (self : Int -> Option (List UInt8)) : Env := z2n tys za [(55, z5x N), (35, z1f [(0, .v (.int .u64))] (fun x => self x.1) (zaj (.v .str) 1))] [] [] [] false [] []

theorem zm9 (N : Nat) (self : Int -> Option (List UInt8)) (hself : Contract Go.Proofs.Tryd.prog za 35 (z1f [(0, .v (.int .u64))] (fun x => self x.1) (zaj (.v .str) 1))) : EnvOk Go.Proofs.Tryd.prog (z8x N self) := zk mixed z1a (FnsOk.cons (zbr N) (FnsOk.cons (hself) (FnsOk.nil))) (ItsOk.nil)

def z5b (N : Nat) (self : Int -> Option (List UInt8)) (n : Int) : Option (List UInt8) :=
 cond (decide (n < (128 : Int)))
 (some (Go.Lift.toStr ([(Go.IntKind.wrap Go.IntKind.u8 (Go.IntKind.wrap Go.IntKind.i64 n))] : List Int)))
 ((self (Go.IntKind.wrap Go.IntKind.u64 (Int.tdiv n (128 : Int)))).bind fun y =>
 cond (decide (((List.length (Go.Lift.toStr ([(Go.IntKind.wrap Go.IntKind.u8 (Go.IntKind.wrap Go.IntKind.i64 ((Go.IntKind.wrap Go.IntKind.i64 (Int.tmod n (128 : Int))) + (128 : Int))))] : List Int))) + (List.length y)) <= 9223372036854775807))
 (some ((Go.Lift.toStr ([(Go.IntKind.wrap Go.IntKind.u8 (Go.IntKind.wrap Go.IntKind.i64 ((Go.IntKind.wrap Go.IntKind.i64 (Int.tmod n (128 : Int))) + (128 : Int))))] : List Int)) ++ y))
 (none))

def zf8 (N : Nat) (self : Int -> Option (List UInt8)) : Tab (List UInt8) := []

theorem zkq (N : Nat) (self : Int -> Option (List UInt8)) (x : z26 [(0, .v (.int .u64))]) : z9l (z8x N self) N (zf8 N self) zf9 Go.Proofs.Tryd.f35 (mkS [(0, .v (.int .u64))] 0 x) (z41 (.v .str) 1) = z5b N self x.1 := by kernel_rfl

def z1c : Nat -> Int -> Option (List UInt8)
  | 0 => fun _ => none
  | N + 1 => z5b (N + 1) (z1c N)

def z3r (N : Nat) : List A -> Res := z1f [(0, .v (.int .u64))] (fun x => z1c N x.1) (zaj (.v .str) 1)

theorem z4k : ∀ N : Nat, Contract Go.Proofs.Tryd.prog za 35 (z3r N)
  | 0 => Contract.zero Go.Proofs.Tryd.func35 (body := zai) (by kernel_rfl) (by decide) (fun _ => rfl)
  | N + 1 => Contract.of (E := z8x (N + 1) (z1c N)) (H := zf8 (N + 1) (z1c N)) (L := zf9) (N := (N + 1)) (body := zai) (K := (z41 (.v .str) 1)) (zm9 (N + 1) (z1c N) (z4k N)) Go.Proofs.Tryd.func35 (by kernel_rfl) (by decide) (fun _ hb => TabOk.nil) (fun x y h => by rw [zkq]; exact h) (z16 (s := (.v .str)) (m := 1))

def ziz : Code := (Go.Proofs.Tryd.f34.body).getD .skip

def zdm : List (List Nat × List Nat) := [([0], [0]), ([0, 1], [2]), ([1, 1], [2])]

def z7m (N : Nat) : Env := z2n tys za [(35, z3r N)] [] [] [] false [] []

theorem zkp (N : Nat) : EnvOk Go.Proofs.Tryd.prog (z7m N) := zk mixed z1a (FnsOk.cons (z4k N) (FnsOk.nil)) (ItsOk.nil)

def z1d (N : Nat) (s : (List UInt8)) : Option (List UInt8) :=
 (z1c N (Go.IntKind.wrap Go.IntKind.u64 (((List.length s) : Nat) : Int))).bind fun y =>
 cond (decide (((List.length y) + (List.length s)) <= 9223372036854775807))
 (some (y ++ s))
 (none)

def zdl (N : Nat) : Tab (List UInt8) := []

theorem ziy (N : Nat) (x : z26 [(0, .v .str)]) : z9l (z7m N) N (zdl N) zdm Go.Proofs.Tryd.f34 (mkS [(0, .v .str)] 0 x) (z41 (.v .str) 1) = z1d N x.1 := by kernel_rfl

def z5w (N : Nat) : List A -> Res := z1f [(0, .v .str)] (fun x => z1d N x.1) (zaj (.v .str) 1)

theorem zbq (N : Nat) : Contract Go.Proofs.Tryd.prog za 34 (z5w N) :=
  Contract.of (E := z7m N) (H := zdl N) (L := zdm) (N := N) (body := ziz) (K := (z41 (.v .str) 1)) (zkp N) Go.Proofs.Tryd.func34 (by kernel_rfl) (by decide) (fun _ hb => TabOk.nil) (fun x y h => by rw [ziy]; exact h) (z16 (s := (.v .str)) (m := 1))

def ziq : Code := (Go.Proofs.Tryd.f54.body).getD .skip

def zdc : List (List Nat × List Nat) := [([0], [1]), ([0, 0, 1], [5, 1]), ([1, 0, 1], [1]), ([0, 0, 1, 0, 1], [2]), ([1, 0, 1, 0, 1], [2]), ([0, 1, 1], [2]), ([1, 1, 1], [2])]

def z7g (N : Nat) : Env := z2n tys za [] [] [] [] false [] []

theorem zkg (N : Nat) : EnvOk Go.Proofs.Tryd.prog (z7g N) := zk mixed z1a (FnsOk.nil) (ItsOk.nil)

def z46 (N : Nat) (l : ((List UInt8) × ((List UInt8) × Unit))) : Option Bool :=
 cond (l.2.1 == ([] : List UInt8))
 (some (decide ((2048 : Int) < (((List.length l.1) : Nat) : Int))))
 (cond (decide ((4144 : Int) < (((List.length l.1) : Nat) : Int)))
 (some true)
 (some (decide ((4144 : Int) < (((List.length l.2.1) : Nat) : Int)))))

def zdb (N : Nat) : Tab Bool := []

theorem zio (N : Nat) (x : z26 [(0, .v (.pair .str (.pair .str .unit)))]) : z9l (z7g N) N (zdb N) zdc Go.Proofs.Tryd.f54 (mkS [(0, .v (.pair .str (.pair .str .unit)))] 0 x) (z41 (.v .bool) 1) = z46 N x.1 := by kernel_rfl

def za5 (N : Nat) : List A -> Res := z1f [(0, .v (.pair .str (.pair .str .unit)))] (fun x => z46 N x.1) (zaj (.v .bool) 1)

theorem zm3 (N : Nat) : Contract Go.Proofs.Tryd.prog za 54 (za5 N) :=
  Contract.of (E := z7g N) (H := zdb N) (L := zdc) (N := N) (body := ziq) (K := (z41 (.v .bool) 1)) (zkg N) Go.Proofs.Tryd.func54 (by kernel_rfl) (by decide) (fun _ hb => TabOk.nil) (fun x y h => by rw [zio]; exact h) (z16 (s := (.v .bool)) (m := 1))

def z12 : Code := (Go.Proofs.Tryd.f33.body).getD .skip

def z2j : List (List Nat × List Nat) := [([0], [1]), ([0, 0, 1], [16, 1]), ([1, 0, 1], [1]), ([0, 0, 1, 0, 1], [2, 3]), ([1, 0, 1, 0, 1], [2, 3]), ([0, 1, 1], [1, 4]), ([0, 0, 1, 1, 1], [5, 1, 4]), ([0, 1, 0, 1, 1, 1], [5, 1, 4]), ([0, 0, 0, 0, 1, 0, 1, 1, 1], [30, 1, 5, 4]), ([1, 0, 0, 0, 1, 0, 1, 1, 1], [1, 5, 4]), ([1, 1, 0, 0, 0, 1, 0, 1, 1, 1], [1, 4]), ([0, 0, 0, 1, 0, 0, 1, 0, 1, 1, 1], [6, 4, 5, 1]), ([0, 0, 1, 0, 0, 1, 0, 0, 1, 0, 1, 1, 1], [39, 6, 4, 5, 1]), ([1, 0, 1, 0, 0, 1, 0, 0, 1, 0, 1, 1, 1], [6, 4, 5, 1]), ([0, 0, 1, 0, 1, 0, 0, 1, 0, 0, 1, 0, 1, 1, 1], [2, 3]), ([1, 0, 1, 0, 1, 0, 0, 1, 0, 0, 1, 0, 1, 1, 1], [2, 3]), ([0, 1, 1, 0, 0, 1, 0, 0, 1, 0, 1, 1, 1], [42, 4, 6, 5, 1]), ([1, 1, 1, 0, 0, 1, 0, 0, 1, 0, 1, 1, 1], [5, 1, 4]), ([1, 1, 1, 1, 0, 0, 1, 0, 0, 1, 0, 1, 1, 1], [5, 1, 4]), ([0, 1, 1, 1, 0, 0, 1, 0, 0, 1, 0, 1, 1, 1], [5, 1, 4]), ([0, 1, 0, 0, 1, 0, 1, 1, 1], [5, 1, 4]), ([1, 1, 0, 0, 1, 0, 1, 1, 1], [5, 1, 4]), ([1, 0, 1, 1, 1], [1, 4]), ([0, 0, 1, 1, 1, 1], [64, 4, 1]), ([1, 0, 1, 1, 1, 1], [4, 1]), ([0, 0, 1, 0, 1, 1, 1, 1], [2, 3]), ([1, 0, 1, 0, 1, 1, 1, 1], [2, 3]), ([0, 1, 1, 1, 1, 1], [2, 3]), ([1, 1, 1, 1, 1, 1], [2, 3])]

def z25 (N : Nat) : Env := z2n tys za [(54, za5 N), (34, z5w N), (35, z3r N), (55, z5x N)] [] [] [] false [] []

theorem zm8 (N : Nat) : EnvOk Go.Proofs.Tryd.prog (z25 N) := zk mixed z1a (FnsOk.cons (zm3 N) (FnsOk.cons (zbq N) (FnsOk.cons (z4k N) (FnsOk.cons (zbr N) (FnsOk.nil))))) (ItsOk.nil)

def z7k (N : Nat) (t : ((List UInt8) × ((List ((List UInt8) × ((List UInt8) × Unit))) × ((List UInt8) × Unit)))) (k0 : Bool -> Option ((List UInt8) × Int × Unit)) : Option ((List UInt8) × Int × Unit) :=
 cond (decide ((4144 : Int) < (((List.length t.1) : Nat) : Int)))
 (k0 true)
 (k0 (decide ((64 : Int) < (((List.length t.2.1) : Nat) : Int))))

def zdj (N : Nat) (x : z26 [(1, .box (.pair .str (.pair (.sl (.pair .str (.pair .str .unit))) (.pair .str .unit))))]) (K : Ex -> List A -> Option ((List UInt8) × Int × Unit)) : Option ((List UInt8) × Int × Unit) :=
 z7k N x.1 (fun a1 => (K .normal (mkS [(1, .box (.pair .str (.pair (.sl (.pair .str (.pair .str .unit))) (.pair .str .unit)))), (14, .v .bool)] 52 (x.1, a1, ()))))

def zdf (N : Nat) : Hd ((List UInt8) × Int × Unit) := fun st K => (unS [(1, .box (.pair .str (.pair (.sl (.pair .str (.pair .str .unit))) (.pair .str .unit))))] 67 (restr [1] 0 st)).bind fun x => zdj N x K

def zns (N : Nat) : Tab ((List UInt8) × Int × Unit) := []

theorem zm6 {N : Nat} {c : Ctx} (hb : Base Go.Proofs.Tryd.prog (z25 N) c) : z11 Go.Proofs.Tryd.prog c (zj z12 [0, 0, 1]) (zdf N) :=
  z1j (s := [(1, .box (.pair .str (.pair (.sl (.pair .str (.pair .str .unit))) (.pair .str .unit))))]) (m := 67) (g := zdj N) [1] (ze hb N (zns N) z2j z12 TabOk.nil [0, 0, 1] _ rfl) (fun x K => by kernel_rfl)

def z7l (N : Nat) (t : ((List UInt8) × ((List ((List UInt8) × ((List UInt8) × Unit))) × ((List UInt8) × Unit)))) (k0 : (List UInt8) -> Int -> Option ((List UInt8) × Int × Unit)) (k1 : Option ((List UInt8) × Int × Unit)) : Option ((List UInt8) × Int × Unit) :=
 z7k N t
 (fun x16 => cond x16
 (k0 ([] : List UInt8) (3 : Int))
 (k1))

def zdk (N : Nat) (x : z26 [(1, .box (.pair .str (.pair (.sl (.pair .str (.pair .str .unit))) (.pair .str .unit))))]) (K : Ex -> List A -> Option ((List UInt8) × Int × Unit)) : Option ((List UInt8) × Int × Unit) :=
 z7l N x.1 (fun a0 a1 => (K .ret (mkS [(2, .v .str), (0, .v (.int .i64))] 65 (a0, a1, ())))) (K .normal (mkS [(1, .box (.pair .str (.pair (.sl (.pair .str (.pair .str .unit))) (.pair .str .unit))))] 67 (x.1, ())))

def zdg (N : Nat) : Hd ((List UInt8) × Int × Unit) := fun st K => (unS [(1, .box (.pair .str (.pair (.sl (.pair .str (.pair .str .unit))) (.pair .str .unit))))] 67 (restr [1] 0 st)).bind fun x => zdk N x K

def znt (N : Nat) : Tab ((List UInt8) × Int × Unit) := [([0, 0, 1], zdf N)]

theorem zm7 {N : Nat} {c : Ctx} (hb : Base Go.Proofs.Tryd.prog (z25 N) c) : z11 Go.Proofs.Tryd.prog c (zj z12 [0, 1]) (zdg N) :=
  z1j (s := [(1, .box (.pair .str (.pair (.sl (.pair .str (.pair .str .unit))) (.pair .str .unit))))]) (m := 67) (g := zdk N) [1] (ze hb N (znt N) z2j z12 (TabOk.cons (zm6 hb) TabOk.nil) [0, 1] _ rfl) (fun x K => by kernel_rfl)

def z7i (N : Nat) (t : ((List UInt8) × ((List ((List UInt8) × ((List UInt8) × Unit))) × ((List UInt8) × Unit)))) (s : (List UInt8)) (i : Int) (k0 : (List UInt8) -> Int -> Option ((List UInt8) × Int × Unit)) (k1 : (List UInt8) -> Option ((List UInt8) × Int × Unit)) : Option ((List UInt8) × Int × Unit) :=
 cond (Go.Lift.inR i (List.length t.2.1))
 ((z46 N (List.getD t.2.1 (Int.toNat i) (([] : List UInt8), (([] : List UInt8), ())))).bind fun y =>
 cond y
 (k0 ([] : List UInt8) (3 : Int))
 (cond ((List.getD t.2.1 (Int.toNat i) (([] : List UInt8), (([] : List UInt8), ()))).2.1 == ([] : List UInt8))
 (cond (decide (((List.length s) + (List.length (Go.Lift.toStr ([(Go.IntKind.wrap Go.IntKind.u8 (0 : Int))] : List Int)))) <= 9223372036854775807))
 ((z1d N (List.getD t.2.1 (Int.toNat i) (([] : List UInt8), (([] : List UInt8), ()))).1).bind fun y1 =>
 cond (decide (((List.length (s ++ (Go.Lift.toStr ([(Go.IntKind.wrap Go.IntKind.u8 (0 : Int))] : List Int)))) + (List.length y1)) <= 9223372036854775807))
 (k1 ((s ++ (Go.Lift.toStr ([(Go.IntKind.wrap Go.IntKind.u8 (0 : Int))] : List Int))) ++ y1))
 (none))
 (none))
 (cond (decide (((List.length s) + (List.length (Go.Lift.toStr ([(Go.IntKind.wrap Go.IntKind.u8 (1 : Int))] : List Int)))) <= 9223372036854775807))
 ((z1d N (List.getD t.2.1 (Int.toNat i) (([] : List UInt8), (([] : List UInt8), ()))).1).bind fun y2 =>
 cond (decide (((List.length (s ++ (Go.Lift.toStr ([(Go.IntKind.wrap Go.IntKind.u8 (1 : Int))] : List Int)))) + (List.length y2)) <= 9223372036854775807))
 ((z1d N (List.getD t.2.1 (Int.toNat i) (([] : List UInt8), (([] : List UInt8), ()))).2.1).bind fun y3 =>
 cond (decide (((List.length ((s ++ (Go.Lift.toStr ([(Go.IntKind.wrap Go.IntKind.u8 (1 : Int))] : List Int))) ++ y2)) + (List.length y3)) <= 9223372036854775807))
 (k1 (((s ++ (Go.Lift.toStr ([(Go.IntKind.wrap Go.IntKind.u8 (1 : Int))] : List Int))) ++ y2) ++ y3))
 (none))
 (none))
 (none))))
 (none)

def zdh (N : Nat) (x : z26 [(1, .box (.pair .str (.pair (.sl (.pair .str (.pair .str .unit))) (.pair .str .unit)))), (2, .v .str), (0, .v (.int .i64))]) (K : Ex -> List A -> Option ((List UInt8) × Int × Unit)) : Option ((List UInt8) × Int × Unit) :=
 z7i N x.1 x.2.1 x.2.2.1 (fun a0 a1 => (K .ret (mkS [(2, .v .str), (0, .v (.int .i64))] 65 (a0, a1, ())))) (fun a1 => (K .normal (mkS [(1, .box (.pair .str (.pair (.sl (.pair .str (.pair .str .unit))) (.pair .str .unit)))), (2, .v .str), (0, .v (.int .i64))] 63 (x.1, a1, x.2.2.1, ()))))

def zdd (N : Nat) : Hd ((List UInt8) × Int × Unit) := fun st K => (unS [(1, .box (.pair .str (.pair (.sl (.pair .str (.pair .str .unit))) (.pair .str .unit)))), (2, .v .str), (0, .v (.int .i64))] 63 (restr [1, 5, 4] 0 st)).bind fun x => zdh N x K

def znq (N : Nat) : Tab ((List UInt8) × Int × Unit) := []

theorem zm4 {N : Nat} {c : Ctx} (hb : Base Go.Proofs.Tryd.prog (z25 N) c) : z11 Go.Proofs.Tryd.prog c (zj z12 [0, 1, 0, 0, 1, 0, 1, 1, 1]) (zdd N) :=
  z1j (s := [(1, .box (.pair .str (.pair (.sl (.pair .str (.pair .str .unit))) (.pair .str .unit)))), (2, .v .str), (0, .v (.int .i64))]) (m := 63) (g := zdh N) [1, 5, 4] (ze hb N (znq N) z2j z12 TabOk.nil [0, 1, 0, 0, 1, 0, 1, 1, 1] _ rfl) (fun x K => by kernel_rfl)

def z7h (N : Nat) (t : ((List UInt8) × ((List ((List UInt8) × ((List UInt8) × Unit))) × ((List UInt8) × Unit)))) (s : (List UInt8)) (i : Int) (rec : (List UInt8) -> Int -> Option ((List UInt8) × Int × Unit)) (k0 : (List UInt8) -> Int -> Option ((List UInt8) × Int × Unit)) (k1 : (List UInt8) -> Option ((List UInt8) × Int × Unit)) : Option ((List UInt8) × Int × Unit) :=
 cond (decide (i < (((List.length t.2.1) : Nat) : Int)))
 (z7i N t s i
 (fun x2 x3 => k0 x2 x3)
 (fun s1 => rec s1 (Go.IntKind.wrap Go.IntKind.i64 (i + (1 : Int)))))
 (k1 s)

def z7j (N : Nat) (t : ((List UInt8) × ((List ((List UInt8) × ((List UInt8) × Unit))) × ((List UInt8) × Unit)))) (s : (List UInt8)) (i : Int) (k0 : (List UInt8) -> Int -> Option ((List UInt8) × Int × Unit)) (k1 : (List UInt8) -> Option ((List UInt8) × Int × Unit)) : Option ((List UInt8) × Int × Unit) :=
 iter (fun (v : ((List UInt8) × Int)) r => z7h N t v.1 v.2 (fun s i => (r (s, i))) k0 k1) N (s, i)

def zdi (N : Nat) (i : ((List UInt8) × ((List ((List UInt8) × ((List UInt8) × Unit))) × ((List UInt8) × Unit)))) (v : ((List UInt8) × Int)) (r : ((List UInt8) × Int) -> Option ((List UInt8) × Int × Unit)) (K : Ex -> List A -> Option ((List UInt8) × Int × Unit)) : Option ((List UInt8) × Int × Unit) :=
 z7h N i v.1 v.2 (fun s i => (r (s, i))) (fun a0 a1 => (K .ret (mkS [(2, .v .str), (0, .v (.int .i64))] 65 (a0, a1, ())))) (fun a1 => (K (.exit 0) (mkS [(1, .box (.pair .str (.pair (.sl (.pair .str (.pair .str .unit))) (.pair .str .unit)))), (2, .v .str)] 64 (i, a1, ()))))

def zde (N : Nat) : Hd ((List UInt8) × Int × Unit) := fun st K => (unS [(1, .box (.pair .str (.pair (.sl (.pair .str (.pair .str .unit))) (.pair .str .unit)))), (2, .v .str), (0, .v (.int .i64))] 63 (restr [5, 1, 4] 0 st)).bind fun x => iter (fun v r => zdi N ((fun x => x.1) x) v r K) N ((fun x => (x.2.1, x.2.2.1)) x)

def znr (N : Nat) : Tab ((List UInt8) × Int × Unit) := [([0, 1, 0, 0, 1, 0, 1, 1, 1], zdd N)]

theorem zm5 {N : Nat} {c : Ctx} (hb : Base Go.Proofs.Tryd.prog (z25 N) c) : z11 Go.Proofs.Tryd.prog c (zj z12 [0, 1, 0, 1, 1, 1]) (zde N) :=
  z5y (s := [(1, .box (.pair .str (.pair (.sl (.pair .str (.pair .str .unit))) (.pair .str .unit)))), (2, .v .str), (0, .v (.int .i64))]) (m := 63) (zdi N) [5, 1, 4] N (fun x => x.1) (fun x => (x.2.1, x.2.2.1)) (fun i v => (i, v.1, v.2, ())) (fun _ => rfl) (ze hb N (znr N) z2j z12 (TabOk.cons (zm4 hb) TabOk.nil) [0, 0, 1, 0, 1, 1, 1] _ rfl) (fun i v r K => by kernel_rfl)

def z3a (N : Nat) (t : ((List UInt8) × ((List ((List UInt8) × ((List UInt8) × Unit))) × ((List UInt8) × Unit)))) : Option ((List UInt8) × Int × Unit) :=
 z7l N t
 (fun x2 x3 => some (x2, (x3, ())))
 ((z1d N t.1).bind fun y =>
 (z1c N (Go.IntKind.wrap Go.IntKind.u64 (((List.length t.2.1) : Nat) : Int))).bind fun y1 =>
 cond (decide (((List.length y) + (List.length y1)) <= 9223372036854775807))
 (z7j N t (y ++ y1) (0 : Int)
 (fun x21 x31 => some (x21, (x31, ())))
 (fun s => cond ((((List.length t.2.2.1) : Nat) : Int) != (32 : Int))
 (some (([] : List UInt8), ((7 : Int), ())))
 (cond (decide (((List.length s) + (List.length t.2.2.1)) <= 9223372036854775807))
 (some ((s ++ t.2.2.1), ((0 : Int), ())))
 (none))))
 (none))

def zf7 (N : Nat) : Tab ((List UInt8) × Int × Unit) := [([0, 1], zdg N), ([0, 1, 0, 1, 1, 1], zde N)]

theorem zkh (N : Nat) (x : z26 [(0, .v (.pair .str (.pair (.sl (.pair .str (.pair .str .unit))) (.pair .str .unit))))]) : z9l (z25 N) N (zf7 N) z2j Go.Proofs.Tryd.f33 (mkS [(0, .v (.pair .str (.pair (.sl (.pair .str (.pair .str .unit))) (.pair .str .unit))))] 0 x) (z41 (.tup [.str, (.int .i64)]) 1) = z3a N x.1 := by kernel_rfl

def zbo (N : Nat) : List A -> Res := z1f [(0, .v (.pair .str (.pair (.sl (.pair .str (.pair .str .unit))) (.pair .str .unit))))] (fun x => z3a N x.1) (zaj (.tup [.str, (.int .i64)]) 1)

theorem znu (N : Nat) : Contract Go.Proofs.Tryd.prog za 33 (zbo N) :=
  Contract.of (E := z25 N) (H := zf7 N) (L := z2j) (N := N) (body := z12) (K := (z41 (.tup [.str, (.int .i64)]) 1)) (zm8 N) Go.Proofs.Tryd.func33 (by kernel_rfl) (by decide) (fun _ hb => (TabOk.cons (zm7 hb) (TabOk.cons (zm5 hb) TabOk.nil))) (fun x y h => by rw [zkh]; exact h) (z16 (s := (.tup [.str, (.int .i64)])) (m := 1))

def z5l : Code := (Go.Proofs.Tryd.f18.body).getD .skip

def z8w : List (List Nat × List Nat) := [([0], [1]), ([0, 0, 1], [13, 1]), ([1, 0, 1], [1]), ([0, 0, 1, 0, 1], [2, 3]), ([1, 0, 1, 0, 1], [2, 3]), ([0, 1, 1], [5, 4, 1]), ([0, 0, 1, 1, 1], [21, 5, 4, 1]), ([1, 0, 1, 1, 1], [4, 1]), ([0, 0, 1, 0, 1, 1, 1], [2, 3]), ([1, 0, 1, 0, 1, 1, 1], [2, 3]), ([0, 1, 1, 1, 1], [1, 6]), ([0, 0, 1, 1, 1, 1, 1], [7, 1, 6]), ([0, 1, 0, 1, 1, 1, 1, 1], [7, 1, 6]), ([0, 0, 0, 0, 1, 0, 1, 1, 1, 1, 1], [35, 1, 7, 6]), ([1, 0, 0, 0, 1, 0, 1, 1, 1, 1, 1], [1, 7, 6]), ([1, 1, 0, 0, 0, 1, 0, 1, 1, 1, 1, 1], [6]), ([0, 0, 0, 1, 0, 0, 1, 0, 1, 1, 1, 1, 1], [9, 6, 8, 7, 1]), ([0, 0, 1, 0, 0, 1, 0, 0, 1, 0, 1, 1, 1, 1, 1], [48, 9, 6, 8, 7, 1]), ([1, 0, 1, 0, 0, 1, 0, 0, 1, 0, 1, 1, 1, 1, 1], [6, 8, 7, 1]), ([0, 0, 1, 0, 1, 0, 0, 1, 0, 0, 1, 0, 1, 1, 1, 1, 1], [2, 3]), ([1, 0, 1, 0, 1, 0, 0, 1, 0, 0, 1, 0, 1, 1, 1, 1, 1], [2, 3]), ([1, 1, 0, 0, 1, 0, 0, 1, 0, 1, 1, 1, 1, 1], [7, 1, 6]), ([0, 1, 0, 0, 1, 0, 1, 1, 1, 1, 1], [7, 1, 6]), ([1, 1, 0, 0, 1, 0, 1, 1, 1, 1, 1], [7, 1, 6]), ([1, 0, 1, 1, 1, 1, 1], [6]), ([0, 1, 1, 1, 1, 1, 1], [2, 3]), ([1, 1, 1, 1, 1, 1, 1], [2, 3])]

def z59 (N : Nat) : Env := z2n tys za [(33, zbo N), (34, z5w N), (35, z3r N)] [] [] [] false [] []

theorem zlx (N : Nat) : EnvOk Go.Proofs.Tryd.prog (z59 N) := zk mixed z1a (FnsOk.cons (znu N) (FnsOk.cons (zbq N) (FnsOk.cons (z4k N) (FnsOk.nil)))) (ItsOk.nil)

def z7b (N : Nat) (b : (((List UInt8) × ((List ((List UInt8) × ((List UInt8) × Unit))) × ((List UInt8) × Unit))) × ((List ((List UInt8) × ((List ((List UInt8) × ((List UInt8) × Unit))) × ((List UInt8) × Unit)))) × Unit))) (out : (List UInt8)) (i : Int) (rec : (List UInt8) -> Int -> Option ((List UInt8) × Int × Unit)) (k0 : (List UInt8) -> Int -> Option ((List UInt8) × Int × Unit)) (k1 : (List UInt8) -> Option ((List UInt8) × Int × Unit)) : Option ((List UInt8) × Int × Unit) :=
 cond (decide (i < (((List.length b.2.1) : Nat) : Int)))
 (cond (Go.Lift.inR i (List.length b.2.1))
 ((z3a N (List.getD b.2.1 (Int.toNat i) (([] : List UInt8), (([] : List ((List UInt8) × ((List UInt8) × Unit))), (([] : List UInt8), ()))))).bind fun y =>
 cond (y.2.1 != (0 : Int))
 (k0 ([] : List UInt8) y.2.1)
 ((z1d N y.1).bind fun y1 =>
 cond (decide (((List.length out) + (List.length y1)) <= 9223372036854775807))
 (rec (out ++ y1) (Go.IntKind.wrap Go.IntKind.i64 (i + (1 : Int))))
 (none)))
 (none))
 (k1 out)

def z7c (N : Nat) (b : (((List UInt8) × ((List ((List UInt8) × ((List UInt8) × Unit))) × ((List UInt8) × Unit))) × ((List ((List UInt8) × ((List ((List UInt8) × ((List UInt8) × Unit))) × ((List UInt8) × Unit)))) × Unit))) (out : (List UInt8)) (i : Int) (k0 : (List UInt8) -> Int -> Option ((List UInt8) × Int × Unit)) (k1 : (List UInt8) -> Option ((List UInt8) × Int × Unit)) : Option ((List UInt8) × Int × Unit) :=
 iter (fun (v : ((List UInt8) × Int)) r => z7b N b v.1 v.2 (fun out i => (r (out, i))) k0 k1) N (out, i)

def zd4 (N : Nat) (i : (((List UInt8) × ((List ((List UInt8) × ((List UInt8) × Unit))) × ((List UInt8) × Unit))) × ((List ((List UInt8) × ((List ((List UInt8) × ((List UInt8) × Unit))) × ((List UInt8) × Unit)))) × Unit))) (v : ((List UInt8) × Int)) (r : ((List UInt8) × Int) -> Option ((List UInt8) × Int × Unit)) (K : Ex -> List A -> Option ((List UInt8) × Int × Unit)) : Option ((List UInt8) × Int × Unit) :=
 z7b N i v.1 v.2 (fun out i => (r (out, i))) (fun a0 a1 => (K .ret (mkS [(2, .v .str), (0, .v (.int .i64))] 51 (a0, a1, ())))) (fun a0 => (K (.exit 0) (mkS [(6, .v .str)] 48 (a0, ()))))

def zd3 (N : Nat) : Hd ((List UInt8) × Int × Unit) := fun st K => (unS [(1, .box (.pair (.pair .str (.pair (.sl (.pair .str (.pair .str .unit))) (.pair .str .unit))) (.pair (.sl (.pair .str (.pair (.sl (.pair .str (.pair .str .unit))) (.pair .str .unit)))) .unit))), (4, .v .str), (0, .v (.int .i64))] 47 (restr [7, 1, 6] 0 st)).bind fun x => iter (fun v r => zd4 N ((fun x => x.1) x) v r K) N ((fun x => (x.2.1, x.2.2.1)) x)

def znm (N : Nat) : Tab ((List UInt8) × Int × Unit) := []

theorem zlw {N : Nat} {c : Ctx} (hb : Base Go.Proofs.Tryd.prog (z59 N) c) : z11 Go.Proofs.Tryd.prog c (zj z5l [0, 1, 0, 1, 1, 1, 1, 1]) (zd3 N) :=
  z5y (s := [(1, .box (.pair (.pair .str (.pair (.sl (.pair .str (.pair .str .unit))) (.pair .str .unit))) (.pair (.sl (.pair .str (.pair (.sl (.pair .str (.pair .str .unit))) (.pair .str .unit)))) .unit))), (4, .v .str), (0, .v (.int .i64))]) (m := 47) (zd4 N) [7, 1, 6] N (fun x => x.1) (fun x => (x.2.1, x.2.2.1)) (fun i v => (i, v.1, v.2, ())) (fun _ => rfl) (ze hb N (znm N) z8w z5l TabOk.nil [0, 0, 1, 0, 1, 1, 1, 1, 1] _ rfl) (fun i v r K => by kernel_rfl)

def z37 (N : Nat) (b : (((List UInt8) × ((List ((List UInt8) × ((List UInt8) × Unit))) × ((List UInt8) × Unit))) × ((List ((List UInt8) × ((List ((List UInt8) × ((List UInt8) × Unit))) × ((List UInt8) × Unit)))) × Unit))) : Option ((List UInt8) × Int × Unit) :=
 cond (decide ((8 : Int) < (((List.length b.2.1) : Nat) : Int)))
 (some (([] : List UInt8), ((3 : Int), ())))
 ((z3a N b.1).bind fun y =>
 cond (y.2.1 != (0 : Int))
 (some (([] : List UInt8), (y.2.1, ())))
 ((z1d N y.1).bind fun y1 =>
 (z1c N (Go.IntKind.wrap Go.IntKind.u64 (((List.length b.2.1) : Nat) : Int))).bind fun y2 =>
 cond (decide (((List.length y1) + (List.length y2)) <= 9223372036854775807))
 (z7c N b (y1 ++ y2) (0 : Int)
 (fun x2 x3 => some (x2, (x3, ())))
 (fun out => some (out, ((0 : Int), ()))))
 (none)))

def zf5 (N : Nat) : Tab ((List UInt8) × Int × Unit) := [([0, 1, 0, 1, 1, 1, 1, 1], zd3 N)]

theorem zk8 (N : Nat) (x : z26 [(0, .v (.pair (.pair .str (.pair (.sl (.pair .str (.pair .str .unit))) (.pair .str .unit))) (.pair (.sl (.pair .str (.pair (.sl (.pair .str (.pair .str .unit))) (.pair .str .unit)))) .unit)))]) : z9l (z59 N) N (zf5 N) z8w Go.Proofs.Tryd.f18 (mkS [(0, .v (.pair (.pair .str (.pair (.sl (.pair .str (.pair .str .unit))) (.pair .str .unit))) (.pair (.sl (.pair .str (.pair (.sl (.pair .str (.pair .str .unit))) (.pair .str .unit)))) .unit)))] 0 x) (z41 (.tup [.str, (.int .i64)]) 1) = z37 N x.1 := by kernel_rfl

def z6f (N : Nat) : List A -> Res := z1f [(0, .v (.pair (.pair .str (.pair (.sl (.pair .str (.pair .str .unit))) (.pair .str .unit))) (.pair (.sl (.pair .str (.pair (.sl (.pair .str (.pair .str .unit))) (.pair .str .unit)))) .unit)))] (fun x => z37 N x.1) (zaj (.tup [.str, (.int .i64)]) 1)

theorem zd5 (N : Nat) : Contract Go.Proofs.Tryd.prog za 18 (z6f N) :=
  Contract.of (E := z59 N) (H := zf5 N) (L := z8w) (N := N) (body := z5l) (K := (z41 (.tup [.str, (.int .i64)]) 1)) (zlx N) Go.Proofs.Tryd.func18 (by kernel_rfl) (by decide) (fun _ hb => (TabOk.cons (zlw hb) TabOk.nil)) (fun x y h => by rw [zk8]; exact h) (z16 (s := (.tup [.str, (.int .i64)])) (m := 1))

def z2g : Code := (Go.Proofs.Tryd.f9.body).getD .skip

def z5a : List (List Nat × List Nat) := [([0], [1]), ([0, 1], [5, 4]), ([0, 0, 1, 1], [17, 4, 5]), ([1, 0, 1, 1], [4, 5]), ([0, 0, 1, 0, 1, 1], [2, 3]), ([1, 0, 1, 0, 1, 1], [2, 3]), ([0, 1, 1, 1], [2, 3]), ([1, 1, 1, 1], [2, 3])]

def z38 (N : Nat) : Env := z2n tys za [(18, z6f N)] [] [] [] false [] []

theorem zm2 (N : Nat) : EnvOk Go.Proofs.Tryd.prog (z38 N) := zk mixed z1a (FnsOk.cons (zd5 N) (FnsOk.nil)) (ItsOk.nil)

def z7e (N : Nat) (s : (List UInt8)) (e : Int) (k0 : Bool -> Option ((List UInt8) × Int × Unit)) : Option ((List UInt8) × Int × Unit) :=
 cond (e == (0 : Int))
 (k0 (decide ((65536 : Int) < (((List.length s) : Nat) : Int))))
 (k0 false)

def zd9 (N : Nat) (x : z26 [(4, .v .str), (0, .v (.int .i64))]) (K : Ex -> List A -> Option ((List UInt8) × Int × Unit)) : Option ((List UInt8) × Int × Unit) :=
 z7e N x.1 x.2.1 (fun a2 => (K .normal (mkS [(4, .v .str), (0, .v (.int .i64)), (11, .v .bool)] 2 (x.1, x.2.1, a2, ()))))

def zd7 (N : Nat) : Hd ((List UInt8) × Int × Unit) := fun st K => (unS [(4, .v .str), (0, .v (.int .i64))] 14 (restr [5, 4] 0 st)).bind fun x => zd9 N x K

def znn (N : Nat) : Tab ((List UInt8) × Int × Unit) := []

theorem zm0 {N : Nat} {c : Ctx} (hb : Base Go.Proofs.Tryd.prog (z38 N) c) : z11 Go.Proofs.Tryd.prog c (zj z2g [0, 0, 1, 1]) (zd7 N) :=
  z1j (s := [(4, .v .str), (0, .v (.int .i64))]) (m := 14) (g := zd9 N) [5, 4] (ze hb N (znn N) z5a z2g TabOk.nil [0, 0, 1, 1] _ rfl) (fun x K => by kernel_rfl)

def z7f (N : Nat) (s : (List UInt8)) (e : Int) (k0 : (List UInt8) -> Int -> Option ((List UInt8) × Int × Unit)) (k1 : Option ((List UInt8) × Int × Unit)) : Option ((List UInt8) × Int × Unit) :=
 z7e N s e
 (fun x17 => cond x17
 (k0 ([] : List UInt8) (3 : Int))
 (k1))

def zda (N : Nat) (x : z26 [(4, .v .str), (0, .v (.int .i64))]) (K : Ex -> List A -> Option ((List UInt8) × Int × Unit)) : Option ((List UInt8) × Int × Unit) :=
 z7f N x.1 x.2.1 (fun a0 a1 => (K .ret (mkS [(2, .v .str), (0, .v (.int .i64))] 16 (a0, a1, ())))) (K .normal (mkS [(4, .v .str), (0, .v (.int .i64))] 14 (x.1, x.2.1, ())))

def zd8 (N : Nat) : Hd ((List UInt8) × Int × Unit) := fun st K => (unS [(4, .v .str), (0, .v (.int .i64))] 14 (restr [5, 4] 0 st)).bind fun x => zda N x K

def zno (N : Nat) : Tab ((List UInt8) × Int × Unit) := [([0, 0, 1, 1], zd7 N)]

theorem zm1 {N : Nat} {c : Ctx} (hb : Base Go.Proofs.Tryd.prog (z38 N) c) : z11 Go.Proofs.Tryd.prog c (zj z2g [0, 1, 1]) (zd8 N) :=
  z1j (s := [(4, .v .str), (0, .v (.int .i64))]) (m := 14) (g := zda N) [5, 4] (ze hb N (zno N) z5a z2g (TabOk.cons (zm0 hb) TabOk.nil) [0, 1, 1] _ rfl) (fun x K => by kernel_rfl)

def z4w (N : Nat) (b : (((List UInt8) × ((List ((List UInt8) × ((List UInt8) × Unit))) × ((List UInt8) × Unit))) × ((List ((List UInt8) × ((List ((List UInt8) × ((List UInt8) × Unit))) × ((List UInt8) × Unit)))) × Unit))) : Option ((List UInt8) × Int × Unit) :=
 (z37 N b).bind fun y =>
 z7f N y.1 y.2.1
 (fun x2 x3 => some (x2, (x3, ())))
 (some (y.1, (y.2.1, ())))

def zf6 (N : Nat) : Tab ((List UInt8) × Int × Unit) := [([0, 1, 1], zd8 N)]

theorem zkb (N : Nat) (x : z26 [(0, .v (.pair (.pair .str (.pair (.sl (.pair .str (.pair .str .unit))) (.pair .str .unit))) (.pair (.sl (.pair .str (.pair (.sl (.pair .str (.pair .str .unit))) (.pair .str .unit)))) .unit)))]) : z9l (z38 N) N (zf6 N) z5a Go.Proofs.Tryd.f9 (mkS [(0, .v (.pair (.pair .str (.pair (.sl (.pair .str (.pair .str .unit))) (.pair .str .unit))) (.pair (.sl (.pair .str (.pair (.sl (.pair .str (.pair .str .unit))) (.pair .str .unit)))) .unit)))] 0 x) (z41 (.tup [.str, (.int .i64)]) 1) = z4w N x.1 := by kernel_rfl

def zbm (N : Nat) : List A -> Res := z1f [(0, .v (.pair (.pair .str (.pair (.sl (.pair .str (.pair .str .unit))) (.pair .str .unit))) (.pair (.sl (.pair .str (.pair (.sl (.pair .str (.pair .str .unit))) (.pair .str .unit)))) .unit)))] (fun x => z4w N x.1) (zaj (.tup [.str, (.int .i64)]) 1)

theorem znp (N : Nat) : Contract Go.Proofs.Tryd.prog za 9 (zbm N) :=
  Contract.of (E := z38 N) (H := zf6 N) (L := z5a) (N := N) (body := z2g) (K := (z41 (.tup [.str, (.int .i64)]) 1)) (zm2 N) Go.Proofs.Tryd.func9 (by kernel_rfl) (by decide) (fun _ hb => (TabOk.cons (zm1 hb) TabOk.nil)) (fun x y h => by rw [zkb]; exact h) (z16 (s := (.tup [.str, (.int .i64)])) (m := 1))

def zgj : Code := (Go.Proofs.Tryd.f21.body).getD .skip

def z9w : List (List Nat × List Nat) := [([0], [1, 2]), ([0, 1], [1, 3, 2]), ([0, 1, 1], [2]), ([1, 1, 1], [2])]

def z5k (N : Nat) : Env := z2n tys za [] [(3, (.int .u8))] [] [] false [] []

theorem zhd (N : Nat) : EnvOk Go.Proofs.Tryd.prog (z5k N) := zk mixed z1a (FnsOk.nil) (ItsOk.nil)

def zd2 (N : Nat) (t : ((List UInt8) × ((List ((List UInt8) × ((List UInt8) × Unit))) × ((List UInt8) × Unit)))) : Option ((List UInt8) × ((List ((List UInt8) × ((List UInt8) × Unit))) × ((List UInt8) × Unit))) :=
 some (t.1, (t.2.1, ((Go.Lift.toStr (List.replicate 32 (0 : Int))), ())))

def z9v (N : Nat) : Tab ((List UInt8) × ((List ((List UInt8) × ((List UInt8) × Unit))) × ((List UInt8) × Unit))) := []

theorem zgi (N : Nat) (x : z26 [(0, .v (.pair .str (.pair (.sl (.pair .str (.pair .str .unit))) (.pair .str .unit))))]) : z9l (z5k N) N (z9v N) z9w Go.Proofs.Tryd.f21 (mkS [(0, .v (.pair .str (.pair (.sl (.pair .str (.pair .str .unit))) (.pair .str .unit))))] 0 x) (z41 (.v (.pair .str (.pair (.sl (.pair .str (.pair .str .unit))) (.pair .str .unit)))) 1) = zd2 N x.1 := by kernel_rfl

def z8i (N : Nat) : List A -> Res := z1f [(0, .v (.pair .str (.pair (.sl (.pair .str (.pair .str .unit))) (.pair .str .unit))))] (fun x => zd2 N x.1) (zaj (.v (.pair .str (.pair (.sl (.pair .str (.pair .str .unit))) (.pair .str .unit)))) 1)

theorem zii (N : Nat) : Contract Go.Proofs.Tryd.prog za 21 (z8i N) :=
  Contract.of (E := z5k N) (H := z9v N) (L := z9w) (N := N) (body := zgj) (K := (z41 (.v (.pair .str (.pair (.sl (.pair .str (.pair .str .unit))) (.pair .str .unit)))) 1)) (zhd N) Go.Proofs.Tryd.func21 (by kernel_rfl) (by decide) (fun _ hb => TabOk.nil) (fun x y h => by rw [zgi]; exact h) (z16 (s := (.v (.pair .str (.pair (.sl (.pair .str (.pair .str .unit))) (.pair .str .unit))))) (m := 1))

def z4v : Code := (Go.Proofs.Tryd.f11.body).getD .skip

def z7d : List (List Nat × List Nat) := [([0], [1]), ([0, 1], [1, 3]), ([0, 0, 1, 1], [4, 1, 3]), ([0, 1, 0, 1, 1], [4, 1, 3]), ([0, 0, 0, 0, 1, 0, 1, 1], [15, 3, 1, 4]), ([1, 0, 0, 0, 1, 0, 1, 1], [3, 1, 4]), ([1, 1, 0, 0, 0, 1, 0, 1, 1], [3]), ([0, 0, 1, 0, 0, 1, 0, 1, 1], [4, 1, 3]), ([0, 1, 0, 0, 1, 0, 1, 1], [4, 1, 3]), ([1, 1, 0, 0, 1, 0, 1, 1], [4, 1, 3]), ([1, 0, 1, 1], [3]), ([0, 1, 1, 1], [5]), ([0, 1, 1, 1, 1], [2]), ([1, 1, 1, 1, 1], [2])]

def z4j (N : Nat) : Env := z2n tys za [(21, z8i N), (18, z6f N)] [] [] [] false [(10, (.pair (.pair .str (.pair (.sl (.pair .str (.pair .str .unit))) (.pair .str .unit))) (.pair (.own (.pair .str (.pair (.sl (.pair .str (.pair .str .unit))) (.pair .str .unit)))) .unit))), (3, (.pair (.pair .str (.pair (.sl (.pair .str (.pair .str .unit))) (.pair .str .unit))) (.pair (.own (.pair .str (.pair (.sl (.pair .str (.pair .str .unit))) (.pair .str .unit)))) .unit)))] []

theorem zka (N : Nat) : EnvOk Go.Proofs.Tryd.prog (z4j N) := zk mixed z1a (FnsOk.cons (zii N) (FnsOk.cons (zd5 N) (FnsOk.nil))) (ItsOk.nil)

def z6g (N : Nat) (b : (((List UInt8) × ((List ((List UInt8) × ((List UInt8) × Unit))) × ((List UInt8) × Unit))) × ((List ((List UInt8) × ((List ((List UInt8) × ((List UInt8) × Unit))) × ((List UInt8) × Unit)))) × Unit))) (c : (((List UInt8) × ((List ((List UInt8) × ((List UInt8) × Unit))) × ((List UInt8) × Unit))) × ((List ((List UInt8) × ((List ((List UInt8) × ((List UInt8) × Unit))) × ((List UInt8) × Unit)))) × Unit))) (i : Int) (rec : (((List UInt8) × ((List ((List UInt8) × ((List UInt8) × Unit))) × ((List UInt8) × Unit))) × ((List ((List UInt8) × ((List ((List UInt8) × ((List UInt8) × Unit))) × ((List UInt8) × Unit)))) × Unit)) -> Int -> Option Int) (k0 : (((List UInt8) × ((List ((List UInt8) × ((List UInt8) × Unit))) × ((List UInt8) × Unit))) × ((List ((List UInt8) × ((List ((List UInt8) × ((List UInt8) × Unit))) × ((List UInt8) × Unit)))) × Unit)) -> Option Int) : Option Int :=
 cond (decide (i < (((List.length b.2.1) : Nat) : Int)))
 (cond (Go.Lift.inR i (List.length b.2.1))
 (cond (decide ((((List.length c.2.1) + 1) * 56) <= 70368744177664))
 (rec (c.1, ((c.2.1 ++ ([((List.getD b.2.1 (Int.toNat i) (([] : List UInt8), (([] : List ((List UInt8) × ((List UInt8) × Unit))), (([] : List UInt8), ())))).1, ((List.getD b.2.1 (Int.toNat i) (([] : List UInt8), (([] : List ((List UInt8) × ((List UInt8) × Unit))), (([] : List UInt8), ())))).2.1, ((Go.Lift.toStr (List.replicate 32 (0 : Int))), ())))] : List ((List UInt8) × ((List ((List UInt8) × ((List UInt8) × Unit))) × ((List UInt8) × Unit))))), c.2.2)) (Go.IntKind.wrap Go.IntKind.i64 (i + (1 : Int))))
 (none))
 (none))
 (k0 c)

def z6h (N : Nat) (b : (((List UInt8) × ((List ((List UInt8) × ((List UInt8) × Unit))) × ((List UInt8) × Unit))) × ((List ((List UInt8) × ((List ((List UInt8) × ((List UInt8) × Unit))) × ((List UInt8) × Unit)))) × Unit))) (c : (((List UInt8) × ((List ((List UInt8) × ((List UInt8) × Unit))) × ((List UInt8) × Unit))) × ((List ((List UInt8) × ((List ((List UInt8) × ((List UInt8) × Unit))) × ((List UInt8) × Unit)))) × Unit))) (i : Int) (k0 : (((List UInt8) × ((List ((List UInt8) × ((List UInt8) × Unit))) × ((List UInt8) × Unit))) × ((List ((List UInt8) × ((List ((List UInt8) × ((List UInt8) × Unit))) × ((List UInt8) × Unit)))) × Unit)) -> Option Int) : Option Int :=
 iter (fun (v : ((((List UInt8) × ((List ((List UInt8) × ((List UInt8) × Unit))) × ((List UInt8) × Unit))) × ((List ((List UInt8) × ((List ((List UInt8) × ((List UInt8) × Unit))) × ((List UInt8) × Unit)))) × Unit)) × Int)) r => z6g N b v.1 v.2 (fun c i => (r (c, i))) k0) N (c, i)

def zbl (N : Nat) (i : (((List UInt8) × ((List ((List UInt8) × ((List UInt8) × Unit))) × ((List UInt8) × Unit))) × ((List ((List UInt8) × ((List ((List UInt8) × ((List UInt8) × Unit))) × ((List UInt8) × Unit)))) × Unit))) (v : ((((List UInt8) × ((List ((List UInt8) × ((List UInt8) × Unit))) × ((List UInt8) × Unit))) × ((List ((List UInt8) × ((List ((List UInt8) × ((List UInt8) × Unit))) × ((List UInt8) × Unit)))) × Unit)) × Int)) (r : ((((List UInt8) × ((List ((List UInt8) × ((List UInt8) × Unit))) × ((List UInt8) × Unit))) × ((List ((List UInt8) × ((List ((List UInt8) × ((List UInt8) × Unit))) × ((List UInt8) × Unit)))) × Unit)) × Int) -> Option Int) (K : Ex -> List A -> Option Int) : Option Int :=
 z6g N i v.1 v.2 (fun c i => (r (c, i))) (fun a0 => (K (.exit 0) (mkS [(3, .box (.pair (.pair .str (.pair (.sl (.pair .str (.pair .str .unit))) (.pair .str .unit))) (.pair (.own (.pair .str (.pair (.sl (.pair .str (.pair .str .unit))) (.pair .str .unit)))) .unit)))] 32 (a0, ()))))

def zbk (N : Nat) : Hd Int := fun st K => (unS [(1, .box (.pair (.pair .str (.pair (.sl (.pair .str (.pair .str .unit))) (.pair .str .unit))) (.pair (.sl (.pair .str (.pair (.sl (.pair .str (.pair .str .unit))) (.pair .str .unit)))) .unit))), (1, .box (.pair (.pair .str (.pair (.sl (.pair .str (.pair .str .unit))) (.pair .str .unit))) (.pair (.own (.pair .str (.pair (.sl (.pair .str (.pair .str .unit))) (.pair .str .unit)))) .unit))), (0, .v (.int .i64))] 31 (restr [4, 1, 3] 0 st)).bind fun x => iter (fun v r => zbl N ((fun x => x.1) x) v r K) N ((fun x => (x.2.1, x.2.2.1)) x)

def zly (N : Nat) : Tab Int := []

theorem zk9 {N : Nat} {c : Ctx} (hb : Base Go.Proofs.Tryd.prog (z4j N) c) : z11 Go.Proofs.Tryd.prog c (zj z4v [0, 1, 0, 1, 1]) (zbk N) :=
  z5y (s := [(1, .box (.pair (.pair .str (.pair (.sl (.pair .str (.pair .str .unit))) (.pair .str .unit))) (.pair (.sl (.pair .str (.pair (.sl (.pair .str (.pair .str .unit))) (.pair .str .unit)))) .unit))), (1, .box (.pair (.pair .str (.pair (.sl (.pair .str (.pair .str .unit))) (.pair .str .unit))) (.pair (.own (.pair .str (.pair (.sl (.pair .str (.pair .str .unit))) (.pair .str .unit)))) .unit))), (0, .v (.int .i64))]) (m := 31) (zbl N) [4, 1, 3] N (fun x => x.1) (fun x => (x.2.1, x.2.2.1)) (fun i v => (i, v.1, v.2, ())) (fun _ => rfl) (ze hb N (zly N) z7d z4v TabOk.nil [0, 0, 1, 0, 1, 1] _ rfl) (fun i v r K => by kernel_rfl)

def z45 (N : Nat) (b : (((List UInt8) × ((List ((List UInt8) × ((List UInt8) × Unit))) × ((List UInt8) × Unit))) × ((List ((List UInt8) × ((List ((List UInt8) × ((List UInt8) × Unit))) × ((List UInt8) × Unit)))) × Unit))) : Option Int :=
 z6h N b ((b.1.1, (b.1.2.1, ((Go.Lift.toStr (List.replicate 32 (0 : Int))), ()))), (([] : List ((List UInt8) × ((List ((List UInt8) × ((List UInt8) × Unit))) × ((List UInt8) × Unit)))), ())) (0 : Int)
 (fun c => (z37 N ((c.1.1, (c.1.2.1, (c.1.2.2.1, c.1.2.2.2))), (c.2.1, c.2.2))).bind fun y =>
 some (((List.length y.1) : Nat) : Int))

def zd6 (N : Nat) : Tab Int := [([0, 1, 0, 1, 1], zbk N)]

theorem zij (N : Nat) (x : z26 [(0, .v (.pair (.pair .str (.pair (.sl (.pair .str (.pair .str .unit))) (.pair .str .unit))) (.pair (.sl (.pair .str (.pair (.sl (.pair .str (.pair .str .unit))) (.pair .str .unit)))) .unit)))]) : z9l (z4j N) N (zd6 N) z7d Go.Proofs.Tryd.f11 (mkS [(0, .v (.pair (.pair .str (.pair (.sl (.pair .str (.pair .str .unit))) (.pair .str .unit))) (.pair (.sl (.pair .str (.pair (.sl (.pair .str (.pair .str .unit))) (.pair .str .unit)))) .unit)))] 0 x) (z41 (.v (.int .i64)) 1) = z45 N x.1 := by kernel_rfl

def z9x (N : Nat) : List A -> Res := z1f [(0, .v (.pair (.pair .str (.pair (.sl (.pair .str (.pair .str .unit))) (.pair .str .unit))) (.pair (.sl (.pair .str (.pair (.sl (.pair .str (.pair .str .unit))) (.pair .str .unit)))) .unit)))] (fun x => z45 N x.1) (zaj (.v (.int .i64)) 1)

theorem zlz (N : Nat) : Contract Go.Proofs.Tryd.prog za 11 (z9x N) :=
  Contract.of (E := z4j N) (H := zd6 N) (L := z7d) (N := N) (body := z4v) (K := (z41 (.v (.int .i64)) 1)) (zka N) Go.Proofs.Tryd.func11 (by kernel_rfl) (by decide) (fun _ hb => (TabOk.cons (zk9 hb) TabOk.nil)) (fun x y h => by rw [zij]; exact h) (z16 (s := (.v (.int .i64))) (m := 1))

def zf : Code := (Go.Proofs.Tryd.f15.body).getD .skip

def z1b : List (List Nat × List Nat) := [([0], [1]), ([0, 0, 1], [20, 1]), ([1, 0, 1], [1]), ([0, 0, 1, 0, 1], [2]), ([1, 0, 1, 0, 1], [2]), ([0, 1, 1], [1, 3]), ([0, 0, 1, 1, 1], [4, 1, 3]), ([0, 1, 0, 1, 1, 1], [4, 1, 3]), ([0, 0, 0, 0, 1, 0, 1, 1, 1], [25, 1, 4, 3]), ([1, 0, 0, 0, 1, 0, 1, 1, 1], [1, 4, 3]), ([1, 1, 0, 0, 0, 1, 0, 1, 1, 1], [3]), ([0, 0, 0, 0, 1, 0, 0, 1, 0, 1, 1, 1], [45, 3, 1, 4]), ([1, 0, 0, 0, 1, 0, 0, 1, 0, 1, 1, 1], [3, 1, 4]), ([0, 0, 1, 0, 0, 0, 1, 0, 0, 1, 0, 1, 1, 1], [2]), ([1, 0, 1, 0, 0, 0, 1, 0, 0, 1, 0, 1, 1, 1], [2]), ([1, 0, 0, 1, 0, 0, 1, 0, 1, 1, 1], [4, 1, 3]), ([0, 1, 0, 0, 1, 0, 1, 1, 1], [4, 1, 3]), ([1, 1, 0, 0, 1, 0, 1, 1, 1], [4, 1, 3]), ([1, 0, 1, 1, 1], [3]), ([0, 1, 1, 1, 1], [2]), ([1, 1, 1, 1, 1], [2])]

def z15 (N : Nat) : Env := z2n tys za [] [] [] [] false [] []

theorem zix (N : Nat) : EnvOk Go.Proofs.Tryd.prog (z15 N) := zk mixed z1a (FnsOk.nil) (ItsOk.nil)

def z5u (N : Nat) (t : ((List UInt8) × ((List ((List UInt8) × ((List UInt8) × Unit))) × ((List UInt8) × Unit)))) (k0 : Bool -> Option Bool) : Option Bool :=
 cond (decide ((4200 : Int) < (((List.length t.1) : Nat) : Int)))
 (k0 true)
 (cond (decide ((100 : Int) < (((List.length t.2.2.1) : Nat) : Int)))
 (k0 true)
 (k0 (decide ((70 : Int) < (((List.length t.2.1) : Nat) : Int)))))

def zag (N : Nat) (x : z26 [(1, .box (.pair .str (.pair (.sl (.pair .str (.pair .str .unit))) (.pair .str .unit))))]) (K : Ex -> List A -> Option Bool) : Option Bool :=
 z5u N x.1 (fun a1 => (K .normal (mkS [(1, .box (.pair .str (.pair (.sl (.pair .str (.pair .str .unit))) (.pair .str .unit)))), (18, .v .bool)] 44 (x.1, a1, ()))))

def zaa (N : Nat) : Hd Bool := fun st K => (unS [(1, .box (.pair .str (.pair (.sl (.pair .str (.pair .str .unit))) (.pair .str .unit))))] 63 (restr [1] 0 st)).bind fun x => zag N x K

def zkm (N : Nat) : Tab Bool := []

theorem ziv {N : Nat} {c : Ctx} (hb : Base Go.Proofs.Tryd.prog (z15 N) c) : z11 Go.Proofs.Tryd.prog c (zj zf [0, 0, 1]) (zaa N) :=
  z1j (s := [(1, .box (.pair .str (.pair (.sl (.pair .str (.pair .str .unit))) (.pair .str .unit))))]) (m := 63) (g := zag N) [1] (ze hb N (zkm N) z1b zf TabOk.nil [0, 0, 1] _ rfl) (fun x K => by kernel_rfl)

def z5v (N : Nat) (t : ((List UInt8) × ((List ((List UInt8) × ((List UInt8) × Unit))) × ((List UInt8) × Unit)))) (k0 : Bool -> Option Bool) (k1 : Option Bool) : Option Bool :=
 z5u N t
 (fun x20 => cond x20
 (k0 true)
 (k1))

def zah (N : Nat) (x : z26 [(1, .box (.pair .str (.pair (.sl (.pair .str (.pair .str .unit))) (.pair .str .unit))))]) (K : Ex -> List A -> Option Bool) : Option Bool :=
 z5v N x.1 (fun a0 => (K .ret (mkS [(2, .v .bool)] 62 (a0, ())))) (K .normal (mkS [(1, .box (.pair .str (.pair (.sl (.pair .str (.pair .str .unit))) (.pair .str .unit))))] 63 (x.1, ())))

def zab (N : Nat) : Hd Bool := fun st K => (unS [(1, .box (.pair .str (.pair (.sl (.pair .str (.pair .str .unit))) (.pair .str .unit))))] 63 (restr [1] 0 st)).bind fun x => zah N x K

def zkn (N : Nat) : Tab Bool := [([0, 0, 1], zaa N)]

theorem ziw {N : Nat} {c : Ctx} (hb : Base Go.Proofs.Tryd.prog (z15 N) c) : z11 Go.Proofs.Tryd.prog c (zj zf [0, 1]) (zab N) :=
  z1j (s := [(1, .box (.pair .str (.pair (.sl (.pair .str (.pair .str .unit))) (.pair .str .unit))))]) (m := 63) (g := zah N) [1] (ze hb N (zkn N) z1b zf (TabOk.cons (ziv hb) TabOk.nil) [0, 1] _ rfl) (fun x K => by kernel_rfl)

def z5q (N : Nat) (t : ((List UInt8) × ((List ((List UInt8) × ((List UInt8) × Unit))) × ((List UInt8) × Unit)))) (all : Int) (i : Int) (k0 : Bool -> Option Bool) : Option Bool :=
 cond (Go.Lift.inR i (List.length t.2.1))
 (cond (decide ((4200 : Int) < (((List.length (List.getD t.2.1 (Int.toNat i) (([] : List UInt8), (([] : List UInt8), ()))).1) : Nat) : Int)))
 (k0 true)
 (cond (Go.Lift.inR i (List.length t.2.1))
 (k0 (decide ((4200 : Int) < (((List.length (List.getD t.2.1 (Int.toNat i) (([] : List UInt8), (([] : List UInt8), ()))).2.1) : Nat) : Int))))
 (none)))
 (none)

def zac (N : Nat) (x : z26 [(1, .box (.pair .str (.pair (.sl (.pair .str (.pair .str .unit))) (.pair .str .unit)))), (1, .v (.int .i64)), (0, .v (.int .i64))]) (K : Ex -> List A -> Option Bool) : Option Bool :=
 z5q N x.1 x.2.1 x.2.2.1 (fun a3 => (K .normal (mkS [(1, .box (.pair .str (.pair (.sl (.pair .str (.pair .str .unit))) (.pair .str .unit)))), (1, .v (.int .i64)), (0, .v (.int .i64)), (40, .v .bool)] 19 (x.1, x.2.1, x.2.2.1, a3, ()))))

def za6 (N : Nat) : Hd Bool := fun st K => (unS [(1, .box (.pair .str (.pair (.sl (.pair .str (.pair .str .unit))) (.pair .str .unit)))), (1, .v (.int .i64)), (0, .v (.int .i64))] 60 (restr [1, 4, 3] 0 st)).bind fun x => zac N x K

def zki (N : Nat) : Tab Bool := []

theorem zir {N : Nat} {c : Ctx} (hb : Base Go.Proofs.Tryd.prog (z15 N) c) : z11 Go.Proofs.Tryd.prog c (zj zf [0, 0, 0, 0, 1, 0, 0, 1, 0, 1, 1, 1]) (za6 N) :=
  z1j (s := [(1, .box (.pair .str (.pair (.sl (.pair .str (.pair .str .unit))) (.pair .str .unit)))), (1, .v (.int .i64)), (0, .v (.int .i64))]) (m := 60) (g := zac N) [1, 4, 3] (ze hb N (zki N) z1b zf TabOk.nil [0, 0, 0, 0, 1, 0, 0, 1, 0, 1, 1, 1] _ rfl) (fun x K => by kernel_rfl)

def z5r (N : Nat) (t : ((List UInt8) × ((List ((List UInt8) × ((List UInt8) × Unit))) × ((List UInt8) × Unit)))) (all : Int) (i : Int) (k0 : Bool -> Option Bool) (k1 : Option Bool) : Option Bool :=
 z5q N t all i
 (fun x45 => cond x45
 (k0 true)
 (k1))

def zad (N : Nat) (x : z26 [(1, .box (.pair .str (.pair (.sl (.pair .str (.pair .str .unit))) (.pair .str .unit)))), (1, .v (.int .i64)), (0, .v (.int .i64))]) (K : Ex -> List A -> Option Bool) : Option Bool :=
 z5r N x.1 x.2.1 x.2.2.1 (fun a0 => (K .ret (mkS [(2, .v .bool)] 62 (a0, ())))) (K .normal (mkS [(1, .box (.pair .str (.pair (.sl (.pair .str (.pair .str .unit))) (.pair .str .unit)))), (1, .v (.int .i64)), (0, .v (.int .i64))] 60 (x.1, x.2.1, x.2.2.1, ())))

def za7 (N : Nat) : Hd Bool := fun st K => (unS [(1, .box (.pair .str (.pair (.sl (.pair .str (.pair .str .unit))) (.pair .str .unit)))), (1, .v (.int .i64)), (0, .v (.int .i64))] 60 (restr [1, 4, 3] 0 st)).bind fun x => zad N x K

def zkj (N : Nat) : Tab Bool := [([0, 0, 0, 0, 1, 0, 0, 1, 0, 1, 1, 1], za6 N)]

theorem zis {N : Nat} {c : Ctx} (hb : Base Go.Proofs.Tryd.prog (z15 N) c) : z11 Go.Proofs.Tryd.prog c (zj zf [0, 0, 0, 1, 0, 0, 1, 0, 1, 1, 1]) (za7 N) :=
  z1j (s := [(1, .box (.pair .str (.pair (.sl (.pair .str (.pair .str .unit))) (.pair .str .unit)))), (1, .v (.int .i64)), (0, .v (.int .i64))]) (m := 60) (g := zad N) [1, 4, 3] (ze hb N (zkj N) z1b zf (TabOk.cons (zir hb) TabOk.nil) [0, 0, 0, 1, 0, 0, 1, 0, 1, 1, 1] _ rfl) (fun x K => by kernel_rfl)

def z5s (N : Nat) (t : ((List UInt8) × ((List ((List UInt8) × ((List UInt8) × Unit))) × ((List UInt8) × Unit)))) (all : Int) (i : Int) (k0 : Bool -> Option Bool) (k1 : Int -> Option Bool) : Option Bool :=
 z5r N t all i
 (fun x2 => k0 x2)
 (cond (Go.Lift.inR i (List.length t.2.1))
 (cond (Go.Lift.inR i (List.length t.2.1))
 (k1 (Go.IntKind.wrap Go.IntKind.i64 ((Go.IntKind.wrap Go.IntKind.i64 (all + (((List.length (List.getD t.2.1 (Int.toNat i) (([] : List UInt8), (([] : List UInt8), ()))).1) : Nat) : Int))) + (((List.length (List.getD t.2.1 (Int.toNat i) (([] : List UInt8), (([] : List UInt8), ()))).2.1) : Nat) : Int))))
 (none))
 (none))

def zae (N : Nat) (x : z26 [(1, .box (.pair .str (.pair (.sl (.pair .str (.pair .str .unit))) (.pair .str .unit)))), (1, .v (.int .i64)), (0, .v (.int .i64))]) (K : Ex -> List A -> Option Bool) : Option Bool :=
 z5s N x.1 x.2.1 x.2.2.1 (fun a0 => (K .ret (mkS [(2, .v .bool)] 62 (a0, ())))) (fun a1 => (K .normal (mkS [(1, .box (.pair .str (.pair (.sl (.pair .str (.pair .str .unit))) (.pair .str .unit)))), (1, .v (.int .i64)), (0, .v (.int .i64))] 60 (x.1, a1, x.2.2.1, ()))))

def za8 (N : Nat) : Hd Bool := fun st K => (unS [(1, .box (.pair .str (.pair (.sl (.pair .str (.pair .str .unit))) (.pair .str .unit)))), (1, .v (.int .i64)), (0, .v (.int .i64))] 60 (restr [1, 4, 3] 0 st)).bind fun x => zae N x K

def zkk (N : Nat) : Tab Bool := [([0, 0, 0, 1, 0, 0, 1, 0, 1, 1, 1], za7 N)]

theorem zit {N : Nat} {c : Ctx} (hb : Base Go.Proofs.Tryd.prog (z15 N) c) : z11 Go.Proofs.Tryd.prog c (zj zf [0, 1, 0, 0, 1, 0, 1, 1, 1]) (za8 N) :=
  z1j (s := [(1, .box (.pair .str (.pair (.sl (.pair .str (.pair .str .unit))) (.pair .str .unit)))), (1, .v (.int .i64)), (0, .v (.int .i64))]) (m := 60) (g := zae N) [1, 4, 3] (ze hb N (zkk N) z1b zf (TabOk.cons (zis hb) TabOk.nil) [0, 1, 0, 0, 1, 0, 1, 1, 1] _ rfl) (fun x K => by kernel_rfl)

def z5p (N : Nat) (t : ((List UInt8) × ((List ((List UInt8) × ((List UInt8) × Unit))) × ((List UInt8) × Unit)))) (all : Int) (i : Int) (rec : Int -> Int -> Option Bool) (k0 : Bool -> Option Bool) (k1 : Int -> Option Bool) : Option Bool :=
 cond (decide (i < (((List.length t.2.1) : Nat) : Int)))
 (z5s N t all i
 (fun x2 => k0 x2)
 (fun all1 => rec all1 (Go.IntKind.wrap Go.IntKind.i64 (i + (1 : Int)))))
 (k1 all)

def z5t (N : Nat) (t : ((List UInt8) × ((List ((List UInt8) × ((List UInt8) × Unit))) × ((List UInt8) × Unit)))) (all : Int) (i : Int) (k0 : Bool -> Option Bool) (k1 : Int -> Option Bool) : Option Bool :=
 iter (fun (v : (Int × Int)) r => z5p N t v.1 v.2 (fun all i => (r (all, i))) k0 k1) N (all, i)

def zaf (N : Nat) (i : ((List UInt8) × ((List ((List UInt8) × ((List UInt8) × Unit))) × ((List UInt8) × Unit)))) (v : (Int × Int)) (r : (Int × Int) -> Option Bool) (K : Ex -> List A -> Option Bool) : Option Bool :=
 z5p N i v.1 v.2 (fun all i => (r (all, i))) (fun a0 => (K .ret (mkS [(2, .v .bool)] 62 (a0, ())))) (fun a0 => (K (.exit 0) (mkS [(3, .v (.int .i64))] 61 (a0, ()))))

def za9 (N : Nat) : Hd Bool := fun st K => (unS [(1, .box (.pair .str (.pair (.sl (.pair .str (.pair .str .unit))) (.pair .str .unit)))), (1, .v (.int .i64)), (0, .v (.int .i64))] 60 (restr [4, 1, 3] 0 st)).bind fun x => iter (fun v r => zaf N ((fun x => x.1) x) v r K) N ((fun x => (x.2.1, x.2.2.1)) x)

def zkl (N : Nat) : Tab Bool := [([0, 1, 0, 0, 1, 0, 1, 1, 1], za8 N)]

theorem ziu {N : Nat} {c : Ctx} (hb : Base Go.Proofs.Tryd.prog (z15 N) c) : z11 Go.Proofs.Tryd.prog c (zj zf [0, 1, 0, 1, 1, 1]) (za9 N) :=
  z5y (s := [(1, .box (.pair .str (.pair (.sl (.pair .str (.pair .str .unit))) (.pair .str .unit)))), (1, .v (.int .i64)), (0, .v (.int .i64))]) (m := 60) (zaf N) [4, 1, 3] N (fun x => x.1) (fun x => (x.2.1, x.2.2.1)) (fun i v => (i, v.1, v.2, ())) (fun _ => rfl) (ze hb N (zkl N) z1b zf (TabOk.cons (zit hb) TabOk.nil) [0, 0, 1, 0, 1, 1, 1] _ rfl) (fun i v r K => by kernel_rfl)

def z2k (N : Nat) (t : ((List UInt8) × ((List ((List UInt8) × ((List UInt8) × Unit))) × ((List UInt8) × Unit)))) : Option Bool :=
 z5v N t
 (fun x2 => some x2)
 (z5t N t (0 : Int) (0 : Int)
 (fun x21 => some x21)
 (fun all => some (decide ((20000 : Int) < all))))

def zbp (N : Nat) : Tab Bool := [([0, 1], zab N), ([0, 1, 0, 1, 1, 1], za9 N)]

theorem zhf (N : Nat) (x : z26 [(0, .v (.pair .str (.pair (.sl (.pair .str (.pair .str .unit))) (.pair .str .unit))))]) : z9l (z15 N) N (zbp N) z1b Go.Proofs.Tryd.f15 (mkS [(0, .v (.pair .str (.pair (.sl (.pair .str (.pair .str .unit))) (.pair .str .unit))))] 0 x) (z41 (.v .bool) 1) = z2k N x.1 := by kernel_rfl

def z9e (N : Nat) : List A -> Res := z1f [(0, .v (.pair .str (.pair (.sl (.pair .str (.pair .str .unit))) (.pair .str .unit))))] (fun x => z2k N x.1) (zaj (.v .bool) 1)

theorem zko (N : Nat) : Contract Go.Proofs.Tryd.prog za 15 (z9e N) :=
  Contract.of (E := z15 N) (H := zbp N) (L := z1b) (N := N) (body := zf) (K := (z41 (.v .bool) 1)) (zix N) Go.Proofs.Tryd.func15 (by kernel_rfl) (by decide) (fun _ hb => (TabOk.cons (ziw hb) (TabOk.cons (ziu hb) TabOk.nil))) (fun x y h => by rw [zhf]; exact h) (z16 (s := (.v .bool)) (m := 1))

def z19 : Code := (Go.Proofs.Tryd.f6.body).getD .skip

def z2q : List (List Nat × List Nat) := [([0], [1]), ([0, 0, 1], [12, 1]), ([1, 0, 1], [1]), ([0, 0, 1, 0, 1], [2]), ([1, 0, 1, 0, 1], [2]), ([0, 0, 1, 1], [3, 1]), ([0, 1, 0, 1, 1], [3, 1]), ([0, 0, 0, 0, 1, 0, 1, 1], [17, 1, 3]), ([1, 0, 0, 0, 1, 0, 1, 1], [1, 3]), ([1, 1, 0, 0, 0, 1, 0, 1, 1], []), ([0, 0, 0, 1, 0, 0, 1, 0, 1, 1], [25, 3, 1]), ([1, 0, 0, 1, 0, 0, 1, 0, 1, 1], [3, 1]), ([0, 0, 1, 0, 0, 1, 0, 0, 1, 0, 1, 1], [2]), ([1, 0, 1, 0, 0, 1, 0, 0, 1, 0, 1, 1], [2]), ([0, 1, 0, 0, 1, 0, 1, 1], [3, 1]), ([1, 1, 0, 0, 1, 0, 1, 1], [3, 1]), ([1, 0, 1, 1], []), ([0, 1, 1, 1], [2]), ([1, 1, 1, 1], [2])]

def z24 (N : Nat) : Env := z2n tys za [(15, z9e N)] [] [] [] false [] []

theorem zin (N : Nat) : EnvOk Go.Proofs.Tryd.prog (z24 N) := zk mixed z1a (FnsOk.cons (zko N) (FnsOk.nil)) (ItsOk.nil)

def z5n (N : Nat) (b : (((List UInt8) × ((List ((List UInt8) × ((List UInt8) × Unit))) × ((List UInt8) × Unit))) × ((List ((List UInt8) × ((List ((List UInt8) × ((List UInt8) × Unit))) × ((List UInt8) × Unit)))) × Unit))) (k0 : Bool -> Option Bool) : Option Bool :=
 cond (decide ((12 : Int) < (((List.length b.2.1) : Nat) : Int)))
 (k0 true)
 ((z2k N b.1).bind fun y =>
 k0 y)

def za3 (N : Nat) (x : z26 [(1, .box (.pair (.pair .str (.pair (.sl (.pair .str (.pair .str .unit))) (.pair .str .unit))) (.pair (.sl (.pair .str (.pair (.sl (.pair .str (.pair .str .unit))) (.pair .str .unit)))) .unit)))]) (K : Ex -> List A -> Option Bool) : Option Bool :=
 z5n N x.1 (fun a1 => (K .normal (mkS [(1, .box (.pair (.pair .str (.pair (.sl (.pair .str (.pair .str .unit))) (.pair .str .unit))) (.pair (.sl (.pair .str (.pair (.sl (.pair .str (.pair .str .unit))) (.pair .str .unit)))) .unit))), (10, .v .bool)] 13 (x.1, a1, ()))))

def za0 (N : Nat) : Hd Bool := fun st K => (unS [(1, .box (.pair (.pair .str (.pair (.sl (.pair .str (.pair .str .unit))) (.pair .str .unit))) (.pair (.sl (.pair .str (.pair (.sl (.pair .str (.pair .str .unit))) (.pair .str .unit)))) .unit)))] 24 (restr [1] 0 st)).bind fun x => za3 N x K

def zkd (N : Nat) : Tab Bool := []

theorem zil {N : Nat} {c : Ctx} (hb : Base Go.Proofs.Tryd.prog (z24 N) c) : z11 Go.Proofs.Tryd.prog c (zj z19 [0, 0, 1]) (za0 N) :=
  z1j (s := [(1, .box (.pair (.pair .str (.pair (.sl (.pair .str (.pair .str .unit))) (.pair .str .unit))) (.pair (.sl (.pair .str (.pair (.sl (.pair .str (.pair .str .unit))) (.pair .str .unit)))) .unit)))]) (m := 24) (g := za3 N) [1] (ze hb N (zkd N) z2q z19 TabOk.nil [0, 0, 1] _ rfl) (fun x K => by kernel_rfl)

def z5o (N : Nat) (b : (((List UInt8) × ((List ((List UInt8) × ((List UInt8) × Unit))) × ((List UInt8) × Unit))) × ((List ((List UInt8) × ((List ((List UInt8) × ((List UInt8) × Unit))) × ((List UInt8) × Unit)))) × Unit))) (k0 : Bool -> Option Bool) (k1 : Option Bool) : Option Bool :=
 z5n N b
 (fun x12 => cond x12
 (k0 true)
 (k1))

def za4 (N : Nat) (x : z26 [(1, .box (.pair (.pair .str (.pair (.sl (.pair .str (.pair .str .unit))) (.pair .str .unit))) (.pair (.sl (.pair .str (.pair (.sl (.pair .str (.pair .str .unit))) (.pair .str .unit)))) .unit)))]) (K : Ex -> List A -> Option Bool) : Option Bool :=
 z5o N x.1 (fun a0 => (K .ret (mkS [(2, .v .bool)] 23 (a0, ())))) (K .normal (mkS [(1, .box (.pair (.pair .str (.pair (.sl (.pair .str (.pair .str .unit))) (.pair .str .unit))) (.pair (.sl (.pair .str (.pair (.sl (.pair .str (.pair .str .unit))) (.pair .str .unit)))) .unit)))] 24 (x.1, ())))

def za1 (N : Nat) : Hd Bool := fun st K => (unS [(1, .box (.pair (.pair .str (.pair (.sl (.pair .str (.pair .str .unit))) (.pair .str .unit))) (.pair (.sl (.pair .str (.pair (.sl (.pair .str (.pair .str .unit))) (.pair .str .unit)))) .unit)))] 24 (restr [1] 0 st)).bind fun x => za4 N x K

def zke (N : Nat) : Tab Bool := [([0, 0, 1], za0 N)]

theorem zim {N : Nat} {c : Ctx} (hb : Base Go.Proofs.Tryd.prog (z24 N) c) : z11 Go.Proofs.Tryd.prog c (zj z19 [0, 1]) (za1 N) :=
  z1j (s := [(1, .box (.pair (.pair .str (.pair (.sl (.pair .str (.pair .str .unit))) (.pair .str .unit))) (.pair (.sl (.pair .str (.pair (.sl (.pair .str (.pair .str .unit))) (.pair .str .unit)))) .unit)))]) (m := 24) (g := za4 N) [1] (ze hb N (zke N) z2q z19 (TabOk.cons (zil hb) TabOk.nil) [0, 1] _ rfl) (fun x K => by kernel_rfl)

def z5m (N : Nat) (b : (((List UInt8) × ((List ((List UInt8) × ((List UInt8) × Unit))) × ((List UInt8) × Unit))) × ((List ((List UInt8) × ((List ((List UInt8) × ((List UInt8) × Unit))) × ((List UInt8) × Unit)))) × Unit))) (i : Int) (rec : Int -> Option Bool) (k0 : Bool -> Option Bool) (k1 : Option Bool) : Option Bool :=
 cond (decide (i < (((List.length b.2.1) : Nat) : Int)))
 (cond (Go.Lift.inR i (List.length b.2.1))
 ((z2k N (List.getD b.2.1 (Int.toNat i) (([] : List UInt8), (([] : List ((List UInt8) × ((List UInt8) × Unit))), (([] : List UInt8), ()))))).bind fun y =>
 cond y
 (k0 true)
 (rec (Go.IntKind.wrap Go.IntKind.i64 (i + (1 : Int)))))
 (none))
 (k1)

def z9y (N : Nat) (b : (((List UInt8) × ((List ((List UInt8) × ((List UInt8) × Unit))) × ((List UInt8) × Unit))) × ((List ((List UInt8) × ((List ((List UInt8) × ((List UInt8) × Unit))) × ((List UInt8) × Unit)))) × Unit))) (i : Int) (k0 : Bool -> Option Bool) (k1 : Option Bool) : Option Bool :=
 iter (fun (v : Int) r => z5m N b v (fun i => (r i)) k0 k1) N i

def za2 (N : Nat) (i : (((List UInt8) × ((List ((List UInt8) × ((List UInt8) × Unit))) × ((List UInt8) × Unit))) × ((List ((List UInt8) × ((List ((List UInt8) × ((List UInt8) × Unit))) × ((List UInt8) × Unit)))) × Unit))) (v : Int) (r : Int -> Option Bool) (K : Ex -> List A -> Option Bool) : Option Bool :=
 z5m N i v (fun i => (r i)) (fun a0 => (K .ret (mkS [(2, .v .bool)] 23 (a0, ())))) (K (.exit 0) (mkS [] 26 ()))

def z9z (N : Nat) : Hd Bool := fun st K => (unS [(1, .box (.pair (.pair .str (.pair (.sl (.pair .str (.pair .str .unit))) (.pair .str .unit))) (.pair (.sl (.pair .str (.pair (.sl (.pair .str (.pair .str .unit))) (.pair .str .unit)))) .unit))), (1, .v (.int .i64))] 22 (restr [3, 1] 0 st)).bind fun x => iter (fun v r => za2 N ((fun x => x.1) x) v r K) N ((fun x => x.2.1) x)

def zkc (N : Nat) : Tab Bool := []

theorem zik {N : Nat} {c : Ctx} (hb : Base Go.Proofs.Tryd.prog (z24 N) c) : z11 Go.Proofs.Tryd.prog c (zj z19 [0, 1, 0, 1, 1]) (z9z N) :=
  z5y (s := [(1, .box (.pair (.pair .str (.pair (.sl (.pair .str (.pair .str .unit))) (.pair .str .unit))) (.pair (.sl (.pair .str (.pair (.sl (.pair .str (.pair .str .unit))) (.pair .str .unit)))) .unit))), (1, .v (.int .i64))]) (m := 22) (za2 N) [3, 1] N (fun x => x.1) (fun x => x.2.1) (fun i v => (i, v, ())) (fun _ => rfl) (ze hb N (zkc N) z2q z19 TabOk.nil [0, 0, 1, 0, 1, 1] _ rfl) (fun i v r K => by kernel_rfl)

def z39 (N : Nat) (b : (((List UInt8) × ((List ((List UInt8) × ((List UInt8) × Unit))) × ((List UInt8) × Unit))) × ((List ((List UInt8) × ((List ((List UInt8) × ((List UInt8) × Unit))) × ((List UInt8) × Unit)))) × Unit))) : Option Bool :=
 z5o N b
 (fun x2 => some x2)
 (z9y N b (0 : Int)
 (fun x21 => some x21)
 (some false))

def zbn (N : Nat) : Tab Bool := [([0, 1], za1 N), ([0, 1, 0, 1, 1], z9z N)]

theorem zhe (N : Nat) (x : z26 [(0, .v (.pair (.pair .str (.pair (.sl (.pair .str (.pair .str .unit))) (.pair .str .unit))) (.pair (.sl (.pair .str (.pair (.sl (.pair .str (.pair .str .unit))) (.pair .str .unit)))) .unit)))]) : z9l (z24 N) N (zbn N) z2q Go.Proofs.Tryd.f6 (mkS [(0, .v (.pair (.pair .str (.pair (.sl (.pair .str (.pair .str .unit))) (.pair .str .unit))) (.pair (.sl (.pair .str (.pair (.sl (.pair .str (.pair .str .unit))) (.pair .str .unit)))) .unit)))] 0 x) (z41 (.v .bool) 1) = z39 N x.1 := by kernel_rfl

def z9d (N : Nat) : List A -> Res := z1f [(0, .v (.pair (.pair .str (.pair (.sl (.pair .str (.pair .str .unit))) (.pair .str .unit))) (.pair (.sl (.pair .str (.pair (.sl (.pair .str (.pair .str .unit))) (.pair .str .unit)))) .unit)))] (fun x => z39 N x.1) (zaj (.v .bool) 1)

theorem zkf (N : Nat) : Contract Go.Proofs.Tryd.prog za 6 (z9d N) :=
  Contract.of (E := z24 N) (H := zbn N) (L := z2q) (N := N) (body := z19) (K := (z41 (.v .bool) 1)) (zin N) Go.Proofs.Tryd.func6 (by kernel_rfl) (by decide) (fun _ hb => (TabOk.cons (zim hb) (TabOk.cons (zik hb) TabOk.nil))) (fun x y h => by rw [zhe]; exact h) (z16 (s := (.v .bool)) (m := 1))

def zz : Code := (Go.Proofs.Tryd.f29.body).getD .skip

def z22 : List (List Nat × List Nat) := [([0], [2, 3]), ([0, 0, 1], [26, 2, 3]), ([1, 0, 1], [2, 3]), ([0, 0, 1, 0, 1], [4]), ([1, 0, 1, 0, 1], [4]), ([0, 0, 1, 1], [5, 2, 3]), ([0, 1, 0, 1, 1], [5, 2, 3]), ([0, 0, 0, 0, 1, 0, 1, 1], [31, 2, 5, 3]), ([1, 0, 0, 0, 1, 0, 1, 1], [2, 5, 3]), ([1, 1, 0, 0, 0, 1, 0, 1, 1], []), ([0, 0, 0, 1, 0, 0, 1, 0, 1, 1], [44, 5, 2, 3]), ([1, 0, 0, 1, 0, 0, 1, 0, 1, 1], [5, 2, 3]), ([0, 0, 1, 0, 0, 1, 0, 0, 1, 0, 1, 1], [4]), ([1, 0, 1, 0, 0, 1, 0, 0, 1, 0, 1, 1], [4]), ([0, 1, 0, 0, 1, 0, 1, 1], [5, 2, 3]), ([1, 1, 0, 0, 1, 0, 1, 1], [5, 2, 3]), ([1, 0, 1, 1], []), ([0, 1, 1, 1], [4]), ([1, 1, 1, 1], [4])]

def z1m (N : Nat) : Env := z2n tys za [] [] [] [] false [] []

theorem zfd (N : Nat) : EnvOk Go.Proofs.Tryd.prog (z1m N) := zk mixed z1a (FnsOk.nil) (ItsOk.nil)

def z3t (N : Nat) (a : ((List UInt8) × ((List ((List UInt8) × ((List UInt8) × Unit))) × ((List UInt8) × Unit)))) (b : ((List UInt8) × ((List ((List UInt8) × ((List UInt8) × Unit))) × ((List UInt8) × Unit)))) (k0 : Bool -> Option Bool) : Option Bool :=
 cond (!(a.1 == b.1))
 (k0 true)
 (cond (!(a.2.2.1 == b.2.2.1))
 (k0 true)
 (k0 ((((List.length a.2.1) : Nat) : Int) != (((List.length b.2.1) : Nat) : Int))))

def z7t (N : Nat) (x : z26 [(2, .box (.pair .str (.pair (.sl (.pair .str (.pair .str .unit))) (.pair .str .unit)))), (0, .box (.pair .str (.pair (.sl (.pair .str (.pair .str .unit))) (.pair .str .unit))))]) (K : Ex -> List A -> Option Bool) : Option Bool :=
 z3t N x.1 x.2.1 (fun a2 => (K .normal (mkS [(2, .box (.pair .str (.pair (.sl (.pair .str (.pair .str .unit))) (.pair .str .unit)))), (0, .box (.pair .str (.pair (.sl (.pair .str (.pair .str .unit))) (.pair .str .unit)))), (22, .v .bool)] 18 (x.1, x.2.1, a2, ()))))

def z7q (N : Nat) : Hd Bool := fun st K => (unS [(2, .box (.pair .str (.pair (.sl (.pair .str (.pair .str .unit))) (.pair .str .unit)))), (0, .box (.pair .str (.pair (.sl (.pair .str (.pair .str .unit))) (.pair .str .unit))))] 41 (restr [2, 3] 0 st)).bind fun x => z7t N x K

def zgl (N : Nat) : Tab Bool := []

theorem zfb {N : Nat} {c : Ctx} (hb : Base Go.Proofs.Tryd.prog (z1m N) c) : z11 Go.Proofs.Tryd.prog c (zj zz [0, 0, 1]) (z7q N) :=
  z1j (s := [(2, .box (.pair .str (.pair (.sl (.pair .str (.pair .str .unit))) (.pair .str .unit)))), (0, .box (.pair .str (.pair (.sl (.pair .str (.pair .str .unit))) (.pair .str .unit))))]) (m := 41) (g := z7t N) [2, 3] (ze hb N (zgl N) z22 zz TabOk.nil [0, 0, 1] _ rfl) (fun x K => by kernel_rfl)

def z3u (N : Nat) (a : ((List UInt8) × ((List ((List UInt8) × ((List UInt8) × Unit))) × ((List UInt8) × Unit)))) (b : ((List UInt8) × ((List ((List UInt8) × ((List UInt8) × Unit))) × ((List UInt8) × Unit)))) (k0 : Bool -> Option Bool) (k1 : Option Bool) : Option Bool :=
 z3t N a b
 (fun x26 => cond x26
 (k0 false)
 (k1))

def z7u (N : Nat) (x : z26 [(2, .box (.pair .str (.pair (.sl (.pair .str (.pair .str .unit))) (.pair .str .unit)))), (0, .box (.pair .str (.pair (.sl (.pair .str (.pair .str .unit))) (.pair .str .unit))))]) (K : Ex -> List A -> Option Bool) : Option Bool :=
 z3u N x.1 x.2.1 (fun a0 => (K .ret (mkS [(4, .v .bool)] 40 (a0, ())))) (K .normal (mkS [(2, .box (.pair .str (.pair (.sl (.pair .str (.pair .str .unit))) (.pair .str .unit)))), (0, .box (.pair .str (.pair (.sl (.pair .str (.pair .str .unit))) (.pair .str .unit))))] 41 (x.1, x.2.1, ())))

def z7r (N : Nat) : Hd Bool := fun st K => (unS [(2, .box (.pair .str (.pair (.sl (.pair .str (.pair .str .unit))) (.pair .str .unit)))), (0, .box (.pair .str (.pair (.sl (.pair .str (.pair .str .unit))) (.pair .str .unit))))] 41 (restr [2, 3] 0 st)).bind fun x => z7u N x K

def zgm (N : Nat) : Tab Bool := [([0, 0, 1], z7q N)]

theorem zfc {N : Nat} {c : Ctx} (hb : Base Go.Proofs.Tryd.prog (z1m N) c) : z11 Go.Proofs.Tryd.prog c (zj zz [0, 1]) (z7r N) :=
  z1j (s := [(2, .box (.pair .str (.pair (.sl (.pair .str (.pair .str .unit))) (.pair .str .unit)))), (0, .box (.pair .str (.pair (.sl (.pair .str (.pair .str .unit))) (.pair .str .unit))))]) (m := 41) (g := z7u N) [2, 3] (ze hb N (zgm N) z22 zz (TabOk.cons (zfb hb) TabOk.nil) [0, 1] _ rfl) (fun x K => by kernel_rfl)

def z3s (N : Nat) (a : ((List UInt8) × ((List ((List UInt8) × ((List UInt8) × Unit))) × ((List UInt8) × Unit)))) (b : ((List UInt8) × ((List ((List UInt8) × ((List UInt8) × Unit))) × ((List UInt8) × Unit)))) (i : Int) (rec : Int -> Option Bool) (k0 : Bool -> Option Bool) (k1 : Option Bool) : Option Bool :=
 cond (decide (i < (((List.length a.2.1) : Nat) : Int)))
 (cond (Go.Lift.inR i (List.length a.2.1))
 (cond (Go.Lift.inR i (List.length b.2.1))
 (cond (!(Go.Lift.eqD (Go.Lift.unT (Go.Lift.T.pair Go.Lift.T.str (Go.Lift.T.pair Go.Lift.T.str Go.Lift.T.unit))) (List.getD a.2.1 (Int.toNat i) (([] : List UInt8), (([] : List UInt8), ()))) (List.getD b.2.1 (Int.toNat i) (([] : List UInt8), (([] : List UInt8), ())))))
 (k0 false)
 (rec (Go.IntKind.wrap Go.IntKind.i64 (i + (1 : Int)))))
 (none))
 (none))
 (k1)

def z7o (N : Nat) (a : ((List UInt8) × ((List ((List UInt8) × ((List UInt8) × Unit))) × ((List UInt8) × Unit)))) (b : ((List UInt8) × ((List ((List UInt8) × ((List UInt8) × Unit))) × ((List UInt8) × Unit)))) (i : Int) (k0 : Bool -> Option Bool) (k1 : Option Bool) : Option Bool :=
 iter (fun (v : Int) r => z3s N a b v (fun i => (r i)) k0 k1) N i

def z7s (N : Nat) (i : (((List UInt8) × ((List ((List UInt8) × ((List UInt8) × Unit))) × ((List UInt8) × Unit))) × ((List UInt8) × ((List ((List UInt8) × ((List UInt8) × Unit))) × ((List UInt8) × Unit))))) (v : Int) (r : Int -> Option Bool) (K : Ex -> List A -> Option Bool) : Option Bool :=
 z3s N i.1 i.2 v (fun i => (r i)) (fun a0 => (K .ret (mkS [(4, .v .bool)] 40 (a0, ())))) (K (.exit 0) (mkS [] 45 ()))

def z7p (N : Nat) : Hd Bool := fun st K => (unS [(2, .box (.pair .str (.pair (.sl (.pair .str (.pair .str .unit))) (.pair .str .unit)))), (0, .box (.pair .str (.pair (.sl (.pair .str (.pair .str .unit))) (.pair .str .unit)))), (1, .v (.int .i64))] 39 (restr [5, 2, 3] 0 st)).bind fun x => iter (fun v r => z7s N ((fun x => (x.1, x.2.1)) x) v r K) N ((fun x => x.2.2.1) x)

def zgk (N : Nat) : Tab Bool := []

theorem zfa {N : Nat} {c : Ctx} (hb : Base Go.Proofs.Tryd.prog (z1m N) c) : z11 Go.Proofs.Tryd.prog c (zj zz [0, 1, 0, 1, 1]) (z7p N) :=
  z5y (s := [(2, .box (.pair .str (.pair (.sl (.pair .str (.pair .str .unit))) (.pair .str .unit)))), (0, .box (.pair .str (.pair (.sl (.pair .str (.pair .str .unit))) (.pair .str .unit)))), (1, .v (.int .i64))]) (m := 39) (z7s N) [5, 2, 3] N (fun x => (x.1, x.2.1)) (fun x => x.2.2.1) (fun i v => (i.1, i.2, v, ())) (fun _ => rfl) (ze hb N (zgk N) z22 zz TabOk.nil [0, 0, 1, 0, 1, 1] _ rfl) (fun i v r K => by kernel_rfl)

def z1x (N : Nat) (a : ((List UInt8) × ((List ((List UInt8) × ((List UInt8) × Unit))) × ((List UInt8) × Unit)))) (b : ((List UInt8) × ((List ((List UInt8) × ((List UInt8) × Unit))) × ((List UInt8) × Unit)))) : Option Bool :=
 z3u N a b
 (fun x4 => some x4)
 (z7o N a b (0 : Int)
 (fun x41 => some x41)
 (some true))

def z8j (N : Nat) : Tab Bool := [([0, 1], z7r N), ([0, 1, 0, 1, 1], z7p N)]

theorem ze6 (N : Nat) (x : z26 [(0, .v (.pair .str (.pair (.sl (.pair .str (.pair .str .unit))) (.pair .str .unit)))), (0, .v (.pair .str (.pair (.sl (.pair .str (.pair .str .unit))) (.pair .str .unit))))]) : z9l (z1m N) N (z8j N) z22 Go.Proofs.Tryd.f29 (mkS [(0, .v (.pair .str (.pair (.sl (.pair .str (.pair .str .unit))) (.pair .str .unit)))), (0, .v (.pair .str (.pair (.sl (.pair .str (.pair .str .unit))) (.pair .str .unit))))] 0 x) (z41 (.v .bool) 2) = z1x N x.1 x.2.1 := by kernel_rfl

def z6s (N : Nat) : List A -> Res := z1f [(0, .v (.pair .str (.pair (.sl (.pair .str (.pair .str .unit))) (.pair .str .unit)))), (0, .v (.pair .str (.pair (.sl (.pair .str (.pair .str .unit))) (.pair .str .unit))))] (fun x => z1x N x.1 x.2.1) (zaj (.v .bool) 2)

theorem zgn (N : Nat) : Contract Go.Proofs.Tryd.prog za 29 (z6s N) :=
  Contract.of (E := z1m N) (H := z8j N) (L := z22) (N := N) (body := zz) (K := (z41 (.v .bool) 2)) (zfd N) Go.Proofs.Tryd.func29 (by kernel_rfl) (by decide) (fun _ hb => (TabOk.cons (zfc hb) (TabOk.cons (zfa hb) TabOk.nil))) (fun x y h => by rw [ze6]; exact h) (z16 (s := (.v .bool)) (m := 2))

def zu : Code := (Go.Proofs.Tryd.f14.body).getD .skip

def z1v : List (List Nat × List Nat) := [([0], [2, 3]), ([0, 0, 1], [20, 2, 3]), ([1, 0, 1], [2, 3]), ([0, 0, 1, 0, 1], [4]), ([1, 0, 1, 0, 1], [4]), ([0, 0, 1, 1], [5, 2, 3]), ([0, 1, 0, 1, 1], [5, 2, 3]), ([0, 0, 0, 0, 1, 0, 1, 1], [25, 2, 5, 3]), ([1, 0, 0, 0, 1, 0, 1, 1], [2, 5, 3]), ([1, 1, 0, 0, 0, 1, 0, 1, 1], []), ([0, 0, 0, 1, 0, 0, 1, 0, 1, 1], [39, 5, 2, 3]), ([1, 0, 0, 1, 0, 0, 1, 0, 1, 1], [5, 2, 3]), ([0, 0, 1, 0, 0, 1, 0, 0, 1, 0, 1, 1], [4]), ([1, 0, 1, 0, 0, 1, 0, 0, 1, 0, 1, 1], [4]), ([0, 1, 0, 0, 1, 0, 1, 1], [5, 2, 3]), ([1, 1, 0, 0, 1, 0, 1, 1], [5, 2, 3]), ([1, 0, 1, 1], []), ([0, 1, 1, 1], [4]), ([1, 1, 1, 1], [4])]

def z1g (N : Nat) : Env := z2n tys za [(29, z6s N)] [] [] [] false [] []

theorem zea (N : Nat) : EnvOk Go.Proofs.Tryd.prog (z1g N) := zk mixed z1a (FnsOk.cons (zgn N) (FnsOk.nil)) (ItsOk.nil)

def z3d (N : Nat) (a : (((List UInt8) × ((List ((List UInt8) × ((List UInt8) × Unit))) × ((List UInt8) × Unit))) × ((List ((List UInt8) × ((List ((List UInt8) × ((List UInt8) × Unit))) × ((List UInt8) × Unit)))) × Unit))) (b : (((List UInt8) × ((List ((List UInt8) × ((List UInt8) × Unit))) × ((List UInt8) × Unit))) × ((List ((List UInt8) × ((List ((List UInt8) × ((List UInt8) × Unit))) × ((List UInt8) × Unit)))) × Unit))) (k0 : Bool -> Option Bool) : Option Bool :=
 (z1x N a.1 b.1).bind fun y =>
 cond (!y)
 (k0 true)
 (k0 ((((List.length a.2.1) : Nat) : Int) != (((List.length b.2.1) : Nat) : Int)))

def z6y (N : Nat) (x : z26 [(2, .box (.pair (.pair .str (.pair (.sl (.pair .str (.pair .str .unit))) (.pair .str .unit))) (.pair (.sl (.pair .str (.pair (.sl (.pair .str (.pair .str .unit))) (.pair .str .unit)))) .unit))), (0, .box (.pair (.pair .str (.pair (.sl (.pair .str (.pair .str .unit))) (.pair .str .unit))) (.pair (.sl (.pair .str (.pair (.sl (.pair .str (.pair .str .unit))) (.pair .str .unit)))) .unit)))]) (K : Ex -> List A -> Option Bool) : Option Bool :=
 z3d N x.1 x.2.1 (fun a2 => (K .normal (mkS [(2, .box (.pair (.pair .str (.pair (.sl (.pair .str (.pair .str .unit))) (.pair .str .unit))) (.pair (.sl (.pair .str (.pair (.sl (.pair .str (.pair .str .unit))) (.pair .str .unit)))) .unit))), (0, .box (.pair (.pair .str (.pair (.sl (.pair .str (.pair .str .unit))) (.pair .str .unit))) (.pair (.sl (.pair .str (.pair (.sl (.pair .str (.pair .str .unit))) (.pair .str .unit)))) .unit))), (16, .v .bool)] 19 (x.1, x.2.1, a2, ()))))

def z6v (N : Nat) : Hd Bool := fun st K => (unS [(2, .box (.pair (.pair .str (.pair (.sl (.pair .str (.pair .str .unit))) (.pair .str .unit))) (.pair (.sl (.pair .str (.pair (.sl (.pair .str (.pair .str .unit))) (.pair .str .unit)))) .unit))), (0, .box (.pair (.pair .str (.pair (.sl (.pair .str (.pair .str .unit))) (.pair .str .unit))) (.pair (.sl (.pair .str (.pair (.sl (.pair .str (.pair .str .unit))) (.pair .str .unit)))) .unit)))] 36 (restr [2, 3] 0 st)).bind fun x => z6y N x K

def zff (N : Nat) : Tab Bool := []

theorem ze8 {N : Nat} {c : Ctx} (hb : Base Go.Proofs.Tryd.prog (z1g N) c) : z11 Go.Proofs.Tryd.prog c (zj zu [0, 0, 1]) (z6v N) :=
  z1j (s := [(2, .box (.pair (.pair .str (.pair (.sl (.pair .str (.pair .str .unit))) (.pair .str .unit))) (.pair (.sl (.pair .str (.pair (.sl (.pair .str (.pair .str .unit))) (.pair .str .unit)))) .unit))), (0, .box (.pair (.pair .str (.pair (.sl (.pair .str (.pair .str .unit))) (.pair .str .unit))) (.pair (.sl (.pair .str (.pair (.sl (.pair .str (.pair .str .unit))) (.pair .str .unit)))) .unit)))]) (m := 36) (g := z6y N) [2, 3] (ze hb N (zff N) z1v zu TabOk.nil [0, 0, 1] _ rfl) (fun x K => by kernel_rfl)

def z3e (N : Nat) (a : (((List UInt8) × ((List ((List UInt8) × ((List UInt8) × Unit))) × ((List UInt8) × Unit))) × ((List ((List UInt8) × ((List ((List UInt8) × ((List UInt8) × Unit))) × ((List UInt8) × Unit)))) × Unit))) (b : (((List UInt8) × ((List ((List UInt8) × ((List UInt8) × Unit))) × ((List UInt8) × Unit))) × ((List ((List UInt8) × ((List ((List UInt8) × ((List UInt8) × Unit))) × ((List UInt8) × Unit)))) × Unit))) (k0 : Bool -> Option Bool) (k1 : Option Bool) : Option Bool :=
 z3d N a b
 (fun x20 => cond x20
 (k0 false)
 (k1))

def z6z (N : Nat) (x : z26 [(2, .box (.pair (.pair .str (.pair (.sl (.pair .str (.pair .str .unit))) (.pair .str .unit))) (.pair (.sl (.pair .str (.pair (.sl (.pair .str (.pair .str .unit))) (.pair .str .unit)))) .unit))), (0, .box (.pair (.pair .str (.pair (.sl (.pair .str (.pair .str .unit))) (.pair .str .unit))) (.pair (.sl (.pair .str (.pair (.sl (.pair .str (.pair .str .unit))) (.pair .str .unit)))) .unit)))]) (K : Ex -> List A -> Option Bool) : Option Bool :=
 z3e N x.1 x.2.1 (fun a0 => (K .ret (mkS [(4, .v .bool)] 35 (a0, ())))) (K .normal (mkS [(2, .box (.pair (.pair .str (.pair (.sl (.pair .str (.pair .str .unit))) (.pair .str .unit))) (.pair (.sl (.pair .str (.pair (.sl (.pair .str (.pair .str .unit))) (.pair .str .unit)))) .unit))), (0, .box (.pair (.pair .str (.pair (.sl (.pair .str (.pair .str .unit))) (.pair .str .unit))) (.pair (.sl (.pair .str (.pair (.sl (.pair .str (.pair .str .unit))) (.pair .str .unit)))) .unit)))] 36 (x.1, x.2.1, ())))

def z6w (N : Nat) : Hd Bool := fun st K => (unS [(2, .box (.pair (.pair .str (.pair (.sl (.pair .str (.pair .str .unit))) (.pair .str .unit))) (.pair (.sl (.pair .str (.pair (.sl (.pair .str (.pair .str .unit))) (.pair .str .unit)))) .unit))), (0, .box (.pair (.pair .str (.pair (.sl (.pair .str (.pair .str .unit))) (.pair .str .unit))) (.pair (.sl (.pair .str (.pair (.sl (.pair .str (.pair .str .unit))) (.pair .str .unit)))) .unit)))] 36 (restr [2, 3] 0 st)).bind fun x => z6z N x K

def zfg (N : Nat) : Tab Bool := [([0, 0, 1], z6v N)]

theorem ze9 {N : Nat} {c : Ctx} (hb : Base Go.Proofs.Tryd.prog (z1g N) c) : z11 Go.Proofs.Tryd.prog c (zj zu [0, 1]) (z6w N) :=
  z1j (s := [(2, .box (.pair (.pair .str (.pair (.sl (.pair .str (.pair .str .unit))) (.pair .str .unit))) (.pair (.sl (.pair .str (.pair (.sl (.pair .str (.pair .str .unit))) (.pair .str .unit)))) .unit))), (0, .box (.pair (.pair .str (.pair (.sl (.pair .str (.pair .str .unit))) (.pair .str .unit))) (.pair (.sl (.pair .str (.pair (.sl (.pair .str (.pair .str .unit))) (.pair .str .unit)))) .unit)))]) (m := 36) (g := z6z N) [2, 3] (ze hb N (zfg N) z1v zu (TabOk.cons (ze8 hb) TabOk.nil) [0, 1] _ rfl) (fun x K => by kernel_rfl)

def z3c (N : Nat) (a : (((List UInt8) × ((List ((List UInt8) × ((List UInt8) × Unit))) × ((List UInt8) × Unit))) × ((List ((List UInt8) × ((List ((List UInt8) × ((List UInt8) × Unit))) × ((List UInt8) × Unit)))) × Unit))) (b : (((List UInt8) × ((List ((List UInt8) × ((List UInt8) × Unit))) × ((List UInt8) × Unit))) × ((List ((List UInt8) × ((List ((List UInt8) × ((List UInt8) × Unit))) × ((List UInt8) × Unit)))) × Unit))) (i : Int) (rec : Int -> Option Bool) (k0 : Bool -> Option Bool) (k1 : Option Bool) : Option Bool :=
 cond (decide (i < (((List.length a.2.1) : Nat) : Int)))
 (cond (Go.Lift.inR i (List.length a.2.1))
 (cond (Go.Lift.inR i (List.length b.2.1))
 ((z1x N (List.getD a.2.1 (Int.toNat i) (([] : List UInt8), (([] : List ((List UInt8) × ((List UInt8) × Unit))), (([] : List UInt8), ())))) (List.getD b.2.1 (Int.toNat i) (([] : List UInt8), (([] : List ((List UInt8) × ((List UInt8) × Unit))), (([] : List UInt8), ()))))).bind fun y =>
 cond (!y)
 (k0 false)
 (rec (Go.IntKind.wrap Go.IntKind.i64 (i + (1 : Int)))))
 (none))
 (none))
 (k1)

def z6t (N : Nat) (a : (((List UInt8) × ((List ((List UInt8) × ((List UInt8) × Unit))) × ((List UInt8) × Unit))) × ((List ((List UInt8) × ((List ((List UInt8) × ((List UInt8) × Unit))) × ((List UInt8) × Unit)))) × Unit))) (b : (((List UInt8) × ((List ((List UInt8) × ((List UInt8) × Unit))) × ((List UInt8) × Unit))) × ((List ((List UInt8) × ((List ((List UInt8) × ((List UInt8) × Unit))) × ((List UInt8) × Unit)))) × Unit))) (i : Int) (k0 : Bool -> Option Bool) (k1 : Option Bool) : Option Bool :=
 iter (fun (v : Int) r => z3c N a b v (fun i => (r i)) k0 k1) N i

def z6x (N : Nat) (i : ((((List UInt8) × ((List ((List UInt8) × ((List UInt8) × Unit))) × ((List UInt8) × Unit))) × ((List ((List UInt8) × ((List ((List UInt8) × ((List UInt8) × Unit))) × ((List UInt8) × Unit)))) × Unit)) × (((List UInt8) × ((List ((List UInt8) × ((List UInt8) × Unit))) × ((List UInt8) × Unit))) × ((List ((List UInt8) × ((List ((List UInt8) × ((List UInt8) × Unit))) × ((List UInt8) × Unit)))) × Unit)))) (v : Int) (r : Int -> Option Bool) (K : Ex -> List A -> Option Bool) : Option Bool :=
 z3c N i.1 i.2 v (fun i => (r i)) (fun a0 => (K .ret (mkS [(4, .v .bool)] 35 (a0, ())))) (K (.exit 0) (mkS [] 40 ()))

def z6u (N : Nat) : Hd Bool := fun st K => (unS [(2, .box (.pair (.pair .str (.pair (.sl (.pair .str (.pair .str .unit))) (.pair .str .unit))) (.pair (.sl (.pair .str (.pair (.sl (.pair .str (.pair .str .unit))) (.pair .str .unit)))) .unit))), (0, .box (.pair (.pair .str (.pair (.sl (.pair .str (.pair .str .unit))) (.pair .str .unit))) (.pair (.sl (.pair .str (.pair (.sl (.pair .str (.pair .str .unit))) (.pair .str .unit)))) .unit))), (1, .v (.int .i64))] 34 (restr [5, 2, 3] 0 st)).bind fun x => iter (fun v r => z6x N ((fun x => (x.1, x.2.1)) x) v r K) N ((fun x => x.2.2.1) x)

def zfe (N : Nat) : Tab Bool := []

theorem ze7 {N : Nat} {c : Ctx} (hb : Base Go.Proofs.Tryd.prog (z1g N) c) : z11 Go.Proofs.Tryd.prog c (zj zu [0, 1, 0, 1, 1]) (z6u N) :=
  z5y (s := [(2, .box (.pair (.pair .str (.pair (.sl (.pair .str (.pair .str .unit))) (.pair .str .unit))) (.pair (.sl (.pair .str (.pair (.sl (.pair .str (.pair .str .unit))) (.pair .str .unit)))) .unit))), (0, .box (.pair (.pair .str (.pair (.sl (.pair .str (.pair .str .unit))) (.pair .str .unit))) (.pair (.sl (.pair .str (.pair (.sl (.pair .str (.pair .str .unit))) (.pair .str .unit)))) .unit))), (1, .v (.int .i64))]) (m := 34) (z6x N) [5, 2, 3] N (fun x => (x.1, x.2.1)) (fun x => x.2.2.1) (fun i v => (i.1, i.2, v, ())) (fun _ => rfl) (ze hb N (zfe N) z1v zu TabOk.nil [0, 0, 1, 0, 1, 1] _ rfl) (fun i v r K => by kernel_rfl)

def z29 (N : Nat) (a : (((List UInt8) × ((List ((List UInt8) × ((List UInt8) × Unit))) × ((List UInt8) × Unit))) × ((List ((List UInt8) × ((List ((List UInt8) × ((List UInt8) × Unit))) × ((List UInt8) × Unit)))) × Unit))) (b : (((List UInt8) × ((List ((List UInt8) × ((List UInt8) × Unit))) × ((List UInt8) × Unit))) × ((List ((List UInt8) × ((List ((List UInt8) × ((List UInt8) × Unit))) × ((List UInt8) × Unit)))) × Unit))) : Option Bool :=
 z3e N a b
 (fun x4 => some x4)
 (z6t N a b (0 : Int)
 (fun x41 => some x41)
 (some true))

def z7v (N : Nat) : Tab Bool := [([0, 1], z6w N), ([0, 1, 0, 1, 1], z6u N)]

theorem zco (N : Nat) (x : z26 [(0, .v (.pair (.pair .str (.pair (.sl (.pair .str (.pair .str .unit))) (.pair .str .unit))) (.pair (.sl (.pair .str (.pair (.sl (.pair .str (.pair .str .unit))) (.pair .str .unit)))) .unit))), (0, .v (.pair (.pair .str (.pair (.sl (.pair .str (.pair .str .unit))) (.pair .str .unit))) (.pair (.sl (.pair .str (.pair (.sl (.pair .str (.pair .str .unit))) (.pair .str .unit)))) .unit)))]) : z9l (z1g N) N (z7v N) z1v Go.Proofs.Tryd.f14 (mkS [(0, .v (.pair (.pair .str (.pair (.sl (.pair .str (.pair .str .unit))) (.pair .str .unit))) (.pair (.sl (.pair .str (.pair (.sl (.pair .str (.pair .str .unit))) (.pair .str .unit)))) .unit))), (0, .v (.pair (.pair .str (.pair (.sl (.pair .str (.pair .str .unit))) (.pair .str .unit))) (.pair (.sl (.pair .str (.pair (.sl (.pair .str (.pair .str .unit))) (.pair .str .unit)))) .unit)))] 0 x) (z41 (.v .bool) 2) = z29 N x.1 x.2.1 := by kernel_rfl

def z67 (N : Nat) : List A -> Res := z1f [(0, .v (.pair (.pair .str (.pair (.sl (.pair .str (.pair .str .unit))) (.pair .str .unit))) (.pair (.sl (.pair .str (.pair (.sl (.pair .str (.pair .str .unit))) (.pair .str .unit)))) .unit))), (0, .v (.pair (.pair .str (.pair (.sl (.pair .str (.pair .str .unit))) (.pair .str .unit))) (.pair (.sl (.pair .str (.pair (.sl (.pair .str (.pair .str .unit))) (.pair .str .unit)))) .unit)))] (fun x => z29 N x.1 x.2.1) (zaj (.v .bool) 2)

theorem zfh (N : Nat) : Contract Go.Proofs.Tryd.prog za 14 (z67 N) :=
  Contract.of (E := z1g N) (H := z7v N) (L := z1v) (N := N) (body := zu) (K := (z41 (.v .bool) 2)) (zea N) Go.Proofs.Tryd.func14 (by kernel_rfl) (by decide) (fun _ hb => (TabOk.cons (ze9 hb) (TabOk.cons (ze7 hb) TabOk.nil))) (fun x y h => by rw [zco]; exact h) (z16 (s := (.v .bool)) (m := 2))

def glob : Nat -> Option Dat := lk [(0, ⟨.opq, Value.iface 123 (.agg #[.pointer (some ⟨1, 70, none⟩)])⟩)]

open Go.RowKit Go.Extern.Stop Go.Stop Go.Extern

theorem z1cf (t : Value) (w : World) :
    Calls Tryd.prog 68 #[.nilIface, t] w fun e w' => e = .returned (.bool false) /\ w' = w := by
  go_enter Tryd.func68, Tryd.ntmps68
  go_wp2
  go_ret
  exact ⟨rfl, rfl⟩

theorem zzs (t : Addr) (w : World) : (ReflectliteValue.unpack (.iface 106 (.pointer (some t)))).run Tryd.prog w
    = .ok (.agg #[.pointer (some ⟨1, 106, none⟩), .pointer (some ⟨w.heap.size, 0, none⟩), .int .u64 150]) (w.alloc (.cells #[.pointer (some t)] 106)) := by kernel_rfl

theorem z18q (a : Addr) (w : World) : (ReflectliteValue.methodAny (ReflectliteValue.valueError "reflectlite.Value.Type" 0) (fun t _ _ _ => ReflectliteType.toType t) #[.agg #[.pointer (some ⟨1, 106, none⟩), .pointer (some a), .int .u64 150]]).run Tryd.prog w
    = .ok (.iface 123 (.agg #[.pointer (some ⟨1, 106, none⟩)])) w := by kernel_rfl

theorem zw6 (h : Value) (w : World) : (Go.method 263 123 (.agg #[h]) "Kind").run Tryd.prog w = .ok (95, h) w := by kernel_rfl

theorem z18r (w : World) : ((ReflectliteType.abiMethod fun t => (fun a : Nat => Value.int IntKind.u8 (a : Int)) <$> Rtype.kind t) #[.pointer (some ⟨1, 106, none⟩)]).run Tryd.prog w = .ok (.int .u8 22) w := by kernel_rfl

theorem z18s (w : World) : ((ReflectliteType.abiMethod fun t => (fun a : Nat => Value.int IntKind.u8 (a : Int)) <$> Rtype.kind t) #[.pointer (some ⟨1, 104, none⟩)]).run Tryd.prog w = .ok (.int .u8 25) w := by kernel_rfl

theorem z19l (z : Sem Value) (f : TypeId -> Addr -> Nat -> Nat -> Sem Value) (v : Value) :
    ReflectliteValue.method z f #[v] = (do match <- ReflectliteValue.parts v with | none => z | some (t, a, fl) => f t a fl (fl % 32)) := rfl

theorem zy7 (a : Addr) (w : World) : (ReflectliteValue.parts (.agg #[.pointer (some ⟨1, 106, none⟩), .pointer (some a), .int .u64 150])).run Tryd.prog w = .ok (some (106, a, 150)) w := by kernel_rfl

theorem z16p (a p : Addr) (W : World) (ha : W.cell? a = some (.pointer (some p))) :
    (ReflectliteValue.method (ReflectliteValue.valueError "reflectlite.Value.IsNil" 0) ReflectliteValue.isNil #[.agg #[.pointer (some ⟨1, 106, none⟩), .pointer (some a), .int .u64 150]]).run Tryd.prog W = .ok (.bool false) W := by
  rw [z19l]
  simp only [Sem.run_bind, zy7, Result.andThen]
  simp [ReflectliteValue.isNil, loadVar, isAgg, underlying, Tryd.underlying106, ha, Result.andThen]

theorem zw7 (h : Value) (w : World) : (Go.method 263 123 (.agg #[h]) "Elem").run Tryd.prog w = .ok (106, .agg #[h]) w := by kernel_rfl

theorem zmr (h : Value) (w : World) : (Go.method 263 123 (.agg #[h]) "Implements").run Tryd.prog w = .ok (107, .agg #[h]) w := by kernel_rfl

theorem zjp (h : Value) (w : World) : (Go.method 263 123 (.agg #[h]) "AssignableTo").run Tryd.prog w = .ok (104, .agg #[h]) w := by kernel_rfl

theorem z18u (w : World) : (ReflectliteType.method ReflectliteType.elem #[.agg #[.pointer (some ⟨1, 106, none⟩)]]).run Tryd.prog w = .ok (.iface 123 (.agg #[.pointer (some ⟨1, 104, none⟩)])) w := by kernel_rfl

theorem z1b9 (w : World) : (ReflectliteType.relation "Implements" ReflectliteType.implements_ #[.agg #[.pointer (some ⟨1, 104, none⟩)], .iface 123 (.agg #[.pointer (some ⟨1, 70, none⟩)])]).run Tryd.prog w = .ok (.bool true) w := by kernel_rfl

theorem z16m (v : Value) (w : World) : (ReflectliteType.typeOf #[.iface 104 v]).run Tryd.prog w = .ok (.iface 123 (.agg #[.pointer (some ⟨1, 104, none⟩)])) w := by kernel_rfl

theorem zw8 (w : World) : (ReflectliteType.relation "AssignableTo" ReflectliteType.assignableTo #[.agg #[.pointer (some ⟨1, 104, none⟩)], .iface 123 (.agg #[.pointer (some ⟨1, 104, none⟩)])]).run Tryd.prog w = .ok (.bool true) w := by kernel_rfl

theorem zzt (c : Int) (w : World) : (ReflectliteValue.unpack (.iface 104 (.agg #[.int .i64 c]))).run Tryd.prog w
    = .ok (.agg #[.pointer (some ⟨1, 104, none⟩), .pointer (some ⟨w.heap.size, 0, none⟩), .int .u64 153]) (w.alloc (.cells #[.int .i64 c] 104)) := by kernel_rfl

theorem z16q (w : World) : (Rtype.elem? 106).run Tryd.prog w = .ok (some 104) w := by kernel_rfl

theorem as_mk (p : Addr) (w : World) : (ReflectliteValue.mk 104 p ReflectliteValue.flagAddr).run Tryd.prog w = .ok (.agg #[.pointer (some ⟨1, 104, none⟩), .pointer (some p), .int .u64 409]) w := by kernel_rfl

theorem z18t (a p : Addr) (W : World) (ha : W.cell? a = some (.pointer (some p))) :
    (ReflectliteValue.method (ReflectliteValue.valueError "reflectlite.Value.Elem" 0) ReflectliteValue.elem #[.agg #[.pointer (some ⟨1, 106, none⟩), .pointer (some a), .int .u64 150]]).run Tryd.prog W
      = .ok (.agg #[.pointer (some ⟨1, 104, none⟩), .pointer (some p), .int .u64 409]) W := by
  rw [z19l]
  simp only [Sem.run_bind, zy7, Result.andThen]
  simp [ReflectliteValue.elem, loadVar, isAgg, underlying, Tryd.underlying106, ha, Result.andThen, z16q, as_mk]

theorem z1ce (v x : Value) : ReflectliteValue.set #[v, x] = (do
    let (some (dst, a, fl), some (src, b, _)) := (<- ReflectliteValue.parts v, <- ReflectliteValue.parts x)
      | unsupported (.noEntry "extern/(internal/reflectlite.Value).Set.zeroValue")
    if fl / ReflectliteValue.flagAddr % 2 == 0 then unsupported (.noEntry "extern/(internal/reflectlite.Value).Set.unaddressable")
    let val <- loadVar src b
    if <- Rtype.directlyAssignable dst src then storeVar dst a val
    else if <- Rtype.implements dst src then
      if (<- Rtype.kind src) == 20 then
        match val with
        | .nilIface => unsupported (.noEntry "extern/reflectlite: a nil value of one interface type handed on as a value of another")
        | _ => storeVar dst a val
      else storeVar dst a (.iface src val)
    else panicString ("reflectlite.Set: value of type " ++ (<- Rtype.spelt src) ++ " is not assignable to type " ++ (<- Rtype.spelt dst))
    pure (.tuple #[])) := rfl

theorem z16o (a : Addr) (w : World) : (ReflectliteValue.parts (.agg #[.pointer (some ⟨1, 104, none⟩), .pointer (some a), .int .u64 409])).run Tryd.prog w = .ok (some (104, a, 409)) w := by kernel_rfl

theorem z16n (a : Addr) (w : World) : (ReflectliteValue.parts (.agg #[.pointer (some ⟨1, 104, none⟩), .pointer (some a), .int .u64 153])).run Tryd.prog w = .ok (some (104, a, 153)) w := by kernel_rfl

theorem z16r (w : World) : (Rtype.directlyAssignable 104 104).run Tryd.prog w = .ok true w := by kernel_rfl

theorem z1cd (ta b : Addr) (c : Int) (old : Value) (W : World) (hb : W.cell? b = some (.int .i64 c)) (ht : W.cell? ta = some old) (hf : W.frozen? ta = false) :
    (ReflectliteValue.set #[.agg #[.pointer (some ⟨1, 104, none⟩), .pointer (some ta), .int .u64 409], .agg #[.pointer (some ⟨1, 104, none⟩), .pointer (some b), .int .u64 153]]).run Tryd.prog W
      = .ok (.tuple #[]) (W.setCell ta (.int .i64 c)) := by
  have lc : (loadCells b 1).run Tryd.prog W = .ok #[.int .i64 c] W := by
    simp [loadCells, loadCellsFrom, hb, Result.andThen, Addr.add]
  rw [z1ce]
  simp only [Sem.run_bind, z16o, z16n, Result.andThen]
  simp [ReflectliteValue.flagAddr, loadVar, isAgg, underlying, Tryd.underlying104, lc, Result.andThen, z16r, storeVar, Value.cells, storeCells, Addr.add]
  rw [run_store Tryd.prog W ta _ _ (by rfl)]
  simp [ht, hf]

set_option maxHeartbeats 4000000 in
theorem z1cg (c : Int) (t : Addr) (old : Value) (w : World) (hg : w.cell? ⟨0, 0, none⟩ = some (.iface 123 (.agg #[.pointer (some ⟨1, 70, none⟩)]))) (ht0 : w.cell? t = some old) (hf0 : w.frozen? t = false) :
    Calls Tryd.prog 68 #[.iface 104 (.agg #[.int .i64 c]), .iface 106 (.pointer (some t))] w fun ev w' => ev = .returned (.bool true) /\ w' = ((((w.alloc (.cells #[.pointer (some t)] 106)).alloc (.cells #[.pointer (some ⟨1, 106, none⟩), .pointer (some ⟨w.heap.size, 0, none⟩), .int .u64 150] 113)).alloc (.cells #[.pointer (some ⟨1, 106, none⟩), .pointer (some ⟨w.heap.size, 0, none⟩), .int .u64 150] 113)).alloc (.cells #[.int .i64 c] 104)).setCell t (.int .i64 c) := by
  have h6 := @run_callFunc_extern Tryd.prog 74 _ (fun args => ReflectliteValue.unpack (args.getD 0 (.tuple #[]))) Tryd.func74 (by kernel_rfl) (by kernel_rfl) (by kernel_rfl) (by kernel_rfl)
  have h7 := @run_callFunc_extern Tryd.prog 75 _ (ReflectliteValue.methodAny (ReflectliteValue.valueError "reflectlite.Value.Type" 0) (fun t _ _ _ => ReflectliteType.toType t)) Tryd.func75 (by kernel_rfl) (by kernel_rfl) (by kernel_rfl) (by kernel_rfl)
  have h8 := @run_callFunc_extern Tryd.prog 76 _ (ReflectliteValue.method (ReflectliteValue.valueError "reflectlite.Value.IsNil" 0) ReflectliteValue.isNil) Tryd.func76 (by kernel_rfl) (by kernel_rfl) (by kernel_rfl) (by kernel_rfl)
  have h27 := @run_callFunc_extern Tryd.prog 95 _ (ReflectliteType.abiMethod fun t => do pure (.int .u8 (<- Rtype.kind t))) Tryd.func95 (by kernel_rfl) (by kernel_rfl) (by kernel_rfl) (by kernel_rfl)
  have h37 := @run_callFunc_extern Tryd.prog 106 _ (ReflectliteType.method ReflectliteType.elem) Tryd.func106 (by kernel_rfl) (by kernel_rfl) (by kernel_rfl) (by kernel_rfl)
  have h38 := @run_callFunc_extern Tryd.prog 107 _ (ReflectliteType.relation "Implements" ReflectliteType.implements_) Tryd.func107 (by kernel_rfl) (by kernel_rfl) (by kernel_rfl) (by kernel_rfl)
  have h10 := @run_callFunc_extern Tryd.prog 78 _ ReflectliteType.typeOf Tryd.func78 (by kernel_rfl) (by kernel_rfl) (by kernel_rfl) (by kernel_rfl)
  have h35 := @run_callFunc_extern Tryd.prog 104 _ (ReflectliteType.relation "AssignableTo" ReflectliteType.assignableTo) Tryd.func104 (by kernel_rfl) (by kernel_rfl) (by kernel_rfl) (by kernel_rfl)
  have h11 := @run_callFunc_extern Tryd.prog 79 _ (ReflectliteValue.method (ReflectliteValue.valueError "reflectlite.Value.Elem" 0) ReflectliteValue.elem) Tryd.func79 (by kernel_rfl) (by kernel_rfl) (by kernel_rfl) (by kernel_rfl)
  have h12 := @run_callFunc_extern Tryd.prog 80 _ ReflectliteValue.set Tryd.func80 (by kernel_rfl) (by kernel_rfl) (by kernel_rfl) (by kernel_rfl)
  have tO := z16m
  have mA := zjp
  have a25 := zw8
  have v25 := zzt
  have f6 := zzs
  have f7 := z18q
  have mK := zw6
  have mE := zw7
  have mI := zmr
  have k27 := z18r
  have k25 := z18s
  have e27 := z18u
  have i25 := z1b9
  have n8 := z16p ⟨w.heap.size, 0, none⟩ t ((w.alloc (.cells #[.pointer (some t)] 106)).alloc (.cells #[.pointer (some ⟨1, 106, none⟩), .pointer (some ⟨w.heap.size, 0, none⟩), .int .u64 150] 113)) (by simp)
  have hlt : 0 < w.heap.size := by
    rcases Nat.eq_zero_or_pos w.heap.size with h0 | h
    . simp [World.cell?, h0] at hg
    . exact h
  have hg2 : ((w.alloc (.cells #[.pointer (some t)] 106)).alloc (.cells #[.pointer (some ⟨1, 106, none⟩), .pointer (some ⟨w.heap.size, 0, none⟩), .int .u64 150] 113)).cell? ⟨0, 0, none⟩ = some (.iface 123 (.agg #[.pointer (some ⟨1, 70, none⟩)])) := by
    rw [World.cell?_alloc_lt _ _ ⟨0, 0, none⟩ (by simp), World.cell?_alloc_lt _ _ ⟨0, 0, none⟩ hlt]; exact hg
  have htl : t.block < w.heap.size := by
    rcases Nat.lt_or_ge t.block w.heap.size with h | h
    . exact h
    . simp [World.cell?, Array.getElem?_eq_none h] at ht0
  have el := z18t ⟨w.heap.size, 0, none⟩ t (((w.alloc (.cells #[.pointer (some t)] 106)).alloc (.cells #[.pointer (some ⟨1, 106, none⟩), .pointer (some ⟨w.heap.size, 0, none⟩), .int .u64 150] 113)).alloc (.cells #[.pointer (some ⟨1, 106, none⟩), .pointer (some ⟨w.heap.size, 0, none⟩), .int .u64 150] 113)) (by rw [World.cell?_alloc_lt _ _ ⟨w.heap.size, 0, none⟩ (by simp; omega)]; simp)
  have st := z1cd t ⟨w.heap.size + 1 + 1 + 1, 0, none⟩ c old ((((w.alloc (.cells #[.pointer (some t)] 106)).alloc (.cells #[.pointer (some ⟨1, 106, none⟩), .pointer (some ⟨w.heap.size, 0, none⟩), .int .u64 150] 113)).alloc (.cells #[.pointer (some ⟨1, 106, none⟩), .pointer (some ⟨w.heap.size, 0, none⟩), .int .u64 150] 113)).alloc (.cells #[.int .i64 c] 104))
    (by rw [World.cell?_alloc_at _ _ _ _ (by simp)]; rfl)
    (by rw [World.cell?_alloc_lt _ _ t (by simp; omega), World.cell?_alloc_lt _ _ t (by simp; omega), World.cell?_alloc_lt _ _ t (by simp; omega), World.cell?_alloc_lt _ _ t htl]; exact ht0)
    (by rw [World.frozen?_alloc_old _ _ t (by simp; omega), World.frozen?_alloc_old _ _ t (by simp; omega), World.frozen?_alloc_old _ _ t (by simp; omega), World.frozen?_alloc_old _ _ t (Nat.ne_of_lt htl)]; exact hf0)
  go_enter Tryd.func68, Tryd.ntmps68
  go_wp2
  refine wp_loop_rounds 1 ?_
  rw [rounds_succ]
  go_wp2
  go_ret
  exact ⟨rfl, rfl⟩

theorem z134 (w : World) : Calls Tryd.prog 56 #[.nilIface] w fun e w' => e = .returned (.int .i64 0) /\ w' = w.alloc (.cells #[.int .i64 0] 104) := by
  go_enter Tryd.func56, Tryd.ntmps56
  go_wp2_with (first | (go_at_call 68; refine (z1cf _ _).mono ?_; rintro e w' ⟨rfl, rfl⟩))
  go_ret
  exact ⟨rfl, rfl⟩

def asW (w : World) (c : Int) : World := (((((w.alloc (.cells #[.int .i64 0] 104)).alloc (.cells #[.pointer (some ⟨w.heap.size, 0, none⟩)] 106)).alloc (.cells #[.pointer (some ⟨1, 106, none⟩), .pointer (some ⟨w.heap.size + 1, 0, none⟩), .int .u64 150] 113)).alloc (.cells #[.pointer (some ⟨1, 106, none⟩), .pointer (some ⟨w.heap.size + 1, 0, none⟩), .int .u64 150] 113)).alloc (.cells #[.int .i64 c] 104)).setCell ⟨w.heap.size, 0, none⟩ (.int .i64 c)

theorem z1ba (c : Int) (w : World) (hg : w.cell? ⟨0, 0, none⟩ = some (.iface 123 (.agg #[.pointer (some ⟨1, 70, none⟩)]))) : Calls Tryd.prog 68 #[.iface 104 (.agg #[.int .i64 c]), .iface 106 (.pointer (some ⟨w.heap.size, 0, none⟩))] (w.alloc (.cells #[.int .i64 0] 104)) fun e w' => e = .returned (.bool true) /\ w' = asW w c := by
  have hlt : 0 < w.heap.size := by
    rcases Nat.eq_zero_or_pos w.heap.size with h0 | h
    . simp [World.cell?, h0] at hg
    . exact h
  have h1 : (w.alloc (.cells #[.int .i64 0] 104)).cell? ⟨0, 0, none⟩ = some (.iface 123 (.agg #[.pointer (some ⟨1, 70, none⟩)])) := by
    rw [World.cell?_alloc_lt _ _ ⟨0, 0, none⟩ hlt]; exact hg
  have hs : (w.alloc (.cells #[.int .i64 0] 104)).heap.size = w.heap.size + 1 := by simp
  refine (z1cg c ⟨w.heap.size, 0, none⟩ (.int .i64 0) (w.alloc (.cells #[.int .i64 0] 104)) h1 (by simp) (by simp)).mono fun e w' ⟨h2, h3⟩ => ⟨h2, ?_⟩
  rw [h3, hs]; rfl

theorem z18w (w : World) (c : Int) : (asW w c).cell? ⟨w.heap.size, 0, none⟩ = some (.int .i64 c) := by
  have h : (((((w.alloc (.cells #[.int .i64 0] 104)).alloc (.cells #[.pointer (some ⟨w.heap.size, 0, none⟩)] 106)).alloc (.cells #[.pointer (some ⟨1, 106, none⟩), .pointer (some ⟨w.heap.size + 1, 0, none⟩), .int .u64 150] 113)).alloc (.cells #[.pointer (some ⟨1, 106, none⟩), .pointer (some ⟨w.heap.size + 1, 0, none⟩), .int .u64 150] 113)).alloc (.cells #[.int .i64 c] 104)).heap[w.heap.size]? = some (.cells #[.int .i64 0] 104 (0, 0)) := by
    simp only [World.alloc, Array.getElem?_push, Array.size_push]
    rw [if_neg (by omega), if_neg (by omega), if_neg (by omega), if_neg (by omega), if_pos trivial]
  unfold asW
  simp only [World.setCell, World.cell?]
  rw [Array.getElem?_modify, if_pos rfl, h]
  rfl

theorem z135 (c : Int) (w : World) (hg : w.cell? ⟨0, 0, none⟩ = some (.iface 123 (.agg #[.pointer (some ⟨1, 70, none⟩)]))) : Calls Tryd.prog 56 #[.iface 104 (.agg #[.int .i64 c])] w fun e w' => e = .returned (.int .i64 c) /\ w' = asW w c := by
  have hc := z18w w c
  go_enter Tryd.func56, Tryd.ntmps56
  go_wp2_with (first | (go_at_call 68; refine (z1ba c w hg).mono ?_; rintro e w' ⟨rfl, rfl⟩))
  go_ret
  exact ⟨rfl, rfl⟩

theorem z18v (w : World) (c : Int) : w.heap.size <= (asW w c).heap.size /\ (∀ k, k < w.heap.size -> (asW w c).heap[k]? = w.heap[k]?) /\ (asW w c).tape = w.tape /\ (asW w c).os = w.os /\ (asW w c).output = w.output := by
  unfold asW
  refine ⟨by simp [World.setCell]; omega, fun k hk => ?_, rfl, rfl, rfl⟩
  simp only [World.setCell, World.alloc, Array.getElem?_modify, Array.getElem?_push, Array.size_push]
  rw [if_neg (by omega), if_neg (by omega), if_neg (by omega), if_neg (by omega), if_neg (by omega), if_neg (by omega)]

def errP (v : Value) : Option Int := match v with
  | .nilIface => some 0
  | .iface t (.agg cs) => match cs.toList with
    | [.int .i64 c] => cond (Nat.beq t 104) (some c) none
    | _ => none
  | _ => none

def eV (c : Int) : Value := .iface 104 (.agg #[.int .i64 c])

theorem z188 {v : Value} {c : Int} (h : errP v = some c) : (v = .nilIface /\ c = 0) \/ v = .iface 104 (.agg #[.int .i64 c]) := by
  unfold errP at h
  split at h
  . exact .inl ⟨rfl, (Option.some.inj h).symm⟩
  . rename_i t cs
    split at h
    . rename_i c' hc
      cases ht : Nat.beq t 104 with
      | false => rw [ht] at h; cases h
      | true =>
        rw [ht] at h
        have e1 := Nat.eq_of_beq_eq_true ht
        have e2 : c' = c := Option.some.inj h
        refine .inr ?_
        rw [e1, <- e2]
        congr 2
        apply Array.toList_inj.1
        rw [hc]
    . cases h
  . cases h

theorem zsw {w w' : World} {S : Hp} {args : List A} {vals : List Value} {ob : Nat -> List Nat} {rA : A} {rV : Value} {outs : List A} (hS : Lift.Sub S (hp w))
    (hb : ∀ y ∈ args, z9g y = false) (hob : ∀ i, ob i = []) (hw : w.heap.size <= w'.heap.size /\ (∀ k, k < w.heap.size -> w'.heap[k]? = w.heap[k]?) /\ w'.tape = w.tape /\ w'.os = w.os /\ w'.output = w.output) (hr : ∀ S', ARel (hp w') S' (fun _ => undef) rA rV []) (hrr : rA.refs = []) : Lift.Ends w S args vals ob rA outs (.returned rV) w' := by
  obtain ⟨h1, h2, h3, h4, h5⟩ := hw
  refine ⟨rV, S, [], ob, rfl, ⟨h1, fun k hk _ => h2 k hk, h3, h4, h5⟩, Lift.Sub.refl S, fun k q hq => ?_, fun k hk => .inl hk, ⟨hr S, hrr⟩, (fun k hk => by cases hk), .nil, ?_, ?_, ?_, ?_, fun _ h => h⟩
  . have := hS k q hq
    simp only [hp] at this ⊢
    rw [h2 k (Array.getElem?_eq_some_iff.1 this).1]; exact this
  . intro i y hy hbx
    have := hb y (List.mem_of_getElem? hy)
    rw [hbx] at this; cases this
  . intro i k hk
    rw [hob i] at hk; cases hk
  . intro i j k hi
    rw [hob i] at hi; cases hi
  . intro i
    rw [hob i]; exact .nil

theorem ztx {w : World} {S : Hp} (hS : Lift.Sub S (hp w)) (hg : GlobOk glob S) : w.cell? ⟨0, 0, none⟩ = some (.iface 123 (.agg #[.pointer (some ⟨1, 70, none⟩)])) := by
  have h := hg 0 ⟨.opq, .iface 123 (.agg #[.pointer (some ⟨1, 70, none⟩)])⟩ rfl
  obtain ⟨b, off, c1, e, ⟨all, E, fr, c0, c2, h1, h2, h3⟩, h4, _⟩ := VR.ptr_inv h
  have e0 : (some (⟨0, 0, none⟩ : Addr)) = some ⟨b, off, none⟩ := Value.pointer.inj e
  have e1 := Option.some.inj e0
  have eb : b = 0 := (congrArg Addr.block e1).symm
  have eo : off = 0 := (congrArg Addr.off e1).symm
  subst eb eo
  have hw : w.heap[0]? = some (.cells all E fr) := hS 0 _ h1
  simp only [World.cell?, hw]
  have hc0 : c0 = [] := List.length_eq_zero_iff.1 h3
  have : all.toList[0]? = some (.iface 123 (.agg #[.pointer (some ⟨1, 70, none⟩)])) := by
    rw [h2, hc0, h4]; rfl
  simpa using this

def zcw (N : Nat) (v : Value) : Option Int := errP v

def z9r (N : Nat) : List A -> Res := z1f [(0, .v .opq)] (fun x => zcw N x.1) (zaj (.v (.int .i64)) 1)

theorem zi1 (N : Nat) : Contract Tryd.prog glob 56 (z9r N) := by
  refine Contract.hand ⟨_, Tryd.func56, by kernel_rfl, by decide⟩ ?_
  rintro w S vals ob ⟨v, ⟨⟩⟩ y har hS hg hy
  have hy' : errP v = some y := hy
  obtain ⟨⟨u1, e1, r1⟩, _⟩ := har.rel 0 _ rfl
  have hob : ∀ i, ob i = [] := by
    intro i
    match i with
    | 0 => exact r1.2
    | i + 1 => exact har.out _ (by simp [mkS, zch])
  have hv : vals = [u1] := by
    match vals, har.len, e1 with
    | [a], _, h1 => simp at h1; rw [h1]
  subst hv
  have hu := VR.opq_inv r1.1
  subst hu
  have hbx : ∀ y ∈ (mkS [(0, .v .opq)] 0 ((u1, ()) : z26 [(0, .v .opq)])), z9g y = false := by
    intro y hy
    have hy : y ∈ [A.v .opq u1] := hy
    rw [List.mem_singleton.1 hy]; rfl
  rcases z188 hy' with ⟨rfl, rfl⟩ | rfl
  . refine (z134 w).mono fun e w' ⟨h1, h2⟩ => ?_
    subst h1 h2
    exact zsw hS hbx hob ⟨by simp, fun k hk => by simp only [World.alloc, Array.getElem?_push]; rw [if_neg (by omega)], rfl, rfl, rfl⟩ (fun S' => ⟨VR.int, rfl⟩) rfl
  . refine (z135 y w (ztx hS hg)).mono fun e w' ⟨h1, h2⟩ => ?_
    subst h1 h2
    exact zsw hS hbx hob (z18v w y) (fun S' => ⟨VR.int, rfl⟩) rfl

def ztk : Code := (Go.Proofs.Tryd.f51.body).getD .skip

def zri : List (List Nat × List Nat) := [([0], [1]), ([0, 0, 1], [4, 1]), ([0, 1, 0, 1], [9, 4, 1]), ([1, 1, 0, 1], [1]), ([0, 0, 1, 1, 0, 1], [2, 3]), ([1, 0, 1, 1, 0, 1], [2, 3]), ([0, 1, 1], [2, 3]), ([1, 1, 1], [2, 3])]

def zlr (N : Nat) : Env := z2n tys glob [(56, z9r N), (58, ze1 N), (66, zi2 N)] [] [] [] false [] []

theorem zv4 (N : Nat) : EnvOk Go.Proofs.Tryd.prog (zlr N) := zk mixed z1a (FnsOk.cons (zi1 N) (FnsOk.cons ((Contract.up (znb N) glob)) (FnsOk.cons ((Contract.up (ztf N) glob)) (FnsOk.nil)))) (ItsOk.nil)

def zev (N : Nat) (t : ((List UInt8) × ((List ((List UInt8) × ((List UInt8) × Unit))) × ((List UInt8) × Unit)))) : Option ((List UInt8) × Int × Unit) :=
 (zbf N t).bind fun y =>
 (zcw N y).bind fun y1 =>
 cond (y1 != (0 : Int))
 (some (([] : List UInt8), (y1, ())))
 ((zb4 N t).bind fun y2 =>
 cond (decide (((List.length y2) + (List.length t.2.2.1)) <= 9223372036854775807))
 (some ((y2 ++ t.2.2.1), ((0 : Int), ())))
 (none))

def zrh (N : Nat) : Tab ((List UInt8) × Int × Unit) := []

theorem ztj (N : Nat) (x : z26 [(0, .v (.pair .str (.pair (.sl (.pair .str (.pair .str .unit))) (.pair .str .unit))))]) : z9l (zlr N) N (zrh N) zri Go.Proofs.Tryd.f51 (mkS [(0, .v (.pair .str (.pair (.sl (.pair .str (.pair .str .unit))) (.pair .str .unit))))] 0 x) (z41 (.tup [.str, (.int .i64)]) 1) = zev N x.1 := by kernel_rfl

def zv3 (N : Nat) : List A -> Res := z1f [(0, .v (.pair .str (.pair (.sl (.pair .str (.pair .str .unit))) (.pair .str .unit))))] (fun x => zev N x.1) (zaj (.tup [.str, (.int .i64)]) 1)

theorem zwe (N : Nat) : Contract Go.Proofs.Tryd.prog glob 51 (zv3 N) :=
  Contract.of (E := zlr N) (H := zrh N) (L := zri) (N := N) (body := ztk) (K := (z41 (.tup [.str, (.int .i64)]) 1)) (zv4 N) Go.Proofs.Tryd.func51 (by kernel_rfl) (by decide) (fun _ hb => TabOk.nil) (fun x y h => by rw [ztj]; exact h) (z16 (s := (.tup [.str, (.int .i64)])) (m := 1))

def zrg : Code := (Go.Proofs.Tryd.f36.body).getD .skip

def zpq : List (List Nat × List Nat) := [([0], [1]), ([0, 0, 1], [6, 1]), ([1, 0, 1], [1]), ([0, 0, 1, 0, 1], [2]), ([1, 0, 1, 0, 1], [2]), ([0, 1, 1], [2]), ([1, 1, 1], [2])]

def zi4 (N : Nat) : Env := z2n tys glob [(56, z9r N), (58, ze1 N), (57, z6e N)] [] [] [] false [] []

theorem zti (N : Nat) : EnvOk Go.Proofs.Tryd.prog (zi4 N) := zk mixed z1a (FnsOk.cons (zi1 N) (FnsOk.cons ((Contract.up (znb N) glob)) (FnsOk.cons ((Contract.up (zcz N) glob)) (FnsOk.nil)))) (ItsOk.nil)

def zeu (N : Nat) (t : ((List UInt8) × ((List ((List UInt8) × ((List UInt8) × Unit))) × ((List UInt8) × Unit)))) : Option Int :=
 (z35 N t).bind fun y =>
 (zcw N y).bind fun y1 =>
 cond (y1 != (0 : Int))
 (some (0 : Int))
 ((zb4 N t).bind fun y2 =>
 some (Go.IntKind.wrap Go.IntKind.i64 ((((List.length y2) : Nat) : Int) + (32 : Int))))

def zpp (N : Nat) : Tab Int := []

theorem zrf (N : Nat) (x : z26 [(0, .v (.pair .str (.pair (.sl (.pair .str (.pair .str .unit))) (.pair .str .unit))))]) : z9l (zi4 N) N (zpp N) zpq Go.Proofs.Tryd.f36 (mkS [(0, .v (.pair .str (.pair (.sl (.pair .str (.pair .str .unit))) (.pair .str .unit))))] 0 x) (z41 (.v (.int .i64)) 1) = zeu N x.1 := by kernel_rfl

def zlb (N : Nat) : List A -> Res := z1f [(0, .v (.pair .str (.pair (.sl (.pair .str (.pair .str .unit))) (.pair .str .unit))))] (fun x => zeu N x.1) (zaj (.v (.int .i64)) 1)

theorem zv2 (N : Nat) : Contract Go.Proofs.Tryd.prog glob 36 (zlb N) :=
  Contract.of (E := zi4 N) (H := zpp N) (L := zpq) (N := N) (body := zrg) (K := (z41 (.v (.int .i64)) 1)) (zti N) Go.Proofs.Tryd.func36 (by kernel_rfl) (by decide) (fun _ hb => TabOk.nil) (fun x y h => by rw [zrf]; exact h) (z16 (s := (.v (.int .i64))) (m := 1))

def zoc : Code := (Go.Proofs.Tryd.f19.body).getD .skip

def zjl : List (List Nat × List Nat) := [([0], [1]), ([0, 1], [3]), ([0, 0, 1, 1], [7, 3]), ([1, 0, 1, 1], [3]), ([0, 0, 1, 0, 1, 1], [2]), ([1, 0, 1, 0, 1, 1], [2]), ([0, 1, 1, 1], [2]), ([1, 1, 1, 1], [2])]

def zci (N : Nat) : Env := z2n tys glob [(36, zlb N), (20, zay N)] [] [] [] false [] []

theorem zpm (N : Nat) : EnvOk Go.Proofs.Tryd.prog (zci N) := zk mixed z1a (FnsOk.cons (zv2 N) (FnsOk.cons ((Contract.up (zdu N) glob)) (FnsOk.nil))) (ItsOk.nil)

def z5g (N : Nat) (t : ((List UInt8) × ((List ((List UInt8) × ((List UInt8) × Unit))) × ((List UInt8) × Unit)))) : Option Int :=
 (zeu N t).bind fun y =>
 cond (y == (0 : Int))
 (some (0 : Int))
 ((z8b N (Go.IntKind.wrap Go.IntKind.u64 y)).bind fun y1 =>
 some (Go.IntKind.wrap Go.IntKind.i64 ((((List.length y1) : Nat) : Int) + y)))

def zjk (N : Nat) : Tab Int := []

theorem zob (N : Nat) (x : z26 [(0, .v (.pair .str (.pair (.sl (.pair .str (.pair .str .unit))) (.pair .str .unit))))]) : z9l (zci N) N (zjk N) zjl Go.Proofs.Tryd.f19 (mkS [(0, .v (.pair .str (.pair (.sl (.pair .str (.pair .str .unit))) (.pair .str .unit))))] 0 x) (z41 (.v (.int .i64)) 1) = z5g N x.1 := by kernel_rfl

def zg1 (N : Nat) : List A -> Res := z1f [(0, .v (.pair .str (.pair (.sl (.pair .str (.pair .str .unit))) (.pair .str .unit))))] (fun x => z5g N x.1) (zaj (.v (.int .i64)) 1)

theorem zqq (N : Nat) : Contract Go.Proofs.Tryd.prog glob 19 (zg1 N) :=
  Contract.of (E := zci N) (H := zjk N) (L := zjl) (N := N) (body := zoc) (K := (z41 (.v (.int .i64)) 1)) (zpm N) Go.Proofs.Tryd.func19 (by kernel_rfl) (by decide) (fun _ hb => TabOk.nil) (fun x y h => by rw [zob]; exact h) (z16 (s := (.v (.int .i64))) (m := 1))

def z9u : Code := (Go.Proofs.Tryd.f10.body).getD .skip

def zh8 : List (List Nat × List Nat) := [([0], [1]), ([0, 0, 1], [10, 1]), ([1, 0, 1], [1]), ([0, 0, 1, 0, 1], [2]), ([1, 0, 1, 0, 1], [2]), ([0, 1, 1], [3, 1]), ([0, 0, 1, 1, 1], [15, 3, 1]), ([1, 0, 1, 1, 1], [3, 1]), ([0, 0, 1, 0, 1, 1, 1], [2]), ([1, 0, 1, 0, 1, 1, 1], [2]), ([0, 1, 1, 1, 1], [1, 3]), ([0, 0, 1, 1, 1, 1, 1], [27, 26, 25, 3]), ([0, 1, 0, 1, 1, 1, 1, 1], [27, 26, 25, 3]), ([0, 0, 0, 1, 0, 1, 1, 1, 1, 1], [28, 25, 27, 3, 26]), ([0, 1, 0, 0, 1, 0, 1, 1, 1, 1, 1], [25, 27, 3, 26]), ([1, 0, 1, 0, 0, 1, 0, 1, 1, 1, 1, 1], [3]), ([0, 0, 0, 1, 1, 0, 0, 1, 0, 1, 1, 1, 1, 1], [5, 3, 27, 26, 25]), ([0, 1, 0, 0, 1, 1, 0, 0, 1, 0, 1, 1, 1, 1, 1], [6, 3, 27, 26, 25]), ([0, 0, 1, 1, 0, 0, 1, 1, 0, 0, 1, 0, 1, 1, 1, 1, 1], [34, 3, 6, 27, 26, 25]), ([1, 0, 1, 1, 0, 0, 1, 1, 0, 0, 1, 0, 1, 1, 1, 1, 1], [3, 6, 27, 26, 25]), ([0, 0, 1, 0, 1, 1, 0, 0, 1, 1, 0, 0, 1, 0, 1, 1, 1, 1, 1], [2]), ([1, 0, 1, 0, 1, 1, 0, 0, 1, 1, 0, 0, 1, 0, 1, 1, 1, 1, 1], [2]), ([1, 1, 1, 0, 0, 1, 1, 0, 0, 1, 0, 1, 1, 1, 1, 1], [27, 26, 25, 3]), ([0, 1, 1, 0, 0, 1, 0, 1, 1, 1, 1, 1], [27, 26, 25, 3]), ([1, 1, 1, 0, 0, 1, 0, 1, 1, 1, 1, 1], [27, 26, 25, 3]), ([1, 0, 1, 1, 1, 1, 1], [3]), ([0, 1, 1, 1, 1, 1, 1], [2]), ([1, 1, 1, 1, 1, 1, 1], [2])]

def zb1 (N : Nat) : Env := z2n tys glob [(19, zg1 N), (20, zay N)] [] [] [] false [] []

theorem zsz (N : Nat) : EnvOk Go.Proofs.Tryd.prog (zb1 N) := zk mixed z1a (FnsOk.cons (zqq N) (FnsOk.cons ((Contract.up (zdu N) glob)) (FnsOk.nil))) (ItsOk.nil)

def zej (N : Nat) (x25 : (List ((List UInt8) × ((List ((List UInt8) × ((List UInt8) × Unit))) × ((List UInt8) × Unit))))) (x26 : Int) (total : Int) (x27 : Int) (rec : Int -> Int -> Option Int) (k0 : Int -> Option Int) (k1 : Int -> Option Int) : Option Int :=
 cond (decide (x27 < x26))
 (cond (Go.Lift.inR x27 (List.length x25))
 ((z5g N (List.getD x25 (Int.toNat x27) (([] : List UInt8), (([] : List ((List UInt8) × ((List UInt8) × Unit))), (([] : List UInt8), ()))))).bind fun y =>
 cond (y == (0 : Int))
 (k0 (0 : Int))
 (rec (Go.IntKind.wrap Go.IntKind.i64 (total + y)) (Go.IntKind.wrap Go.IntKind.i64 (x27 + (1 : Int)))))
 (none))
 (k1 total)

def zek (N : Nat) (total : Int) (x25 : (List ((List UInt8) × ((List ((List UInt8) × ((List UInt8) × Unit))) × ((List UInt8) × Unit))))) (x26 : Int) (x27 : Int) (k0 : Int -> Option Int) (k1 : Int -> Option Int) : Option Int :=
 iter (fun (v : (Int × Int)) r => zej N x25 x26 v.1 v.2 (fun total x27 => (r (total, x27))) k0 k1) N (total, x27)

def zlj (N : Nat) (i : ((List ((List UInt8) × ((List ((List UInt8) × ((List UInt8) × Unit))) × ((List UInt8) × Unit)))) × Int)) (v : (Int × Int)) (r : (Int × Int) -> Option Int) (K : Ex -> List A -> Option Int) : Option Int :=
 zej N i.1 i.2 v.1 v.2 (fun total x27 => (r (total, x27))) (fun a0 => (K .ret (mkS [(2, .v (.int .i64))] 37 (a0, ())))) (fun a0 => (K (.exit 0) (mkS [(3, .v (.int .i64))] 36 (a0, ()))))

def zli (N : Nat) : Hd Int := fun st K => (unS [(3, .v (.int .i64)), (21, .v (.sl (.pair .str (.pair (.sl (.pair .str (.pair .str .unit))) (.pair .str .unit))))), (0, .v (.int .i64)), (0, .v (.int .i64))] 12 (restr [27, 26, 25, 3] 0 st)).bind fun x => iter (fun v r => zlj N ((fun x => (x.2.1, x.2.2.1)) x) v r K) N ((fun x => (x.1, x.2.2.2.1)) x)

def zu1 (N : Nat) : Tab Int := []

theorem zsy {N : Nat} {c : Ctx} (hb : Base Go.Proofs.Tryd.prog (zb1 N) c) : z11 Go.Proofs.Tryd.prog c (zj z9u [0, 1, 0, 1, 1, 1, 1, 1]) (zli N) :=
  z5y (s := [(3, .v (.int .i64)), (21, .v (.sl (.pair .str (.pair (.sl (.pair .str (.pair .str .unit))) (.pair .str .unit))))), (0, .v (.int .i64)), (0, .v (.int .i64))]) (m := 12) (zlj N) [27, 26, 25, 3] N (fun x => (x.2.1, x.2.2.1)) (fun x => (x.1, x.2.2.2.1)) (fun i v => (v.1, i.1, i.2, v.2, ())) (fun _ => rfl) (ze hb N (zu1 N) zh8 z9u TabOk.nil [0, 0, 1, 0, 1, 1, 1, 1, 1] _ rfl) (fun i v r K => by kernel_rfl)

def z92 (N : Nat) (b : (((List UInt8) × ((List ((List UInt8) × ((List UInt8) × Unit))) × ((List UInt8) × Unit))) × ((List ((List UInt8) × ((List ((List UInt8) × ((List UInt8) × Unit))) × ((List UInt8) × Unit)))) × Unit))) : Option Int :=
 cond (decide ((8 : Int) < (((List.length b.2.1) : Nat) : Int)))
 (some (0 : Int))
 ((z5g N b.1).bind fun y =>
 cond (y == (0 : Int))
 (some (0 : Int))
 ((z8b N (Go.IntKind.wrap Go.IntKind.u64 (((List.length b.2.1) : Nat) : Int))).bind fun y1 =>
 zek N (Go.IntKind.wrap Go.IntKind.i64 (y + (((List.length y1) : Nat) : Int))) b.2.1 (((List.length b.2.1) : Nat) : Int) (0 : Int)
 (fun x2 => some x2)
 (fun total => some total)))

def zoe (N : Nat) : Tab Int := [([0, 1, 0, 1, 1, 1, 1, 1], zli N)]

theorem zqr (N : Nat) (x : z26 [(0, .v (.pair (.pair .str (.pair (.sl (.pair .str (.pair .str .unit))) (.pair .str .unit))) (.pair (.sl (.pair .str (.pair (.sl (.pair .str (.pair .str .unit))) (.pair .str .unit)))) .unit)))]) : z9l (zb1 N) N (zoe N) zh8 Go.Proofs.Tryd.f10 (mkS [(0, .v (.pair (.pair .str (.pair (.sl (.pair .str (.pair .str .unit))) (.pair .str .unit))) (.pair (.sl (.pair .str (.pair (.sl (.pair .str (.pair .str .unit))) (.pair .str .unit)))) .unit)))] 0 x) (z41 (.v (.int .i64)) 1) = z92 N x.1 := by kernel_rfl

def zck (N : Nat) : List A -> Res := z1f [(0, .v (.pair (.pair .str (.pair (.sl (.pair .str (.pair .str .unit))) (.pair .str .unit))) (.pair (.sl (.pair .str (.pair (.sl (.pair .str (.pair .str .unit))) (.pair .str .unit)))) .unit)))] (fun x => z92 N x.1) (zaj (.v (.int .i64)) 1)

theorem zlk (N : Nat) : Contract Go.Proofs.Tryd.prog glob 10 (zck N) :=
  Contract.of (E := zb1 N) (H := zoe N) (L := zh8) (N := N) (body := z9u) (K := (z41 (.v (.int .i64)) 1)) (zsz N) Go.Proofs.Tryd.func10 (by kernel_rfl) (by decide) (fun _ hb => (TabOk.cons (zsy hb) TabOk.nil)) (fun x y h => by rw [zqr]; exact h) (z16 (s := (.v (.int .i64))) (m := 1))

end
end Go.Proofs.YtaackaafmidjkaaDoorLg

set_option linter.all false
set_option maxRecDepth 100000
namespace Go.Lift
noncomputable section


def BSt (t : T) (w0 : World) (S0 : Hp) (ob0 : List Nat) (bf : Nat) (w : World) (x : t.den) (L : List (Nat × Array Value × Nat)) : Prop :=
 ∃ S o, WF w0 (fun k => k ∈ ob0) w /\ Sub S0 S /\ Sub S (hp w) /\ (∀ k, S k ≠ none -> S0 k ≠ none \/ k ∈ ob0 \/ w0.heap.size <= k) /\ ARel (hp w) S (fun _ => undef) (.box t x) (.pointer (some ⟨bf, 0, none⟩)) o /\ o.Nodup ∧
 (∀ k ∈ o, S k = none /\ (k ∈ ob0 \/ w0.heap.size <= k)) /\ ∀ p ∈ L, S p.1 = none /\ p.1 ∉ o /\ w0.heap.size <= p.1 /\ w.heap[p.1]? = some (.cells p.2.1 p.2.2 (0, 0))

variable {P : Program} {glob : Nat -> Option Dat} {t : T} {w0 w : World} {S0 : Hp} {ob0 : List Nat} {bf : Nat} {x : t.den} {L : List (Nat × Array Value × Nat)}

theorem BSt.lt (h : BSt t w0 S0 ob0 bf w x L) : ∀ p ∈ L, p.1 < w.heap.size := by
  obtain ⟨S, o, _, _, _, _, _, _, _, hL⟩ := h
  exact fun p hp => (Array.getElem?_eq_some_iff.1 (hL p hp).2.2.2).1

theorem BSt.drew (h : BSt t w0 S0 ob0 bf w x L) : BSt t w0 S0 ob0 bf w.drew x L := by
  obtain ⟨S, o, k1, k2⟩ := h
  exact ⟨S, o, ⟨k1.size, k1.same, k1.tape, k1.os, k1.output⟩, k2⟩

theorem BSt.cell (h : BSt t w0 S0 ob0 bf w x L) {p : Nat} {cs : Array Value} {E i : Nat} {v : Value} (hm : (p, cs, E) ∈ L) (hi : cs[i]? = some v) : w.cell? ⟨p, i, none⟩ = some v := by
  obtain ⟨S, o, _, _, _, _, _, _, _, hL⟩ := h
  have := (hL _ hm).2.2.2
  simp only at this
  simp [World.cell?, this, hi]

theorem BSt.plain {f : FuncId} {g : List A -> Res} (ct : Contract P glob f g) (hg : ∀ S, GlobOk glob S) (h : BSt t w0 S0 ob0 bf w x L) {args : List A} {vals : List Value}
    (hrel : ∀ S, Sub S (hp w) -> ArgsRel (hp w) S args vals (fun _ => [])) {y : (g args).X} (hy : (g args).val = some y) :
    Calls P f vals.toArray w fun e w' => ∃ v S' o', e = .returned v /\ ARel (hp w') S' (fun _ => undef) ((g args).out y).1 v o' /\ BSt t w0 S0 ob0 bf w' x L := by
  have h' := h
  obtain ⟨S, o, h1, h2, h3, h4, h5, h6, h7, hL⟩ := h'
  refine ((ct.2 w S args vals _ (hrel S h3) h3 (hg S) y hy)).mono ?_
  rintro e w' ⟨v, S', q, ob', rfl, hwf, hSS, hSw, hnew, ⟨hr, _⟩, _⟩
  refine ⟨v, S', q, rfl, hr, ?_⟩
  have hwf' : WF w (fun _ => False) w' := ⟨hwf.size, fun k hk _ => hwf.same k hk (by rintro ⟨i, hi⟩; cases hi), hwf.tape, hwf.os, hwf.output⟩
  have hlt : ∀ k ∈ o, k < w.heap.size := fun k hk => by
    obtain ⟨ob, hob⟩ := h5.obj k hk
    exact (Array.getElem?_eq_some_iff.1 hob.1).1
  have hnw : ∀ k, k < w.heap.size -> S' k ≠ none -> S k ≠ none := fun k hk hs => by
    rcases hnew k hs with h | ⟨i, hi⟩ | h
    . exact h
    . cases hi
    . omega
  refine ⟨S', o, h1.trans hwf' (fun _ h => h.elim), h2.trans hSS, hSw, fun k hk => ?_, ?_, h6, fun k hk => ⟨?_, (h7 k hk).2⟩, fun p hp => ?_⟩
  . rcases hnew k hk with h | ⟨i, hi⟩ | h
    . exact h4 k h
    . cases hi
    . exact .inr (.inr (Nat.le_trans h1.size h))
  . obtain ⟨b, cs, E, fr, bs, rfl, e1, e2, e3, e4⟩ := h5
    refine ⟨b, cs, E, fr, bs, rfl, e1, ?_, e3, e4.mono hSS _ _ _ _ (fun k hk => hwf'.same k (hlt k (by simp [hk])) (fun h => h))⟩
    have := hwf'.same b (hlt b (by simp)) (fun h => h)
    simp only [hp] at e2 ⊢
    rw [this]; exact e2
  . cases hs : S' k with
    | none => rfl
    | some q => exact absurd (h7 k hk).1 (hnw k (hlt k hk) (by rw [hs]; simp))
  . obtain ⟨p1, p2, p3, p4⟩ := hL p hp
    have hl := (Array.getElem?_eq_some_iff.1 p4).1
    refine ⟨?_, p2, p3, ?_⟩
    . cases hs : S' p.1 with
      | none => rfl
      | some q => exact absurd p1 (hnw _ hl (by rw [hs]; simp))
    . rw [hwf'.same p.1 hl (fun h => h)]; exact p4

theorem z11o {S : Hp} {v : Value} {o : List Nat} {args : List A} {vals : List Value} (h5 : ARel (hp w) S (fun _ => undef) (.box t x) v o) (h6 : o.Nodup) (h7 : ∀ k ∈ o, S k = none) (hr0 : ArgsRel (hp w) S args vals (fun _ => [])) :
    ArgsRel (hp w) S (.box t x :: args) (v :: vals) (fun i => if i = 0 then o else []) := by
  refine ⟨by simp [hr0.len], fun i q hq => ?_, fun i hi => ?_, fun i j b hi hj => ?_, fun i => ?_, fun i b hb => ?_⟩
  . cases i with
    | zero =>
      simp at hq; subst hq
      exact ⟨⟨_, rfl, by simpa using h5⟩, rfl⟩
    | succ i =>
      obtain ⟨⟨v, hv, ha⟩, hrf⟩ := hr0.rel i q (by simpa using hq)
      exact ⟨⟨v, by simpa using hv, by simpa using ha⟩, hrf⟩
  . rw [if_neg (by intro e; subst e; simp at hi)]
  . by_cases hi0 : i = 0 <;> by_cases hj0 : j = 0 <;> simp_all
  . by_cases hi0 : i = 0 <;> simp [hi0, h6]
  . by_cases hi0 : i = 0
    . rw [if_pos hi0] at hb; exact h7 b hb
    . rw [if_neg hi0] at hb; cases hb

theorem BSt.alloc (h : BSt t w0 S0 ob0 bf w x L) (cs : Array Value) (E : Nat) : BSt t w0 S0 ob0 bf (w.alloc (.cells cs E)) x ((w.heap.size, cs, E) :: L) := by
  have hlt := h.lt
  obtain ⟨S, o, h1, h2, h3, h4, h5, h6, h7, hL⟩ := h
  have hh : (w.alloc (.cells cs E)).heap = w.heap.push (.cells cs E (0, 0)) := rfl
  have hk : ∀ k, k < w.heap.size -> (w.alloc (.cells cs E)).heap[k]? = w.heap[k]? := fun k hk => by
    rw [hh, Array.getElem?_push, if_neg (by omega)]
  have hol : ∀ k ∈ o, k < w.heap.size := fun k hk => by
    obtain ⟨ob, hob⟩ := h5.obj k hk
    exact (Array.getElem?_eq_some_iff.1 hob.1).1
  refine ⟨S, o, ⟨by rw [hh, Array.size_push]; have := h1.size; omega, fun k h1' h2' => by rw [hk k (by have := h1.size; omega)]; exact h1.same k h1' h2', h1.tape, h1.os, h1.output⟩, h2, fun k q ho => ?_, h4, ?_, h6, h7, fun p hpm => ?_⟩
  . have := h3 k q ho
    simp only [hp] at this ⊢
    rw [hk k (Array.getElem?_eq_some_iff.1 this).1]
    exact this
  . obtain ⟨b, c1, E', fr, bs, rfl, e1, e2, e3, e4⟩ := h5
    refine ⟨b, c1, E', fr, bs, rfl, e1, ?_, e3, e4.mono (Sub.refl _) _ _ _ _ (fun k hkm => hk k (hol k (by simp [hkm])))⟩
    simp only [hp] at e2 ⊢
    rw [hk b (hol b (by simp))]; exact e2
  . rcases List.mem_cons.1 hpm with rfl | hpm
    . refine ⟨?_, fun hm => absurd (hol _ hm) (by simp), h1.size, ?_⟩
      . cases hs : S w.heap.size with
        | none => rfl
        | some q =>
          have := h3 _ _ hs
          simp only [hp] at this
          have := (Array.getElem?_eq_some_iff.1 this).1
          omega
      . simp only
        rw [hh, Array.getElem?_push, if_pos rfl]
    . obtain ⟨p1, p2, p3, p4⟩ := hL p hpm
      exact ⟨p1, p2, p3, by rw [hk p.1 (hlt p hpm)]; exact p4⟩

theorem BSt.put {p : Nat} {cs : Array Value} {E : Nat} (h : BSt t w0 S0 ob0 bf w x ((p, cs, E) :: L)) (hd : ∀ q ∈ L, q.1 ≠ p) {w' : World} {cs' : Array Value} (hw : w' = z10 w p (.cells cs' E (0, 0))) : BSt t w0 S0 ob0 bf w' x ((p, cs', E) :: L) := by
  obtain ⟨S, o, h1, h2, h3, h4, h5, h6, h7, hL⟩ := h
  obtain ⟨q1, q2, q3, q4⟩ := hL (p, cs, E) (List.mem_cons_self ..)
  simp only at q1 q2 q3 q4
  have hne : ∀ k, k ≠ p -> w'.heap[k]? = w.heap[k]? := fun k hk => by
    have := zg (w := w) (o := .cells cs' E (0, 0)) hk
    rw [hw]; exact this
  have hsz : w'.heap.size = w.heap.size := by rw [hw]; simp [z10]
  refine ⟨S, o, ⟨by rw [hsz]; exact h1.size, fun k h1' h2' => by rw [hne k (by omega)]; exact h1.same k h1' h2', by rw [hw]; exact h1.tape, by rw [hw]; exact h1.os, by rw [hw]; exact h1.output⟩, h2, fun k q ho => ?_, h4, ?_, h6, h7, fun u hu => ?_⟩
  . have hk : k ≠ p := fun e => by rw [e, q1] at ho; cases ho
    have := h3 k q ho
    simp only [hp] at this ⊢
    rw [hne k hk]
    exact this
  . obtain ⟨b, c1, E', fr, bs, rfl, e1, e2, e3, e4⟩ := h5
    refine ⟨b, c1, E', fr, bs, rfl, e1, ?_, e3, e4.mono (Sub.refl _) _ _ _ _ (fun k hkm => hne k (fun e => q2 (by simp [<- e, hkm])))⟩
    simp only [hp] at e2 ⊢
    rw [hne b (fun e => q2 (by simp [<- e]))]; exact e2
  . rcases List.mem_cons.1 hu with rfl | hu
    . refine ⟨q1, q2, q3, ?_⟩
      rw [hw]
      exact z1t q4
    . obtain ⟨p1, p2, p3, p4⟩ := hL u (List.mem_cons_of_mem _ hu)
      exact ⟨p1, p2, p3, by rw [hne u.1 (hd u hu)]; exact p4⟩

theorem BSt.setCell {p : Nat} {cs : Array Value} {E : Nat} (h : BSt t w0 S0 ob0 bf w x ((p, cs, E) :: L)) (hd : ∀ q ∈ L, q.1 ≠ p) (i : Nat) (v : Value) :
    BSt t w0 S0 ob0 bf (w.setCell ⟨p, i, none⟩ v) x ((p, cs.setIfInBounds i v, E) :: L) := by
  have hb : hp w p = some (.cells cs E (0, 0)) := by
    obtain ⟨S, o, _, _, _, _, _, _, _, hL⟩ := h
    exact (hL _ (List.mem_cons_self ..)).2.2.2
  exact h.put hd (zox v hb)

theorem BSt.start {args : List A} {vals : List Value} {ob : Nat -> List Nat} (har : ArgsRel (hp w) S0 (.box t x :: args) vals ob) (hS : Sub S0 (hp w)) :
    ∃ bf vs, vals = .pointer (some ⟨bf, 0, none⟩) :: vs /\ ob 0 ≠ [] /\ BSt t w S0 (ob 0) bf w x [] := by
  obtain ⟨⟨v, hv, hr⟩, _⟩ := har.rel 0 _ rfl
  have hr' := hr
  obtain ⟨b, cs, E, fr, bs, hob, rfl, _⟩ := hr'
  cases vals with
  | nil => cases hv
  | cons v vs =>
    cases hv
    exact ⟨b, vs, rfl, by rw [hob]; simp, S0, ob 0, WF.refl _ _, Sub.refl _, hS, fun _ h => .inl h, hr, har.nd 0, fun k hk => ⟨har.hid 0 k hk, .inl hk⟩, fun p hp => by cases hp⟩

end
end Go.Lift
