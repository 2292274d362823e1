import Derived.Test.YtaackaafmidjkaaDoorLgPrBg2
import Derived.Test.YtaackaafmidjkaaDoorLgPrBg1
import Derived.LaidEql
import Derived.Stop.Asserts
import Derived.RowKitTokens
import Derived.Deep.RegionHeld3
import Derived.WalkKit
import Derived.Tactics
import Derived.Tactics2
import Derived.Defers
import Derived.Lib.Hide
import Derived.Below
import Derived.Recover
import Derived.Orders
import Derived.WalkSmall
import Derived.LoopN
import Derived.Test.YtaackaafmidjkaaDoorLgW
set_option linter.all false
set_option maxRecDepth 100000
namespace Go.Proofs.YtaackaafmidjkaaDoorLg
noncomputable section
open Go Go.Lift

def z8u : Code := (Go.Proofs.Tryd.f31.body).getD .skip

def z4l : List (List Nat × List Nat) := [([0], [0, 1]), ([0, 1], [0, 1]), ([0, 1, 1], [1, 0]), ([0, 1, 1, 1], [4, 5, 0]), ([1, 1, 1, 1], [4, 5, 0])]

def z2p (N : Nat) : Env := z2x tys zd [(53, z170)] [] [] [0] false [] []

theorem z94 (N : Nat) : EnvOk Go.Proofs.Tryd.prog (z2p N) := zl mixed z1f (FnsOk.cons (z1d3 zd) (FnsOk.nil)) (ItsOk.nil)

def ze (N : Nat) (b : (Unit × ((List Int) × Unit))) (s : (List UInt8)) : Option ((Int × Go.Value × Unit) × ((Unit × ((List Int) × Unit)) × Unit)) :=
 cond (decide ((((List.length b.2.1) + (List.length (Go.Lift.ofStr s))) * 1) <= 70368744177664))
 (some (((((List.length s) : Nat) : Int), (Go.Value.nilIface, ())), ((b.1, ((b.2.1 ++ (Go.Lift.ofStr s)), b.2.2)), ())))
 (none)

def z4k (N : Nat) : Tab ((Int × Go.Value × Unit) × ((Unit × ((List Int) × Unit)) × Unit)) := []

theorem z8t (N : Nat) (x : z2c [(0, .box (.pair (.self 68) (.pair (.own (.byt 5)) .unit))), (0, .v .str)]) : za3 (z2p N) N (z4k N) z4l Go.Proofs.Tryd.f31 (mkS [(0, .box (.pair (.self 68) (.pair (.own (.byt 5)) .unit))), (0, .v .str)] 0 x) (zfx (.tup [(.int .i64), .opq]) [(0, .box (.pair (.self 68) (.pair (.own (.byt 5)) .unit)))] 1) = ze N x.1 x.2.1 := by kernel_rfl

def z3q (N : Nat) : List A -> Res := z1i [(0, .box (.pair (.self 68) (.pair (.own (.byt 5)) .unit))), (0, .v .str)] (fun x => ze N x.1 x.2.1) (zjs (.tup [(.int .i64), .opq]) [(0, .box (.pair (.self 68) (.pair (.own (.byt 5)) .unit)))] 1)

theorem z44 (N : Nat) : Contract Go.Proofs.Tryd.prog zd 31 (z3q N) :=
  Contract.of (E := z2p N) (H := z4k N) (L := z4l) (N := N) (body := z8u) (K := (zfx (.tup [(.int .i64), .opq]) [(0, .box (.pair (.self 68) (.pair (.own (.byt 5)) .unit)))] 1)) (z94 N) Go.Proofs.Tryd.func31 (by kernel_rfl) (by decide) (fun _ hb => TabOk.nil) (fun x y h => by rw [z8t]; exact h) (zb4 (s := (.tup [(.int .i64), .opq])) (os := [(0, .box (.pair (.self 68) (.pair (.own (.byt 5)) .unit)))]) (m := 1))

def z9n : Code := (Go.Proofs.Tryd.f71.body).getD .skip

def z5a : List (List Nat × List Nat) := [([0], [0, 1]), ([0, 1], [0, 1]), ([0, 1, 1], [0]), ([0, 1, 1, 1], [4, 0]), ([1, 1, 1, 1], [4, 0])]

def z2y (N : Nat) : Env := z2x tys zd [(53, z170)] [] [] [0] false [] []

theorem zaa (N : Nat) : EnvOk Go.Proofs.Tryd.prog (z2y N) := zl mixed z1f (FnsOk.cons (z1d3 zd) (FnsOk.nil)) (ItsOk.nil)

def z1c (N : Nat) (b : (Unit × ((List Int) × Unit))) (c : Int) : Option (Go.Value × ((Unit × ((List Int) × Unit)) × Unit)) :=
 cond (decide ((((List.length b.2.1) + 1) * 1) <= 70368744177664))
 (some (Go.Value.nilIface, ((b.1, ((b.2.1 ++ ([c] : List Int)), b.2.2)), ())))
 (none)

def z59 (N : Nat) : Tab (Go.Value × ((Unit × ((List Int) × Unit)) × Unit)) := []

theorem z9m (N : Nat) (x : z2c [(0, .box (.pair (.self 68) (.pair (.own (.byt 5)) .unit))), (0, .v (.int .u8))]) : za3 (z2y N) N (z59 N) z5a Go.Proofs.Tryd.f71 (mkS [(0, .box (.pair (.self 68) (.pair (.own (.byt 5)) .unit))), (0, .v (.int .u8))] 0 x) (zfx (.v .opq) [(0, .box (.pair (.self 68) (.pair (.own (.byt 5)) .unit)))] 1) = z1c N x.1 x.2.1 := by kernel_rfl

def z4m (N : Nat) : List A -> Res := z1i [(0, .box (.pair (.self 68) (.pair (.own (.byt 5)) .unit))), (0, .v (.int .u8))] (fun x => z1c N x.1 x.2.1) (zjs (.v .opq) [(0, .box (.pair (.self 68) (.pair (.own (.byt 5)) .unit)))] 1)

theorem zb3 (N : Nat) : Contract Go.Proofs.Tryd.prog zd 71 (z4m N) :=
  Contract.of (E := z2y N) (H := z59 N) (L := z5a) (N := N) (body := z9n) (K := (zfx (.v .opq) [(0, .box (.pair (.self 68) (.pair (.own (.byt 5)) .unit)))] 1)) (zaa N) Go.Proofs.Tryd.func71 (by kernel_rfl) (by decide) (fun _ hb => TabOk.nil) (fun x y h => by rw [z9m]; exact h) (zb4 (s := (.v .opq)) (os := [(0, .box (.pair (.self 68) (.pair (.own (.byt 5)) .unit)))]) (m := 1))

def zdg (N : Nat) : Env := z2x tys zd [(71, z4m N), (20, zb5 N), (31, z3q N), (52, zlt N), (32, z14l)] [] [] [] false [(3, (.pair (.self 68) (.pair (.own (.byt 5)) .unit)))] []

theorem zu4 (N : Nat) : EnvOk Go.Proofs.Tryd.prog (zdg N) := zl mixed z1f (FnsOk.cons (zb3 N) (FnsOk.cons (zeb N) (FnsOk.cons (z44 N) (FnsOk.cons (zon N) (FnsOk.cons (z1a2 zd) (FnsOk.nil)))))) (ItsOk.nil)

def zgn (N : Nat) (x17 : (List ((List UInt8) × ((List UInt8) × Unit)))) (x18 : Int) (out : (Unit × ((List Int) × Unit))) (x19 : Int) (rec : (Unit × ((List Int) × Unit)) -> Int -> Option (List UInt8)) (k0 : (Unit × ((List Int) × Unit)) -> Option (List UInt8)) : Option (List UInt8) :=
 cond (decide (x19 < x18))
 (cond (Go.Lift.inR x19 (List.length x17))
 (cond ((List.getD x17 (Int.toNat x19) (([] : List UInt8), (([] : List UInt8), ()))).2.1 == ([] : List UInt8))
 ((z1c N out (0 : Int)).bind fun y =>
 (z4v N (List.getD x17 (Int.toNat x19) (([] : List UInt8), (([] : List UInt8), ()))).1).bind fun y1 =>
 (ze N y.2.1 y1).bind fun y2 =>
 rec y2.2.1 (Go.IntKind.wrap Go.IntKind.i64 (x19 + (1 : Int))))
 ((z1c N out (1 : Int)).bind fun y3 =>
 (z4v N (List.getD x17 (Int.toNat x19) (([] : List UInt8), (([] : List UInt8), ()))).1).bind fun y4 =>
 (ze N y3.2.1 y4).bind fun y5 =>
 (z4v N (List.getD x17 (Int.toNat x19) (([] : List UInt8), (([] : List UInt8), ()))).2.1).bind fun y6 =>
 (ze N y5.2.1 y6).bind fun y7 =>
 rec y7.2.1 (Go.IntKind.wrap Go.IntKind.i64 (x19 + (1 : Int)))))
 (none))
 (k0 out)

def zgo (N : Nat) (out : (Unit × ((List Int) × Unit))) (x17 : (List ((List UInt8) × ((List UInt8) × Unit)))) (x18 : Int) (x19 : Int) (k0 : (Unit × ((List Int) × Unit)) -> Option (List UInt8)) : Option (List UInt8) :=
 iter (fun (v : ((Unit × ((List Int) × Unit)) × Int)) r => zgn N x17 x18 v.1 v.2 (fun out x19 => (r (out, x19))) k0) N (out, x19)

def znp (N : Nat) (i : ((List ((List UInt8) × ((List UInt8) × Unit))) × Int)) (v : ((Unit × ((List Int) × Unit)) × Int)) (r : ((Unit × ((List Int) × Unit)) × Int) -> Option (List UInt8)) (K : Ex -> List A -> Option (List UInt8)) : Option (List UInt8) :=
 zgn N i.1 i.2 v.1 v.2 (fun out x19 => (r (out, x19))) (fun a0 => (K (.exit 0) (mkS [(3, .box (.pair (.self 68) (.pair (.own (.byt 5)) .unit)))] 38 (a0, ()))))

def zno (N : Nat) : Hd (List UInt8) := fun st K => (unS [(3, .box (.pair (.self 68) (.pair (.own (.byt 5)) .unit))), (13, .v (.sl (.pair .str (.pair .str .unit)))), (0, .v (.int .i64)), (0, .v (.int .i64))] 22 (restr [19, 18, 17, 3] 0 st)).bind fun x => iter (fun v r => znp N ((fun x => (x.2.1, x.2.2.1)) x) v r K) N ((fun x => (x.1, x.2.2.2.1)) x)

theorem zu3 {N : Nat} {c : Ctx} (hb : Base Go.Proofs.Tryd.prog (zdg N) c) : z12 Go.Proofs.Tryd.prog c (zk zbm [0, 1, 0, 1, 1, 1, 1]) (zno N) :=
  z6z (s := [(3, .box (.pair (.self 68) (.pair (.own (.byt 5)) .unit))), (13, .v (.sl (.pair .str (.pair .str .unit)))), (0, .v (.int .i64)), (0, .v (.int .i64))]) (m := 22) (znp N) [19, 18, 17, 3] N (fun x => (x.2.1, x.2.2.1)) (fun x => (x.1, x.2.2.2.1)) (fun i v => (v.1, i.1, i.2, v.2, ())) (fun _ => rfl) (zf hb N (zvt N) ziv zbm TabOk.nil [0, 0, 1, 0, 1, 1, 1, 1] _ rfl) (fun i v r K => by kernel_rfl)

def zbb (N : Nat) (t : ((List UInt8) × ((List ((List UInt8) × ((List UInt8) × Unit))) × ((List UInt8) × Unit)))) : Option (List UInt8) :=
 (z4v N t.1).bind fun y =>
 (ze N ((), (([] : List Int), ())) y).bind fun y1 =>
 (z8p N (Go.IntKind.wrap Go.IntKind.u64 (((List.length t.2.1) : Nat) : Int))).bind fun y2 =>
 (ze N y1.2.1 y2).bind fun y3 =>
 zgo N y3.2.1 t.2.1 (((List.length t.2.1) : Nat) : Int) (0 : Int)
 (fun out => (zzc (out, ())).bind fun y4 =>
 some y4.1)

def zq4 (N : Nat) : Tab (List UInt8) := [([0, 1, 0, 1, 1, 1, 1], zno N)]

theorem zry (N : Nat) (x : z2c [(0, .v (.pair .str (.pair (.sl (.pair .str (.pair .str .unit))) (.pair .str .unit))))]) : za3 (zdg N) N (zq4 N) ziv Go.Proofs.Tryd.f58 (mkS [(0, .v (.pair .str (.pair (.sl (.pair .str (.pair .str .unit))) (.pair .str .unit))))] 0 x) (z4j (.v .str) 1) = zbb N x.1 := by kernel_rfl

def zei (N : Nat) : List A -> Res := z1i [(0, .v (.pair .str (.pair (.sl (.pair .str (.pair .str .unit))) (.pair .str .unit))))] (fun x => zbb N x.1) (zap (.v .str) 1)

theorem znq (N : Nat) : Contract Go.Proofs.Tryd.prog zd 58 (zei N) :=
  Contract.of (E := zdg N) (H := zq4 N) (L := ziv) (N := N) (body := zbm) (K := (z4j (.v .str) 1)) (zu4 N) Go.Proofs.Tryd.func58 (by kernel_rfl) (by decide) (fun _ hb => (TabOk.cons (zu3 hb) TabOk.nil)) (fun x y h => by rw [zry]; exact h) (z19 (s := (.v .str)) (m := 1))

theorem zk4 {w w' : World} {S : Hp} {b : Nat} {x x' : RdrT.den} {rest : List A} {vals : List Value} {ob : Nat -> List Nat} {rA : A} {rV : Value} {outs : List A}
    (hrest : ∀ y ∈ rest, z9y y = false) (hv0 : vals[0]? = some (.pointer (some ⟨b, 0, none⟩))) (hob : ob 0 = [b]) (hob' : ∀ i, i ≠ 0 -> ob i = []) (houts : outs[0]? = some (.box RdrT x'))
    (hF : Fine w S b x' w') (hr : ∀ S', ARel (hp w') S' (fun _ => undef) rA rV []) (hrr : rA.refs = []) : Lift.Ends w S (.box RdrT x :: rest) vals ob rA outs (.returned rV) w' := by
  obtain ⟨S', h1, h2, h3, h4, h5, E, fr, h6, h7⟩ := hF
  have hmem : ∀ i k, k ∈ ob i -> k = b := fun i k hk => by
    by_cases hi : i = 0
    . subst hi; rw [hob] at hk; exact List.mem_singleton.1 hk
    . rw [hob' i hi] at hk; cases hk
  refine ⟨rV, S', [], ob, rfl, ⟨h1.size, fun k hk hn => h1.same k hk (fun e => hn ⟨0, by rw [hob, e]; exact List.mem_singleton.2 rfl⟩), h1.tape, h1.os, h1.output⟩, h2, h4, fun k hk => ?_, ⟨hr S', hrr⟩, (fun k hk => by cases hk), .nil, ?_, ?_, ?_, ?_, fun _ h => h⟩
  . rcases h3 k hk with h | h
    . exact .inl h
    . exact .inr (.inr h)
  . intro i y hy hbx
    match i with
    | 0 =>
      cases hy
      exact ⟨_, _, houts, hv0, rfl, by rw [hob]; exact z11i h6 h7⟩
    | i + 1 =>
      have := hrest y (List.mem_of_getElem? hy)
      rw [hbx] at this
      cases this
  . intro i k hk
    refine ⟨.inl ⟨i, hk⟩, ?_, fun h => by cases h⟩
    rw [hmem i k hk]; exact h5
  . intro i j k hi hj
    by_cases h0 : i = 0
    . by_cases h1 : j = 0
      . omega
      . rw [hob' j h1] at hj; cases hj
    . rw [hob' i h0] at hi; cases hi
  . intro i
    by_cases h0 : i = 0
    . subst h0; rw [hob]; exact List.nodup_cons.2 ⟨by simp, List.nodup_nil⟩
    . rw [hob' i h0]; exact .nil

theorem z19w {w : World} {S : Hp} {x : RdrT.den} {vals : List Value} {ob : Nat -> List Nat} (hS : Lift.Sub S (hp w)) (har : ArgsRel (hp w) S [.box RdrT x] vals ob) :
    ∃ b, vals = [.pointer (some ⟨b, 0, none⟩)] /\ ob 0 = [b] /\ (∀ i, i ≠ 0 -> ob i = []) /\ Rdr w S b x := by
  obtain ⟨⟨v0, hv0, hA0⟩, _⟩ := har.rel 0 _ rfl
  obtain ⟨b, E, fr, ho, hv, hc, hf⟩ := zw7 hA0
  have hlen := har.len
  have hvals : vals = [v0] := by
    match vals, hlen with
    | [a], _ => cases hv0; rfl
  subst hv
  exact ⟨b, hvals, ho, fun i hi => har.out i (by simp; omega), hS, har.hid 0 b (by rw [ho]; exact List.mem_singleton.2 rfl), E, fr, hc, hf⟩

theorem z129 {w : World} {S : Hp} {x : RdrT.den} {k : IntKind} {n : Int} {vals : List Value} {ob : Nat -> List Nat} (hS : Lift.Sub S (hp w)) (har : ArgsRel (hp w) S [.box RdrT x, .v (.int k) n] vals ob) :
    ∃ b, vals = [.pointer (some ⟨b, 0, none⟩), .int k n] /\ ob 0 = [b] /\ (∀ i, i ≠ 0 -> ob i = []) /\ Rdr w S b x := by
  obtain ⟨⟨v0, hv0, hA0⟩, _⟩ := har.rel 0 _ rfl
  obtain ⟨⟨v1, hv1, hA1⟩, _⟩ := har.rel 1 _ rfl
  obtain ⟨b, E, fr, ho, hv, hc, hf⟩ := zw7 hA0
  have hlen := har.len
  have hvals : vals = [v0, v1] := by
    match vals, hlen with
    | [a, c], _ => cases hv0; cases hv1; rfl
  have e1 := VR.int_inv hA1.1
  subst e1
  subst hv
  refine ⟨b, hvals, ho, fun i hi => ?_, hS, har.hid 0 b (by rw [ho]; exact List.mem_singleton.2 rfl), E, fr, hc, hf⟩
  match i with
  | 0 => exact absurd rfl hi
  | 1 => exact hA1.2
  | i + 2 => exact har.out _ (by simp)

def z5j (N : Nat) : List A -> Res := z1i [(0, .box (.pair .bool (.pair .str (.pair (.int .i64) .unit))))] (fun x => z16 N x.1) (zjs (.v (.int .u8)) [(0, .box (.pair .bool (.pair .str (.pair (.int .i64) .unit))))] 0)

theorem zay (N : Nat) : Contract Tryd.prog zd 61 (z5j N) := by
  refine Contract.hand ⟨_, Tryd.func61, by kernel_rfl, by decide⟩ ?_
  intro w S vals ob x y har hS hg hy
  obtain ⟨x, u⟩ := x
  cases u
  obtain ⟨b, rfl, ho, ho', hR⟩ := z19w hS har
  have fin : ∀ (n : Int) (x' : RdrT.den), y = (n, (x', ())) -> Calls Tryd.prog 61 #[.pointer (some ⟨b, 0, none⟩)] w (fun r w' => r = .returned (.int .u8 n) /\ Fine w S b x' w') →
      Calls Tryd.prog 61 [Value.pointer (some ⟨b, 0, none⟩)].toArray w fun e w' => Lift.Ends w S (mkS [(0, .box RdrT)] 0 (x, ())) [.pointer (some ⟨b, 0, none⟩)] ob (zjs (.v (.int .u8)) [(0, .box RdrT)] 0 y).1 (zjs (.v (.int .u8)) [(0, .box RdrT)] 0 y).2 e w' := by
    rintro n x' rfl hc
    refine hc.mono ?_
    rintro r w' ⟨rfl, hF⟩
    exact zk4 (rest := []) (fun _ h => by cases h) rfl ho ho' rfl hF (fun S' => ⟨VR.int, rfl⟩) rfl
  have hy' : z16 N x = some y := hy
  unfold z16 at hy'
  cases hr : (x.1 && (x.2.2.1 == 0)) with
  | false =>
    rw [hr] at hy'
    cases hy'
    exact fin _ _ rfl (z19f N hR hr)
  | true =>
    rw [hr] at hy'
    by_cases hle : 1 <= Go.IntKind.wrap .u64 (x.2.1.length : Int)
    . rw [decide_eq_true hle] at hy'
      cases hy'
      obtain ⟨m, s, e, u⟩ := x
      cases u
      cases s with
      | nil => exact absurd (show 1 <= Go.IntKind.wrap .u64 (0 : Int) from hle) (by decide)
      | cons a l => exact fin _ _ rfl (z1c6 N hR hr hle)
    . rw [decide_eq_false hle] at hy'
      cases hy'
      refine fin _ _ rfl ?_
      have e : zta x 1 = (x.1, [], 1, ()) := by
        unfold zta
        rw [hr]
        rfl
      rw [<- e]
      exact z19g N hR hr hle

def z2b (N : Nat) (x : RdrT.den) (most : Int) : Option (Int × (RdrT.den × Unit)) :=
 cond (x.1 && (x.2.2.1 == 0))
 ((z2o N x.2.1).bind fun y =>
 cond (decide (y.2.2.1 = 0))
 (cond (decide (y.1 <= most))
 (cond (decide (0 <= y.2.1 /\ y.2.1 <= x.2.1.length))
 (some (y.1, ((x.1, x.2.1.drop y.2.1.toNat, x.2.2.1, ()), ())))
 none)
 (some (0, ((x.1, [], 3, ()), ()))))
 (some (0, ((x.1, [], y.2.2.1, ()), ()))))
 (some (0, (x, ())))

theorem zop {x : RdrT.den} {e : Int} (hr : (x.1 && (x.2.2.1 == 0)) = true) (he : e ≠ 0) : zta x e = (x.1, [], e, ()) := by
  unfold zta
  rw [hr, bne_iff_ne.2 he]
  rfl

theorem z18n (N : Nat) {w : World} {S : Hp} {b : Nat} {x : RdrT.den} {most n : Int} {x' : RdrT.den} (h : Rdr w S b x) (hy : z2b N x most = some (n, (x', ()))) :
    Calls Tryd.prog 24 #[.pointer (some ⟨b, 0, none⟩), .int .u64 most] w fun r w' => r = .returned (.int .u64 n) /\ Fine w S b x' w' := by
  unfold z2b at hy
  cases hr : (x.1 && (x.2.2.1 == 0)) with
  | false =>
    rw [hr] at hy
    cases hy
    exact z1br N h hr
  | true =>
    rw [hr] at hy
    cases ht : z2o N x.2.1 with
    | none => rw [ht] at hy; cases hy
    | some y =>
      rw [ht, Option.bind_some] at hy
      by_cases he : y.2.2.1 = 0
      . rw [decide_eq_true he] at hy
        by_cases hm : y.1 <= most
        . rw [decide_eq_true hm] at hy
          by_cases hu : 0 <= y.2.1 /\ y.2.1 <= x.2.1.length
          . rw [decide_eq_true hu] at hy
            cases hy
            exact z1cu N h hr (fun w1 S1 h1 => zmr N h1 ht he hm hu.1 hu.2)
          . rw [decide_eq_false hu] at hy
            cases hy
        . rw [decide_eq_false hm] at hy
          cases hy
          rw [<- zop hr (by decide : (3 : Int) ≠ 0)]
          exact z11s N h hr (fun w1 S1 h1 => zsq N h1 ht he hm)
      . rw [decide_eq_false he] at hy
        cases hy
        rw [<- zop hr he]
        exact z11s N h hr (fun w1 S1 h1 => zv7 N h1 ht he)

def zas (N : Nat) : List A -> Res := z1i [(0, .box (.pair .bool (.pair .str (.pair (.int .i64) .unit)))), (0, .v (.int .u64))] (fun x => z2b N x.1 x.2.1) (zjs (.v (.int .u64)) [(0, .box (.pair .bool (.pair .str (.pair (.int .i64) .unit))))] 1)

theorem zhj (N : Nat) : Contract Tryd.prog zd 24 (zas N) := by
  refine Contract.hand ⟨_, Tryd.func24, by kernel_rfl, by decide⟩ ?_
  intro w S vals ob x y har hS hg hy
  obtain ⟨x, most, u⟩ := x
  cases u
  obtain ⟨n, x', u⟩ := y
  cases u
  obtain ⟨b, rfl, ho, ho', hR⟩ := z129 hS har
  refine (z18n N hR hy).mono ?_
  rintro r w' ⟨rfl, hF⟩
  exact zk4 (rest := [.v (.int .u64) most]) (fun _ h => by rw [List.mem_singleton.1 h]; rfl) rfl ho ho' rfl hF (fun S' => ⟨VR.int, rfl⟩) rfl

theorem z12x (N : Nat) {w : World} {S : Hp} (hS : Lift.Sub S (hp w)) :
    Calls Tryd.prog 43 #[.pointer none] w fun r w' => r = .returned (.bool false) ∧
      ∃ S', WF w (fun _ => False) w' /\ Lift.Sub S S' /\ Lift.Sub S' (hp w') /\ ∀ k, S' k ≠ none -> S k ≠ none \/ w.heap.size <= k := by
  have h := (z6m N).2 w S [.v .opq (.pointer none)] [.pointer none] (fun _ => []) ⟨rfl, fun i x hx => ?_, fun _ _ => rfl, (fun i j b hb => by cases hb), fun _ => .nil, (fun i b hb => by cases hb)⟩ hS (z9z S) false rfl
  . refine h.mono ?_
    rintro r w' ⟨v, S', o, ob', rfl, hwf, h3, h4, h5, ⟨⟨hv, _⟩, _⟩, _⟩
    refine ⟨by rw [VR.bool_inv hv], S', ⟨hwf.size, fun k hk _ => hwf.same k hk (by rintro ⟨i, hi⟩; cases hi), hwf.tape, hwf.os, hwf.output⟩, h3, h4, fun b hb => ?_⟩
    rcases h5 b hb with h | ⟨i, hi⟩ | h
    . exact .inl h
    . cases hi
    . exact .inr h
  . match i with
    | 0 => cases hx; exact ⟨⟨_, rfl, VR.of_one rfl ⟨rfl, rfl⟩, rfl⟩, rfl⟩
    | i + 1 => cases hx

theorem z1bs (N : Nat) {w : World} {S : Hp} {most : Int} (hS : Lift.Sub S (hp w)) :
    Calls Tryd.prog 24 #[.pointer none, .int .u64 most] w fun r w' => r = .returned (.int .u64 0) ∧
      ∃ S', WF w (fun _ => False) w' /\ Lift.Sub S S' /\ Lift.Sub S' (hp w') /\ ∀ k, S' k ≠ none -> S k ≠ none \/ w.heap.size <= k := by
  have hmf : ∀ (fn : Fn) (first cap : Array Value) (w : World), (Instr.makeFunc fn first cap).run Tryd.prog w = .ok (.func fn first cap) w := fun _ _ _ _ => rfl
  have hA := z39 w (.pointer none) 47
  have hh : (w.alloc (.cells #[.pointer none] 47)).heap = w.heap.push (.cells #[.pointer none] 47 (0, 0)) := rfl
  have hk : ∀ k, k < w.heap.size -> (w.alloc (.cells #[.pointer none] 47)).heap[k]? = w.heap[k]? := fun k hk => by
    rw [hh, Array.getElem?_push, if_neg (by omega)]
  have hz : (w.alloc (.cells #[.pointer none] 47)).heap.size = w.heap.size + 1 := by rw [hh, Array.size_push]
  have hS1 : Lift.Sub S (hp (w.alloc (.cells #[.pointer none] 47))) := fun k o ho => by
    have := hS k o ho
    simp only [hp] at this ⊢
    rw [hk k (Array.getElem?_eq_some_iff.1 this).1]
    exact this
  have hcr := z12x N hS1
  clear hh
  go_enter_defers Tryd.func24, Tryd.ntmps24
  go_wp2_with (go_at_call 43; refine hcr.mono ?_; rintro r w2 ⟨rfl, hF2⟩; have HM := Go.Lib.hid hF2; clear hcr hF2)
  obtain ⟨S2, g1, g2, g3, g4⟩ := HM.out
  have hc2 : w2.cell? ⟨w.heap.size, 0, none⟩ = some (.pointer none) := by
    have := g1.same w.heap.size (by rw [hz]; omega) (fun h => h)
    simp only [World.cell?] at hA ⊢
    rw [this]; exact hA
  refine leaves_cons (f := 41) (args := #[.pointer (some ⟨w.heap.size, 0, none⟩)]) (by simp) (by simp [go_sem]) ?_
  refine (zw9 hc2).mono ?_
  rintro r u w3 ⟨⟨v, rfl⟩, rfl, rfl⟩
  refine ⟨_, ?_, rfl, S2, ⟨?_, fun k h1 _ => ?_, ?_, ?_, ?_⟩, g2, g3, fun k hk => ?_⟩
  . simp [results, Tryd.results24, go_sem]
  . have := g1.size
    rw [hz] at this
    exact Nat.le_of_succ_le this
  . have := g1.same k (by rw [hz]; omega) (fun h => h)
    exact this.trans (hk k h1)
  . exact g1.tape
  . exact g1.os
  . exact g1.output
  . rcases g4 k hk with h | h
    . exact .inl h
    . rw [hz] at h; exact .inr (by omega)

def z6c (N : Nat) : List A -> Res := zqe [(0, .nilp), (0, .v (.int .u64))] (fun _ => some 0) (zap (.v (.int .u64)) 2) (zas N)

theorem zcf (N : Nat) : Contract Tryd.prog zd 24 (z6c N) := by
  refine Contract.alt (Contract.hand ⟨_, Tryd.func24, by kernel_rfl, by decide⟩ ?_) (zhj N)
  intro w S vals ob x y har hS hg hy
  obtain ⟨p, most, u⟩ := x
  cases p
  cases u
  cases hy
  obtain ⟨⟨v0, hv0, hA0, ho0⟩, _⟩ := har.rel 0 _ rfl
  obtain ⟨⟨v1, hv1, hA1, ho1⟩, _⟩ := har.rel 1 _ rfl
  have hvals : vals = [v0, v1] := by
    match vals, har.len with
    | [a, c], _ => cases hv0; cases hv1; rfl
  have e0 := VR.opq_inv hA0
  have e1 := VR.int_inv hA1
  subst e0
  subst e1
  subst hvals
  have hnone : ∀ i, ob i = [] := fun i => by
    match i with
    | 0 => exact ho0
    | 1 => exact ho1
    | i + 2 => exact har.out _ (by simp [mkS, zct])
  refine (z1bs N hS).mono ?_
  rintro r w' ⟨rfl, S', h1, h2, h3, h4⟩
  refine ⟨_, S', [], ob, rfl, ⟨h1.size, fun k hk _ => h1.same k hk (fun h => h), h1.tape, h1.os, h1.output⟩, h2, h3, fun k hk => ?_, ⟨⟨VR.int, rfl⟩, rfl⟩, (fun k hk => by cases hk), .nil, ?_, ?_, har.inj, har.nd, fun _ h => h⟩
  . rcases h4 k hk with h | h
    . exact .inl h
    . exact .inr (.inr h)
  . intro i y hy hbx
    match i with
    | 0 => cases hy; cases hbx
    | 1 => cases hy; cases hbx
    | i + 2 => simp [mkS, zct] at hy
  . intro i k hk
    rw [hnone i] at hk
    cases hk

theorem z17u (n : Nat) : Go.IntKind.wrap .u64 (n : Int) <= n := by
  have e : Go.IntKind.wrap .u64 (n : Int) = (n : Int) % 18446744073709551616 := rfl
  rw [e]
  omega

theorem z14j {w : World} {S : Hp} {b : Nat} {x : RdrT.den} (h : Rdr w S b x) {n : Int} (hn : 0 <= n) (hle : n <= Go.IntKind.wrap .u64 (x.2.1.length : Int)) :
    Calls Tryd.prog 63 #[.pointer (some ⟨b, 0, none⟩), .int .u64 n] w fun r w' => r = .returned (.string ⟨⟨x.2.1.take n.toNat⟩⟩) /\ Fine w S b (x.1, x.2.1.drop n.toNat, x.2.2.1, ()) w' := by
  obtain ⟨c1, z1⟩ := z9o h
  refine (zxf c1 z1 hn hle (Int.le_trans hle (z17u _))).mono ?_
  rintro r w' ⟨rfl, rfl⟩
  exact ⟨rfl, zwn h _⟩

theorem z10z {w : World} {S : Hp} {b : Nat} {x : RdrT.den} (h : Rdr w S b x) {n : Int} (hle : ¬ n <= Go.IntKind.wrap .u64 (x.2.1.length : Int)) :
    Calls Tryd.prog 63 #[.pointer (some ⟨b, 0, none⟩), .int .u64 n] w fun r w' => r = .panicked [{ v := .iface 30 (.int .i64 1), recovered := false }] /\ Fine w S b x w' := by
  obtain ⟨c1, z1⟩ := z9o h
  refine (zxg c1 z1 hle).mono ?_
  rintro r w' ⟨rfl, rfl⟩
  exact ⟨rfl, z16i h⟩

def zq (N : Nat) (x : RdrT.den) (most : Int) : Option (List UInt8 × (RdrT.den × Unit)) :=
 cond (x.1 && (x.2.2.1 == 0))
 ((z2o N x.2.1).bind fun y =>
 cond (decide (y.2.2.1 = 0))
 (cond (decide (y.1 <= Go.IntKind.wrap .u64 (if most < 0 then 0 else most)))
 (cond (decide (0 <= y.1 /\ 0 <= y.2.1 /\ y.2.1 <= x.2.1.length))
 (cond (decide (y.1 <= Go.IntKind.wrap .u64 ((x.2.1.drop y.2.1.toNat).length : Int)))
 (some ((x.2.1.drop y.2.1.toNat).take y.1.toNat, ((x.1, (x.2.1.drop y.2.1.toNat).drop y.1.toNat, x.2.2.1, ()), ())))
 (some ([], ((x.1, [], 1, ()), ()))))
 none)
 (some ([], ((x.1, [], 3, ()), ()))))
 (some ([], ((x.1, [], y.2.2.1, ()), ()))))
 (some ([], (x, ())))

theorem z14i (N : Nat) {w : World} {S : Hp} {b : Nat} {x : RdrT.den} {most : Int} {s : List UInt8} {x' : RdrT.den} (h : Rdr w S b x) (hy : zq N x most = some (s, (x', ()))) :
    Calls Tryd.prog 39 #[.pointer (some ⟨b, 0, none⟩), .int .i64 most] w fun r w' => r = .returned (.string ⟨⟨s⟩⟩) /\ Fine w S b x' w' := by
  unfold zq at hy
  cases hr : (x.1 && (x.2.2.1 == 0)) with
  | false =>
    rw [hr] at hy
    cases hy
    exact z17z N h hr
  | true =>
    rw [hr] at hy
    cases ht : z2o N x.2.1 with
    | none => rw [ht] at hy; cases hy
    | some y =>
      rw [ht, Option.bind_some] at hy
      by_cases he : y.2.2.1 = 0
      . rw [decide_eq_true he] at hy
        by_cases hm : y.1 <= Go.IntKind.wrap .u64 (if most < 0 then 0 else most)
        . rw [decide_eq_true hm] at hy
          by_cases hu : 0 <= y.1 /\ 0 <= y.2.1 /\ y.2.1 <= x.2.1.length
          . rw [decide_eq_true hu] at hy
            by_cases hl : y.1 <= Go.IntKind.wrap .u64 ((x.2.1.drop y.2.1.toNat).length : Int)
            . rw [decide_eq_true hl] at hy
              cases hy
              exact z1bd N h rfl hr (fun w1 S1 h1 => zmr N h1 ht he hm hu.2.1 hu.2.2) (fun w1 S1 h1 => z14j h1 hu.1 hl)
            . rw [decide_eq_false hl] at hy
              cases hy
              have e := zop (x := (x.1, x.2.1.drop y.2.1.toNat, x.2.2.1, ())) (e := 1) hr (by decide)
              have k := z181 N h rfl hr (fun w1 S1 h1 => zmr N h1 ht he hm hu.2.1 hu.2.2) (fun w1 S1 h1 => z10z h1 hl)
              rw [e] at k
              exact k
          . rw [decide_eq_false hu] at hy
            cases hy
        . rw [decide_eq_false hm] at hy
          cases hy
          rw [<- zop hr (by decide : (3 : Int) ≠ 0)]
          exact zxd N h rfl hr (fun w1 S1 h1 => zsq N h1 ht he hm)
      . rw [decide_eq_false he] at hy
        cases hy
        rw [<- zop hr he]
        exact zxd N h rfl hr (fun w1 S1 h1 => zv7 N h1 ht he)

def z3d (N : Nat) : List A -> Res := z1i [(0, .box (.pair .bool (.pair .str (.pair (.int .i64) .unit)))), (0, .v (.int .i64))] (fun x => zq N x.1 x.2.1) (zjs (.v .str) [(0, .box (.pair .bool (.pair .str (.pair (.int .i64) .unit))))] 1)

theorem z6b (N : Nat) : Contract Tryd.prog zd 39 (z3d N) := by
  refine Contract.hand ⟨_, Tryd.func39, by kernel_rfl, by decide⟩ ?_
  intro w S vals ob x y har hS hg hy
  obtain ⟨x, most, u⟩ := x
  cases u
  obtain ⟨s, x', u⟩ := y
  cases u
  obtain ⟨b, rfl, ho, ho', hR⟩ := z129 hS har
  refine (z14i N hR hy).mono ?_
  rintro r w' ⟨rfl, hF⟩
  exact zk4 (rest := [.v (.int .i64) most]) (fun _ h => by rw [List.mem_singleton.1 h]; rfl) rfl ho ho' rfl hF (fun S' => ⟨VR.str, rfl⟩) rfl

def znj : Code := (Go.Proofs.Tryd.f60.body).getD .skip

def zis : List (List Nat × List Nat) := [([0], [0, 2]), ([0, 1], [0, 3, 2]), ([0, 0, 1, 1], [5, 0, 3, 2]), ([0, 0, 1, 0, 1, 1], [8, 0, 3, 2, 5]), ([1, 0, 1, 0, 1, 1], [3, 2, 0]), ([0, 1, 1, 0, 1, 0, 1, 1], [13, 0, 3, 2]), ([1, 1, 1, 0, 1, 0, 1, 1], [3, 2, 0]), ([1, 1, 1, 1, 0, 1, 0, 1, 1], [3, 2, 0]), ([0, 0, 1, 1, 1, 0, 1, 0, 1, 1], [0, 3, 2]), ([0, 1, 0, 1, 1, 1, 0, 1, 0, 1, 1], [3, 0, 2]), ([0, 1, 1, 0, 1, 1, 1, 0, 1, 0, 1, 1], [23, 0, 3, 2]), ([1, 1, 1, 0, 1, 1, 1, 0, 1, 0, 1, 1], [3, 2, 0]), ([0, 1, 1, 1, 0, 1, 1, 1, 0, 1, 0, 1, 1], [3, 2, 0]), ([0, 1, 0, 1, 0, 1, 1], [3, 2, 0]), ([1, 0, 1, 1], [3, 2, 0]), ([0, 1, 1, 1], [2, 0]), ([1, 1, 1, 1], [2, 0])]

def zbj (N : Nat) : Env := z2x tys zd [(61, z5j N), (39, z3d N), (40, z1s N)] [] [] [0] false [] []

theorem zpa (N : Nat) : EnvOk Go.Proofs.Tryd.prog (zbj N) := zl mixed z1f (FnsOk.cons (zay N) (FnsOk.cons (z6b N) (FnsOk.cons (z26 N) (FnsOk.nil)))) (ItsOk.nil)

def z7p (N : Nat) (f : (Bool × ((List UInt8) × (Int × Unit)))) : Option (((List UInt8) × ((List UInt8) × Unit)) × ((Bool × ((List UInt8) × (Int × Unit))) × Unit)) :=
 (z16 N f).bind fun y =>
 cond (y.1 == (0 : Int))
 ((zq N y.2.1 (2048 : Int)).bind fun y1 =>
 some ((y1.1, (([] : List UInt8), ())), (y1.2.1, ())))
 (cond (y.1 == (1 : Int))
 ((zq N y.2.1 (4144 : Int)).bind fun y2 =>
 (zq N y2.2.1 (4144 : Int)).bind fun y3 =>
 cond (y3.1 == ([] : List UInt8))
 ((zm N y3.2.1 (2 : Int)).bind fun y4 =>
 some ((y2.1, (y3.1, ())), (y4.2.1, ())))
 (some ((y2.1, (y3.1, ())), (y3.2.1, ()))))
 ((zm N y.2.1 (2 : Int)).bind fun y5 =>
 some ((([] : List UInt8), (([] : List UInt8), ())), (y5.2.1, ()))))

def zir (N : Nat) : Tab (((List UInt8) × ((List UInt8) × Unit)) × ((Bool × ((List UInt8) × (Int × Unit))) × Unit)) := []

theorem zni (N : Nat) (x : z2c [(0, .box (.pair .bool (.pair .str (.pair (.int .i64) .unit))))]) : za3 (zbj N) N (zir N) zis Go.Proofs.Tryd.f60 (mkS [(0, .box (.pair .bool (.pair .str (.pair (.int .i64) .unit))))] 0 x) (zfx (.v (.pair .str (.pair .str .unit))) [(0, .box (.pair .bool (.pair .str (.pair (.int .i64) .unit))))] 0) = z7p N x.1 := by kernel_rfl

def zf7 (N : Nat) : List A -> Res := z1i [(0, .box (.pair .bool (.pair .str (.pair (.int .i64) .unit))))] (fun x => z7p N x.1) (zjs (.v (.pair .str (.pair .str .unit))) [(0, .box (.pair .bool (.pair .str (.pair (.int .i64) .unit))))] 0)

theorem zr0 (N : Nat) : Contract Go.Proofs.Tryd.prog zd 60 (zf7 N) :=
  Contract.of (E := zbj N) (H := zir N) (L := zis) (N := N) (body := znj) (K := (zfx (.v (.pair .str (.pair .str .unit))) [(0, .box (.pair .bool (.pair .str (.pair (.int .i64) .unit))))] 0)) (zpa N) Go.Proofs.Tryd.func60 (by kernel_rfl) (by decide) (fun _ hb => TabOk.nil) (fun x y h => by rw [zni]; exact h) (zb4 (s := (.v (.pair .str (.pair .str .unit)))) (os := [(0, .box (.pair .bool (.pair .str (.pair (.int .i64) .unit))))]) (m := 0))

def zib : Code := (Go.Proofs.Tryd.f45.body).getD .skip

def zch : List (List Nat × List Nat) := [([0], [0]), ([0, 0, 1], [4, 0]), ([1, 0, 1], [0]), ([0, 0, 1, 0, 1], [2, 0]), ([1, 0, 1, 0, 1], [2, 0]), ([0, 1, 1], [2, 0]), ([1, 1, 1], [2, 0])]

def z70 (N : Nat) : Env := z2x tys zd [] [] [] [0] false [] []

theorem zjz (N : Nat) : EnvOk Go.Proofs.Tryd.prog (z70 N) := zl mixed z1f (FnsOk.nil) (ItsOk.nil)

def zg2 (N : Nat) (r_ : (Bool × ((List UInt8) × (Int × Unit)))) : Option (Int × ((Bool × ((List UInt8) × (Int × Unit))) × Unit)) :=
 some ((((List.length r_.2.1) : Nat) : Int), (r_, ()))

def zcg (N : Nat) : Tab (Int × ((Bool × ((List UInt8) × (Int × Unit))) × Unit)) := []

theorem zia (N : Nat) (x : z2c [(0, .box (.pair .bool (.pair .str (.pair (.int .i64) .unit))))]) : za3 (z70 N) N (zcg N) zch Go.Proofs.Tryd.f45 (mkS [(0, .box (.pair .bool (.pair .str (.pair (.int .i64) .unit))))] 0 x) (zfx (.v (.int .i64)) [(0, .box (.pair .bool (.pair .str (.pair (.int .i64) .unit))))] 0) = zg2 N x.1 := by kernel_rfl

def za1 (N : Nat) : List A -> Res := z1i [(0, .box (.pair .bool (.pair .str (.pair (.int .i64) .unit))))] (fun x => zg2 N x.1) (zjs (.v (.int .i64)) [(0, .box (.pair .bool (.pair .str (.pair (.int .i64) .unit))))] 0)

theorem zl6 (N : Nat) : Contract Go.Proofs.Tryd.prog zd 45 (za1 N) :=
  Contract.of (E := z70 N) (H := zcg N) (L := zch) (N := N) (body := zib) (K := (zfx (.v (.int .i64)) [(0, .box (.pair .bool (.pair .str (.pair (.int .i64) .unit))))] 0)) (zjz N) Go.Proofs.Tryd.func45 (by kernel_rfl) (by decide) (fun _ hb => TabOk.nil) (fun x y h => by rw [zia]; exact h) (zb4 (s := (.v (.int .i64))) (os := [(0, .box (.pair .bool (.pair .str (.pair (.int .i64) .unit))))]) (m := 0))

def zd7 : Code := (Go.Proofs.Tryd.f45.body).getD .skip

def z8d : List (List Nat × List Nat) := [([0], [0]), ([0, 0, 1], [4, 0]), ([1, 0, 1], [0]), ([0, 0, 1, 0, 1], [2]), ([1, 0, 1, 0, 1], [2]), ([0, 1, 1], [2]), ([1, 1, 1], [2])]

def z4d (N : Nat) : Env := z2x tys zd [] [] [] [] false [] []

theorem zew (N : Nat) : EnvOk Go.Proofs.Tryd.prog (z4d N) := zl mixed z1f (FnsOk.nil) (ItsOk.nil)

def z5g (N : Nat) : Option Int :=
 some (0 : Int)

def z8c (N : Nat) : Tab Int := []

theorem zd6 (N : Nat) (x : z2c [(0, .nilp)]) : za3 (z4d N) N (z8c N) z8d Go.Proofs.Tryd.f45 (mkS [(0, .nilp)] 0 x) (z4j (.v (.int .i64)) 1) = z5g N := by kernel_rfl

def zev (N : Nat) : List A -> Res := z1i [(0, .nilp)] (fun x => z5g N) (zap (.v (.int .i64)) 1)

theorem zg1 (N : Nat) : Contract Go.Proofs.Tryd.prog zd 45 (zev N) :=
  Contract.of (E := z4d N) (H := z8c N) (L := z8d) (N := N) (body := zd7) (K := (z4j (.v (.int .i64)) 1)) (zew N) Go.Proofs.Tryd.func45 (by kernel_rfl) (by decide) (fun _ hb => TabOk.nil) (fun x y h => by rw [zd6]; exact h) (z19 (s := (.v (.int .i64))) (m := 1))

def z3i (N : Nat) : List A -> Res := zqe [(0, .nilp)] (fun x => z5g N) (zap (.v (.int .i64)) 1) (za1 N)

theorem z5f (N : Nat) : Contract Go.Proofs.Tryd.prog zd 45 (z3i N) := Contract.alt (zg1 N) (zl6 N)

def z2k : Code := (Go.Proofs.Tryd.f46.body).getD .skip

def z55 : List (List Nat × List Nat) := [([0], [0]), ([0, 0, 1], [11, 0]), ([1, 0, 1], [0]), ([0, 0, 1, 0, 1], [2, 0]), ([1, 0, 1, 0, 1], [2, 0]), ([0, 1, 1], [2, 0]), ([1, 1, 1], [2, 0])]

def z3e (N : Nat) : Env := z2x tys zd [] [] [] [0] false [] []

theorem zla (N : Nat) : EnvOk Go.Proofs.Tryd.prog (z3e N) := zl mixed z1f (FnsOk.nil) (ItsOk.nil)

def zcj (N : Nat) (r_ : (Bool × ((List UInt8) × (Int × Unit)))) (k0 : Bool -> Option (Int × ((Bool × ((List UInt8) × (Int × Unit))) × Unit))) : Option (Int × ((Bool × ((List UInt8) × (Int × Unit))) × Unit)) :=
 k0 (!r_.1)

def zcn (N : Nat) (x : z2c [(0, .box (.pair .bool (.pair .str (.pair (.int .i64) .unit))))]) (K : Ex -> List A -> Option (Int × ((Bool × ((List UInt8) × (Int × Unit))) × Unit))) : Option (Int × ((Bool × ((List UInt8) × (Int × Unit))) × Unit)) :=
 zcj N x.1 (fun a1 => (K .normal (mkS [(0, .box (.pair .bool (.pair .str (.pair (.int .i64) .unit)))), (10, .v .bool)] 4 (x.1, a1, ()))))

def zcl (N : Nat) : Hd (Int × ((Bool × ((List UInt8) × (Int × Unit))) × Unit)) := fun st K => (unS [(0, .box (.pair .bool (.pair .str (.pair (.int .i64) .unit))))] 15 (restr [0] 0 st)).bind fun x => zcn N x K

def zmy (N : Nat) : Tab (Int × ((Bool × ((List UInt8) × (Int × Unit))) × Unit)) := []

theorem zl8 {N : Nat} {c : Ctx} (hb : Base Go.Proofs.Tryd.prog (z3e N) c) : z12 Go.Proofs.Tryd.prog c (zk z2k [0, 0, 1]) (zcl N) :=
  z1b (s := [(0, .box (.pair .bool (.pair .str (.pair (.int .i64) .unit))))]) (m := 15) (g := zcn N) [0] (zf hb N (zmy N) z55 z2k TabOk.nil [0, 0, 1] _ rfl) (fun x K => by kernel_rfl)

def zck (N : Nat) (r_ : (Bool × ((List UInt8) × (Int × Unit)))) (k0 : Int -> Option (Int × ((Bool × ((List UInt8) × (Int × Unit))) × Unit))) (k1 : Option (Int × ((Bool × ((List UInt8) × (Int × Unit))) × Unit))) : Option (Int × ((Bool × ((List UInt8) × (Int × Unit))) × Unit)) :=
 zcj N r_
 (fun x11 => cond x11
 (k0 (21 : Int))
 (k1))

def zco (N : Nat) (x : z2c [(0, .box (.pair .bool (.pair .str (.pair (.int .i64) .unit))))]) (K : Ex -> List A -> Option (Int × ((Bool × ((List UInt8) × (Int × Unit))) × Unit))) : Option (Int × ((Bool × ((List UInt8) × (Int × Unit))) × Unit)) :=
 zck N x.1 (fun a1 => (K .ret (mkS [(0, .box (.pair .bool (.pair .str (.pair (.int .i64) .unit)))), (1, .v (.int .i64))] 13 (x.1, a1, ())))) (K .normal (mkS [(0, .box (.pair .bool (.pair .str (.pair (.int .i64) .unit))))] 15 (x.1, ())))

def zcm (N : Nat) : Hd (Int × ((Bool × ((List UInt8) × (Int × Unit))) × Unit)) := fun st K => (unS [(0, .box (.pair .bool (.pair .str (.pair (.int .i64) .unit))))] 15 (restr [0] 0 st)).bind fun x => zco N x K

def zmz (N : Nat) : Tab (Int × ((Bool × ((List UInt8) × (Int × Unit))) × Unit)) := [([0, 0, 1], zcl N)]

theorem zl9 {N : Nat} {c : Ctx} (hb : Base Go.Proofs.Tryd.prog (z3e N) c) : z12 Go.Proofs.Tryd.prog c (zk z2k [0, 1]) (zcm N) :=
  z1b (s := [(0, .box (.pair .bool (.pair .str (.pair (.int .i64) .unit))))]) (m := 15) (g := zco N) [0] (zf hb N (zmz N) z55 z2k (TabOk.cons (zl8 hb) TabOk.nil) [0, 1] _ rfl) (fun x K => by kernel_rfl)

def z6p (N : Nat) (r_ : (Bool × ((List UInt8) × (Int × Unit)))) : Option (Int × ((Bool × ((List UInt8) × (Int × Unit))) × Unit)) :=
 zck N r_
 (fun x2 => some (x2, (r_, ())))
 (some (r_.2.2.1, (r_, ())))

def ze9 (N : Nat) : Tab (Int × ((Bool × ((List UInt8) × (Int × Unit))) × Unit)) := [([0, 1], zcm N)]

theorem zk2 (N : Nat) (x : z2c [(0, .box (.pair .bool (.pair .str (.pair (.int .i64) .unit))))]) : za3 (z3e N) N (ze9 N) z55 Go.Proofs.Tryd.f46 (mkS [(0, .box (.pair .bool (.pair .str (.pair (.int .i64) .unit))))] 0 x) (zfx (.v (.int .i64)) [(0, .box (.pair .bool (.pair .str (.pair (.int .i64) .unit))))] 0) = z6p N x.1 := by kernel_rfl

def zaw (N : Nat) : List A -> Res := z1i [(0, .box (.pair .bool (.pair .str (.pair (.int .i64) .unit))))] (fun x => z6p N x.1) (zjs (.v (.int .i64)) [(0, .box (.pair .bool (.pair .str (.pair (.int .i64) .unit))))] 0)

theorem zn0 (N : Nat) : Contract Go.Proofs.Tryd.prog zd 46 (zaw N) :=
  Contract.of (E := z3e N) (H := ze9 N) (L := z55) (N := N) (body := z2k) (K := (zfx (.v (.int .i64)) [(0, .box (.pair .bool (.pair .str (.pair (.int .i64) .unit))))] 0)) (zla N) Go.Proofs.Tryd.func46 (by kernel_rfl) (by decide) (fun _ hb => (TabOk.cons (zl9 hb) TabOk.nil)) (fun x y h => by rw [zk2]; exact h) (zb4 (s := (.v (.int .i64))) (os := [(0, .box (.pair .bool (.pair .str (.pair (.int .i64) .unit))))]) (m := 0))

def z1t : Code := (Go.Proofs.Tryd.f46.body).getD .skip

def z33 : List (List Nat × List Nat) := [([0], [0]), ([0, 0, 1], [11, 0]), ([1, 0, 1], [0]), ([0, 0, 1, 0, 1], [2]), ([1, 0, 1, 0, 1], [2]), ([0, 1, 1], [2]), ([1, 1, 1], [2])]

def z2g (N : Nat) : Env := z2x tys zd [] [] [] [] false [] []

theorem zg8 (N : Nat) : EnvOk Go.Proofs.Tryd.prog (z2g N) := zl mixed z1f (FnsOk.nil) (ItsOk.nil)

def z8f (N : Nat) (k0 : Bool -> Option Int) : Option Int :=
 k0 true

def z8j (N : Nat) (x : z2c [(0, .nilp)]) (K : Ex -> List A -> Option Int) : Option Int :=
 z8f N (fun a0 => (K .normal (mkS [(0, .nilp), (10, .v .bool)] 4 ((), a0, ()))))

def z8h (N : Nat) : Hd Int := fun st K => (unS [(0, .nilp)] 15 (restr [0] 0 st)).bind fun x => z8j N x K

def zhk (N : Nat) : Tab Int := []

theorem zg6 {N : Nat} {c : Ctx} (hb : Base Go.Proofs.Tryd.prog (z2g N) c) : z12 Go.Proofs.Tryd.prog c (zk z1t [0, 0, 1]) (z8h N) :=
  z1b (s := [(0, .nilp)]) (m := 15) (g := z8j N) [0] (zf hb N (zhk N) z33 z1t TabOk.nil [0, 0, 1] _ rfl) (fun x K => by kernel_rfl)

def z8g (N : Nat) (k0 : Int -> Option Int) (k1 : Option Int) : Option Int :=
 z8f N
 (fun x11 => cond x11
 (k0 (21 : Int))
 (k1))

def z8k (N : Nat) (x : z2c [(0, .nilp)]) (K : Ex -> List A -> Option Int) : Option Int :=
 z8g N (fun a0 => (K .ret (mkS [(2, .v (.int .i64))] 13 (a0, ())))) (K .normal (mkS [(0, .nilp)] 15 ((), ())))

def z8i (N : Nat) : Hd Int := fun st K => (unS [(0, .nilp)] 15 (restr [0] 0 st)).bind fun x => z8k N x K

def zhl (N : Nat) : Tab Int := [([0, 0, 1], z8h N)]

theorem zg7 {N : Nat} {c : Ctx} (hb : Base Go.Proofs.Tryd.prog (z2g N) c) : z12 Go.Proofs.Tryd.prog c (zk z1t [0, 1]) (z8i N) :=
  z1b (s := [(0, .nilp)]) (m := 15) (g := z8k N) [0] (zf hb N (zhl N) z33 z1t (TabOk.cons (zg6 hb) TabOk.nil) [0, 1] _ rfl) (fun x K => by kernel_rfl)

def z6d (N : Nat) : Option Int :=
 z8g N
 (fun x2 => some x2)
 (none)

def z8z (N : Nat) : Tab Int := [([0, 1], z8i N)]

theorem zf0 (N : Nat) (x : z2c [(0, .nilp)]) : za3 (z2g N) N (z8z N) z33 Go.Proofs.Tryd.f46 (mkS [(0, .nilp)] 0 x) (z4j (.v (.int .i64)) 1) = z6d N := by kernel_rfl

def zg5 (N : Nat) : List A -> Res := z1i [(0, .nilp)] (fun x => z6d N) (zap (.v (.int .i64)) 1)

theorem zhm (N : Nat) : Contract Go.Proofs.Tryd.prog zd 46 (zg5 N) :=
  Contract.of (E := z2g N) (H := z8z N) (L := z33) (N := N) (body := z1t) (K := (z4j (.v (.int .i64)) 1)) (zg8 N) Go.Proofs.Tryd.func46 (by kernel_rfl) (by decide) (fun _ hb => (TabOk.cons (zg7 hb) TabOk.nil)) (fun x y h => by rw [zf0]; exact h) (z19 (s := (.v (.int .i64))) (m := 1))

def z3w (N : Nat) : List A -> Res := zqe [(0, .nilp)] (fun x => z6d N) (zap (.v (.int .i64)) 1) (zaw N)

theorem z5w (N : Nat) : Contract Go.Proofs.Tryd.prog zd 46 (z3w N) := Contract.alt (zhm N) (zn0 N)

def z5i : Code := (Go.Proofs.Tryd.f25.body).getD .skip

def z8o : List (List Nat × List Nat) := [([0], [0]), ([0, 0, 1], [5, 0]), ([1, 0, 1], [0]), ([0, 1, 0, 1], [0]), ([0, 1, 1], [2, 0]), ([1, 1, 1], [2, 0])]

def z56 (N : Nat) : Env := z2x tys zd [(46, z3w N), (45, z3i N), (40, z1s N)] [] [] [0] false [] []

theorem zlc (N : Nat) : EnvOk Go.Proofs.Tryd.prog (z56 N) := zl mixed z1f (FnsOk.cons (z5w N) (FnsOk.cons (z5f N) (FnsOk.cons (z26 N) (FnsOk.nil)))) (ItsOk.nil)

def z4g (N : Nat) (r_ : (Bool × ((List UInt8) × (Int × Unit)))) (k0 : (Bool × ((List UInt8) × (Int × Unit))) -> Option (Int × ((Bool × ((List UInt8) × (Int × Unit))) × Unit))) : Option (Int × ((Bool × ((List UInt8) × (Int × Unit))) × Unit)) :=
 cond (decide ((0 : Int) < (((List.length r_.2.1) : Nat) : Int)))
 ((zm N r_ (2 : Int)).bind fun y =>
 k0 y.2.1)
 (k0 r_)

def zcq (N : Nat) (x : z2c [(0, .box (.pair .bool (.pair .str (.pair (.int .i64) .unit))))]) (K : Ex -> List A -> Option (Int × ((Bool × ((List UInt8) × (Int × Unit))) × Unit))) : Option (Int × ((Bool × ((List UInt8) × (Int × Unit))) × Unit)) :=
 z4g N x.1 (fun a0 => (K .normal (mkS [(0, .box (.pair .bool (.pair .str (.pair (.int .i64) .unit))))] 9 (a0, ()))))

def zcp (N : Nat) : Hd (Int × ((Bool × ((List UInt8) × (Int × Unit))) × Unit)) := fun st K => (unS [(0, .box (.pair .bool (.pair .str (.pair (.int .i64) .unit))))] 9 (restr [0] 0 st)).bind fun x => zcq N x K

def zn1 (N : Nat) : Tab (Int × ((Bool × ((List UInt8) × (Int × Unit))) × Unit)) := []

theorem zlb {N : Nat} {c : Ctx} (hb : Base Go.Proofs.Tryd.prog (z56 N) c) : z12 Go.Proofs.Tryd.prog c (zk z5i [0, 1]) (zcp N) :=
  z1b (s := [(0, .box (.pair .bool (.pair .str (.pair (.int .i64) .unit))))]) (m := 9) (g := zcq N) [0] (zf hb N (zn1 N) z8o z5i TabOk.nil [0, 1] _ rfl) (fun x K => by kernel_rfl)

def z2q (N : Nat) (r_ : (Bool × ((List UInt8) × (Int × Unit)))) : Option (Int × ((Bool × ((List UInt8) × (Int × Unit))) × Unit)) :=
 z4g N r_
 (fun r_1 => (z6p N r_1).bind fun y =>
 some (y.1, (y.2.1, ())))

def zea (N : Nat) : Tab (Int × ((Bool × ((List UInt8) × (Int × Unit))) × Unit)) := [([0, 1], zcp N)]

theorem zk3 (N : Nat) (x : z2c [(0, .box (.pair .bool (.pair .str (.pair (.int .i64) .unit))))]) : za3 (z56 N) N (zea N) z8o Go.Proofs.Tryd.f25 (mkS [(0, .box (.pair .bool (.pair .str (.pair (.int .i64) .unit))))] 0 x) (zfx (.v (.int .i64)) [(0, .box (.pair .bool (.pair .str (.pair (.int .i64) .unit))))] 0) = z2q N x.1 := by kernel_rfl

def zax (N : Nat) : List A -> Res := z1i [(0, .box (.pair .bool (.pair .str (.pair (.int .i64) .unit))))] (fun x => z2q N x.1) (zjs (.v (.int .i64)) [(0, .box (.pair .bool (.pair .str (.pair (.int .i64) .unit))))] 0)

theorem zn2 (N : Nat) : Contract Go.Proofs.Tryd.prog zd 25 (zax N) :=
  Contract.of (E := z56 N) (H := zea N) (L := z8o) (N := N) (body := z5i) (K := (zfx (.v (.int .i64)) [(0, .box (.pair .bool (.pair .str (.pair (.int .i64) .unit))))] 0)) (zlc N) Go.Proofs.Tryd.func25 (by kernel_rfl) (by decide) (fun _ hb => (TabOk.cons (zlb hb) TabOk.nil)) (fun x y h => by rw [zk3]; exact h) (zb4 (s := (.v (.int .i64))) (os := [(0, .box (.pair .bool (.pair .str (.pair (.int .i64) .unit))))]) (m := 0))

def z3j : Code := (Go.Proofs.Tryd.f25.body).getD .skip

def z50 : List (List Nat × List Nat) := [([0], [0]), ([0, 0, 1], [5, 0]), ([1, 0, 1], [0]), ([0, 1, 0, 1], [0]), ([0, 1, 1], [2]), ([1, 1, 1], [2])]

def z34 (N : Nat) : Env := z2x tys zd [(46, z3w N), (45, z3i N), (40, z1s N)] [] [] [] false [] []

theorem zgb (N : Nat) : EnvOk Go.Proofs.Tryd.prog (z34 N) := zl mixed z1f (FnsOk.cons (z5w N) (FnsOk.cons (z5f N) (FnsOk.cons (z26 N) (FnsOk.nil)))) (ItsOk.nil)

def z8l (N : Nat) (k0 : Option Int) : Option Int :=
 k0

def z8n (N : Nat) (x : z2c [(0, .nilp)]) (K : Ex -> List A -> Option Int) : Option Int :=
 z8l N (K .normal (mkS [(0, .nilp)] 9 ((), ())))

def z8m (N : Nat) : Hd Int := fun st K => (unS [(0, .nilp)] 9 (restr [0] 0 st)).bind fun x => z8n N x K

def zhn (N : Nat) : Tab Int := []

theorem zga {N : Nat} {c : Ctx} (hb : Base Go.Proofs.Tryd.prog (z34 N) c) : z12 Go.Proofs.Tryd.prog c (zk z3j [0, 1]) (z8m N) :=
  z1b (s := [(0, .nilp)]) (m := 9) (g := z8n N) [0] (zf hb N (zhn N) z50 z3j TabOk.nil [0, 1] _ rfl) (fun x K => by kernel_rfl)

def z6e (N : Nat) : Option Int :=
 z8l N
 (some (21 : Int))

def z90 (N : Nat) : Tab Int := [([0, 1], z8m N)]

theorem zf1 (N : Nat) (x : z2c [(0, .nilp)]) : za3 (z34 N) N (z90 N) z50 Go.Proofs.Tryd.f25 (mkS [(0, .nilp)] 0 x) (z4j (.v (.int .i64)) 1) = z6e N := by kernel_rfl

def zg9 (N : Nat) : List A -> Res := z1i [(0, .nilp)] (fun x => z6e N) (zap (.v (.int .i64)) 1)

theorem zho (N : Nat) : Contract Go.Proofs.Tryd.prog zd 25 (zg9 N) :=
  Contract.of (E := z34 N) (H := z90 N) (L := z50) (N := N) (body := z3j) (K := (z4j (.v (.int .i64)) 1)) (zgb N) Go.Proofs.Tryd.func25 (by kernel_rfl) (by decide) (fun _ hb => (TabOk.cons (zga hb) TabOk.nil)) (fun x y h => by rw [zf1]; exact h) (z19 (s := (.v (.int .i64))) (m := 1))

def z3x (N : Nat) : List A -> Res := zqe [(0, .nilp)] (fun x => z6e N) (zap (.v (.int .i64)) 1) (zax N)

theorem z5x (N : Nat) : Contract Go.Proofs.Tryd.prog zd 25 (z3x N) := Contract.alt (zho N) (zn2 N)

def z6g : Code := (Go.Proofs.Tryd.f38.body).getD .skip

def zgp : List (List Nat × List Nat) := [([0], [0, 2]), ([0, 1], [4, 2]), ([0, 1, 1], [4, 5, 2]), ([0, 0, 1, 1, 1], [16, 15, 5, 4, 2]), ([0, 1, 0, 1, 1, 1], [16, 15, 5, 4, 2]), ([0, 0, 0, 1, 0, 1, 1, 1], [17, 5, 4, 16, 15, 2]), ([0, 1, 0, 0, 1, 0, 1, 1, 1], [5, 4, 16, 15, 2]), ([1, 0, 1, 0, 0, 1, 0, 1, 1, 1], [4, 5, 2]), ([0, 0, 1, 1, 0, 0, 1, 0, 1, 1, 1], [16, 15, 5, 4, 2]), ([0, 1, 1, 0, 0, 1, 0, 1, 1, 1], [16, 15, 5, 4, 2]), ([1, 1, 1, 0, 0, 1, 0, 1, 1, 1], [16, 15, 5, 4, 2]), ([1, 0, 1, 1, 1], [4, 5, 2]), ([0, 1, 1, 1, 1], [6, 4, 5, 2]), ([0, 0, 1, 1, 1, 1, 1], [29, 28, 6, 4, 5, 2]), ([0, 1, 0, 1, 1, 1, 1, 1], [29, 28, 6, 4, 5, 2]), ([0, 0, 0, 1, 0, 1, 1, 1, 1, 1], [30, 29, 6, 4, 28, 5, 2]), ([0, 1, 0, 0, 1, 0, 1, 1, 1, 1, 1], [29, 6, 4, 28, 5, 2]), ([1, 0, 1, 0, 0, 1, 0, 1, 1, 1, 1, 1], [6, 5, 4, 2]), ([0, 0, 0, 1, 1, 0, 0, 1, 0, 1, 1, 1, 1, 1], [6, 7, 4, 29, 28, 5, 2]), ([1, 0, 0, 1, 1, 0, 0, 1, 0, 1, 1, 1, 1, 1], [29, 28, 6, 4, 5, 2]), ([0, 1, 1, 0, 0, 1, 0, 1, 1, 1, 1, 1], [29, 28, 6, 4, 5, 2]), ([1, 1, 1, 0, 0, 1, 0, 1, 1, 1, 1, 1], [29, 28, 6, 4, 5, 2]), ([1, 0, 1, 1, 1, 1, 1], [6, 5, 4, 2]), ([0, 1, 1, 1, 1, 1, 1], [4, 2, 5]), ([0, 0, 1, 1, 1, 1, 1, 1, 1], [8, 2, 5]), ([0, 1, 0, 1, 1, 1, 1, 1, 1, 1], [44, 8, 2, 5]), ([1, 1, 0, 1, 1, 1, 1, 1, 1, 1], [5, 2]), ([0, 0, 1, 1, 0, 1, 1, 1, 1, 1, 1, 1], [2, 3]), ([1, 0, 1, 1, 0, 1, 1, 1, 1, 1, 1, 1], [2, 3]), ([0, 1, 1, 1, 1, 1, 1, 1, 1], [2, 3]), ([1, 1, 1, 1, 1, 1, 1, 1, 1], [2, 3])]

def zbn (N : Nat) : Env := z2x tys zd [(25, z3x N), (60, zf7 N), (61, z5j N), (24, z6c N), (39, z3d N), (22, zhp N)] [(6, (.int .u8))] [] [] false [(13, (.pair .str (.pair (.own (.pair .str (.pair .str .unit))) (.pair .str .unit)))), (5, (.pair .str (.pair (.own (.pair .str (.pair .str .unit))) (.pair .str .unit))))] []

theorem zvz (N : Nat) : EnvOk Go.Proofs.Tryd.prog (zbn N) := zl mixed z1f (FnsOk.cons (z5x N) (FnsOk.cons (zr0 N) (FnsOk.cons (zay N) (FnsOk.cons (zcf N) (FnsOk.cons (z6b N) (FnsOk.cons (zqn N) (FnsOk.nil))))))) (ItsOk.nil)

def ziy (N : Nat) (x2 : ((List UInt8) × ((List ((List UInt8) × ((List UInt8) × Unit))) × ((List UInt8) × Unit)))) (x15 : Int) (f : (Bool × ((List UInt8) × (Int × Unit)))) (t : ((List UInt8) × ((List ((List UInt8) × ((List UInt8) × Unit))) × ((List UInt8) × Unit)))) (x16 : Int) (rec : (Bool × ((List UInt8) × (Int × Unit))) -> ((List UInt8) × ((List ((List UInt8) × ((List UInt8) × Unit))) × ((List UInt8) × Unit))) -> Int -> Option (((List UInt8) × ((List ((List UInt8) × ((List UInt8) × Unit))) × ((List UInt8) × Unit))) × Int × Unit)) (k0 : (Bool × ((List UInt8) × (Int × Unit))) -> ((List UInt8) × ((List ((List UInt8) × ((List UInt8) × Unit))) × ((List UInt8) × Unit))) -> Option (((List UInt8) × ((List ((List UInt8) × ((List UInt8) × Unit))) × ((List UInt8) × Unit))) × Int × Unit)) : Option (((List UInt8) × ((List ((List UInt8) × ((List UInt8) × Unit))) × ((List UInt8) × Unit))) × Int × Unit) :=
 cond (decide (x16 < x15))
 ((z7p N f).bind fun y =>
 cond (decide ((((List.length t.2.1) + 1) * 32) <= 70368744177664))
 (rec y.2.1 (t.1, ((t.2.1 ++ ([y.1] : List ((List UInt8) × ((List UInt8) × Unit)))), t.2.2)) (Go.IntKind.wrap Go.IntKind.u64 (x16 + (1 : Int))))
 (none))
 (k0 f t)

def zj0 (N : Nat) (x2 : ((List UInt8) × ((List ((List UInt8) × ((List UInt8) × Unit))) × ((List UInt8) × Unit)))) (f : (Bool × ((List UInt8) × (Int × Unit)))) (t : ((List UInt8) × ((List ((List UInt8) × ((List UInt8) × Unit))) × ((List UInt8) × Unit)))) (x15 : Int) (x16 : Int) (k0 : (Bool × ((List UInt8) × (Int × Unit))) -> ((List UInt8) × ((List ((List UInt8) × ((List UInt8) × Unit))) × ((List UInt8) × Unit))) -> Option (((List UInt8) × ((List ((List UInt8) × ((List UInt8) × Unit))) × ((List UInt8) × Unit))) × Int × Unit)) : Option (((List UInt8) × ((List ((List UInt8) × ((List UInt8) × Unit))) × ((List UInt8) × Unit))) × Int × Unit) :=
 iter (fun (v : ((Bool × ((List UInt8) × (Int × Unit))) × ((List UInt8) × ((List ((List UInt8) × ((List UInt8) × Unit))) × ((List UInt8) × Unit))) × Int)) r => ziy N x2 x15 v.1 v.2.1 v.2.2 (fun f t x16 => (r (f, t, x16))) k0) N (f, t, x16)

def zqa (N : Nat) (i : (((List UInt8) × ((List ((List UInt8) × ((List UInt8) × Unit))) × ((List UInt8) × Unit))) × Int)) (v : ((Bool × ((List UInt8) × (Int × Unit))) × ((List UInt8) × ((List ((List UInt8) × ((List UInt8) × Unit))) × ((List UInt8) × Unit))) × Int)) (r : ((Bool × ((List UInt8) × (Int × Unit))) × ((List UInt8) × ((List ((List UInt8) × ((List UInt8) × Unit))) × ((List UInt8) × Unit))) × Int) -> Option (((List UInt8) × ((List ((List UInt8) × ((List UInt8) × Unit))) × ((List UInt8) × Unit))) × Int × Unit)) (K : Ex -> List A -> Option (((List UInt8) × ((List ((List UInt8) × ((List UInt8) × Unit))) × ((List UInt8) × Unit))) × Int × Unit)) : Option (((List UInt8) × ((List ((List UInt8) × ((List UInt8) × Unit))) × ((List UInt8) × Unit))) × Int × Unit) :=
 ziy N i.1 i.2 v.1 v.2.1 v.2.2 (fun f t x16 => (r (f, t, x16))) (fun a1 a2 => (K (.exit 0) (mkS [(2, .box (.pair .str (.pair (.sl (.pair .str (.pair .str .unit))) (.pair .str .unit)))), (1, .box (.pair .bool (.pair .str (.pair (.int .i64) .unit)))), (0, .box (.pair .str (.pair (.own (.pair .str (.pair .str .unit))) (.pair .str .unit))))] 42 (i.1, a1, a2, ()))))

def zq8 (N : Nat) : Hd (((List UInt8) × ((List ((List UInt8) × ((List UInt8) × Unit))) × ((List UInt8) × Unit))) × Int × Unit) := fun st K => (unS [(2, .box (.pair .str (.pair (.sl (.pair .str (.pair .str .unit))) (.pair .str .unit)))), (1, .box (.pair .bool (.pair .str (.pair (.int .i64) .unit)))), (0, .box (.pair .str (.pair (.own (.pair .str (.pair .str .unit))) (.pair .str .unit)))), (9, .v (.int .u64)), (0, .v (.int .u64))] 31 (restr [16, 15, 5, 4, 2] 0 st)).bind fun x => iter (fun v r => zqa N ((fun x => (x.1, x.2.2.2.1)) x) v r K) N ((fun x => (x.2.1, x.2.2.1, x.2.2.2.2.1)) x)

def zx9 (N : Nat) : Tab (((List UInt8) × ((List ((List UInt8) × ((List UInt8) × Unit))) × ((List UInt8) × Unit))) × Int × Unit) := []

theorem zvy {N : Nat} {c : Ctx} (hb : Base Go.Proofs.Tryd.prog (zbn N) c) : z12 Go.Proofs.Tryd.prog c (zk z6g [0, 1, 0, 1, 1, 1]) (zq8 N) :=
  z6z (s := [(2, .box (.pair .str (.pair (.sl (.pair .str (.pair .str .unit))) (.pair .str .unit)))), (1, .box (.pair .bool (.pair .str (.pair (.int .i64) .unit)))), (0, .box (.pair .str (.pair (.own (.pair .str (.pair .str .unit))) (.pair .str .unit)))), (9, .v (.int .u64)), (0, .v (.int .u64))]) (m := 31) (zqa N) [16, 15, 5, 4, 2] N (fun x => (x.1, x.2.2.2.1)) (fun x => (x.2.1, x.2.2.1, x.2.2.2.2.1)) (fun i v => (i.1, v.1, v.2.1, i.2, v.2.2, ())) (fun _ => rfl) (zf hb N (zx9 N) zgp z6g TabOk.nil [0, 0, 1, 0, 1, 1, 1] _ rfl) (fun i v r K => by kernel_rfl)

def zix (N : Nat) (x2 : ((List UInt8) × ((List ((List UInt8) × ((List UInt8) × Unit))) × ((List UInt8) × Unit)))) (t : ((List UInt8) × ((List ((List UInt8) × ((List UInt8) × Unit))) × ((List UInt8) × Unit)))) (x28 : Int) (f : (Bool × ((List UInt8) × (Int × Unit)))) (tag : (List Int)) (x29 : Int) (rec : (Bool × ((List UInt8) × (Int × Unit))) -> (List Int) -> Int -> Option (((List UInt8) × ((List ((List UInt8) × ((List UInt8) × Unit))) × ((List UInt8) × Unit))) × Int × Unit)) (k0 : (Bool × ((List UInt8) × (Int × Unit))) -> (List Int) -> Option (((List UInt8) × ((List ((List UInt8) × ((List UInt8) × Unit))) × ((List UInt8) × Unit))) × Int × Unit)) : Option (((List UInt8) × ((List ((List UInt8) × ((List UInt8) × Unit))) × ((List UInt8) × Unit))) × Int × Unit) :=
 cond (decide (x29 < x28))
 ((z16 N f).bind fun y =>
 cond (Go.Lift.inR x29 (List.length tag))
 (cond (decide ((Int.toNat x29) < (List.length tag)))
 (rec y.2.1 (List.set tag (Int.toNat x29) y.1) (Go.IntKind.wrap Go.IntKind.i64 (x29 + (1 : Int))))
 (none))
 (none))
 (k0 f tag)

def ziz (N : Nat) (x2 : ((List UInt8) × ((List ((List UInt8) × ((List UInt8) × Unit))) × ((List UInt8) × Unit)))) (f : (Bool × ((List UInt8) × (Int × Unit)))) (t : ((List UInt8) × ((List ((List UInt8) × ((List UInt8) × Unit))) × ((List UInt8) × Unit)))) (tag : (List Int)) (x28 : Int) (x29 : Int) (k0 : (Bool × ((List UInt8) × (Int × Unit))) -> (List Int) -> Option (((List UInt8) × ((List ((List UInt8) × ((List UInt8) × Unit))) × ((List UInt8) × Unit))) × Int × Unit)) : Option (((List UInt8) × ((List ((List UInt8) × ((List UInt8) × Unit))) × ((List UInt8) × Unit))) × Int × Unit) :=
 iter (fun (v : ((Bool × ((List UInt8) × (Int × Unit))) × (List Int) × Int)) r => zix N x2 t x28 v.1 v.2.1 v.2.2 (fun f tag x29 => (r (f, tag, x29))) k0) N (f, tag, x29)

def zq9 (N : Nat) (i : (((List UInt8) × ((List ((List UInt8) × ((List UInt8) × Unit))) × ((List UInt8) × Unit))) × ((List UInt8) × ((List ((List UInt8) × ((List UInt8) × Unit))) × ((List UInt8) × Unit))) × Int)) (v : ((Bool × ((List UInt8) × (Int × Unit))) × (List Int) × Int)) (r : ((Bool × ((List UInt8) × (Int × Unit))) × (List Int) × Int) -> Option (((List UInt8) × ((List ((List UInt8) × ((List UInt8) × Unit))) × ((List UInt8) × Unit))) × Int × Unit)) (K : Ex -> List A -> Option (((List UInt8) × ((List ((List UInt8) × ((List UInt8) × Unit))) × ((List UInt8) × Unit))) × Int × Unit)) : Option (((List UInt8) × ((List ((List UInt8) × ((List UInt8) × Unit))) × ((List UInt8) × Unit))) × Int × Unit) :=
 zix N i.1 i.2.1 i.2.2 v.1 v.2.1 v.2.2 (fun f tag x29 => (r (f, tag, x29))) (fun a1 a3 => (K (.exit 2) (mkS [(2, .box (.pair .str (.pair (.sl (.pair .str (.pair .str .unit))) (.pair .str .unit)))), (1, .box (.pair .bool (.pair .str (.pair (.int .i64) .unit)))), (0, .box (.pair .str (.pair (.own (.pair .str (.pair .str .unit))) (.pair .str .unit)))), (0, .row (.int .u8))] 41 (i.1, a1, i.2.1, a3, ()))))

def zq7 (N : Nat) : Hd (((List UInt8) × ((List ((List UInt8) × ((List UInt8) × Unit))) × ((List UInt8) × Unit))) × Int × Unit) := fun st K => (unS [(2, .box (.pair .str (.pair (.sl (.pair .str (.pair .str .unit))) (.pair .str .unit)))), (1, .box (.pair .bool (.pair .str (.pair (.int .i64) .unit)))), (0, .box (.pair .str (.pair (.own (.pair .str (.pair .str .unit))) (.pair .str .unit)))), (0, .row (.int .u8)), (21, .v (.int .i64)), (0, .v (.int .i64))] 18 (restr [29, 28, 6, 4, 5, 2] 0 st)).bind fun x => iter (fun v r => zq9 N ((fun x => (x.1, x.2.2.1, x.2.2.2.2.1)) x) v r K) N ((fun x => (x.2.1, x.2.2.2.1, x.2.2.2.2.2.1)) x)

def zx8 (N : Nat) : Tab (((List UInt8) × ((List ((List UInt8) × ((List UInt8) × Unit))) × ((List UInt8) × Unit))) × Int × Unit) := []

theorem zvx {N : Nat} {c : Ctx} (hb : Base Go.Proofs.Tryd.prog (zbn N) c) : z12 Go.Proofs.Tryd.prog c (zk z6g [0, 1, 0, 1, 1, 1, 1, 1]) (zq7 N) :=
  z6z (s := [(2, .box (.pair .str (.pair (.sl (.pair .str (.pair .str .unit))) (.pair .str .unit)))), (1, .box (.pair .bool (.pair .str (.pair (.int .i64) .unit)))), (0, .box (.pair .str (.pair (.own (.pair .str (.pair .str .unit))) (.pair .str .unit)))), (0, .row (.int .u8)), (21, .v (.int .i64)), (0, .v (.int .i64))]) (m := 18) (zq9 N) [29, 28, 6, 4, 5, 2] N (fun x => (x.1, x.2.2.1, x.2.2.2.2.1)) (fun x => (x.2.1, x.2.2.2.1, x.2.2.2.2.2.1)) (fun i v => (i.1, v.1, i.2.1, v.2.1, i.2.2, v.2.2, ())) (fun _ => rfl) (zf hb N (zx8 N) zgp z6g TabOk.nil [0, 0, 1, 0, 1, 1, 1, 1, 1] _ rfl) (fun i v r K => by kernel_rfl)

def zj1 (N : Nat) (s : (List UInt8)) : Option (((List UInt8) × ((List ((List UInt8) × ((List UInt8) × Unit))) × ((List UInt8) × Unit))) × Int × Unit) :=
 (zq N (true, (s, ((0 : Int), ()))) (4144 : Int)).bind fun y =>
 (z2b N y.2.1 (64 : Int)).bind fun y1 =>
 zj0 N (([] : List UInt8), (([] : List ((List UInt8) × ((List UInt8) × Unit))), (([] : List UInt8), ()))) y1.2.1 (y.1, (([] : List ((List UInt8) × ((List UInt8) × Unit))), (([] : List UInt8), ()))) y1.1 (0 : Int)
 (fun f t => ziz N (([] : List UInt8), (([] : List ((List UInt8) × ((List UInt8) × Unit))), (([] : List UInt8), ()))) f t (List.replicate 32 (0 : Int)) (((List.length (List.replicate 32 (0 : Int))) : Nat) : Int) (0 : Int)
 (fun f1 tag => (z2q N f1).bind fun y2 =>
 cond (y2.1 != (0 : Int))
 (some ((([] : List UInt8), (([] : List ((List UInt8) × ((List UInt8) × Unit))), (([] : List UInt8), ()))), (y2.1, ())))
 (some ((t.1, (t.2.1, ((Go.Lift.toStr tag), t.2.2.2))), ((0 : Int), ())))))

def zs3 (N : Nat) : Tab (((List UInt8) × ((List ((List UInt8) × ((List UInt8) × Unit))) × ((List UInt8) × Unit))) × Int × Unit) := [([0, 1, 0, 1, 1, 1], zq8 N), ([0, 1, 0, 1, 1, 1, 1, 1], zq7 N)]

theorem zu8 (N : Nat) (x : z2c [(0, .v .str)]) : za3 (zbn N) N (zs3 N) zgp Go.Proofs.Tryd.f38 (mkS [(0, .v .str)] 0 x) (z4j (.tup [(.pair .str (.pair (.sl (.pair .str (.pair .str .unit))) (.pair .str .unit))), (.int .i64)]) 1) = zj1 N x.1 := by kernel_rfl

def znr (N : Nat) : List A -> Res := z1i [(0, .v .str)] (fun x => zj1 N x.1) (zap (.tup [(.pair .str (.pair (.sl (.pair .str (.pair .str .unit))) (.pair .str .unit))), (.int .i64)]) 1)

theorem zxa (N : Nat) : Contract Go.Proofs.Tryd.prog zd 38 (znr N) :=
  Contract.of (E := zbn N) (H := zs3 N) (L := zgp) (N := N) (body := z6g) (K := (z4j (.tup [(.pair .str (.pair (.sl (.pair .str (.pair .str .unit))) (.pair .str .unit))), (.int .i64)]) 1)) (zvz N) Go.Proofs.Tryd.func38 (by kernel_rfl) (by decide) (fun _ hb => (TabOk.cons (zvy hb) (TabOk.cons (zvx hb) TabOk.nil))) (fun x y h => by rw [zu8]; exact h) (z19 (s := (.tup [(.pair .str (.pair (.sl (.pair .str (.pair .str .unit))) (.pair .str .unit))), (.int .i64)])) (m := 1))

def zle : Code := (Go.Proofs.Tryd.f23.body).getD .skip

def zgf : List (List Nat × List Nat) := [([0], [0, 2]), ([0, 1], [0, 4, 3, 2]), ([0, 1, 1], [3, 2, 0]), ([0, 1, 1, 1], [2, 0]), ([1, 1, 1, 1], [2, 0])]

def z9g (N : Nat) : Env := z2x tys zd [(38, znr N), (39, z3d N), (40, z1s N)] [] [] [0] false [] []

theorem zn7 (N : Nat) : EnvOk Go.Proofs.Tryd.prog (z9g N) := zl mixed z1f (FnsOk.cons (zxa N) (FnsOk.cons (z6b N) (FnsOk.cons (z26 N) (FnsOk.nil)))) (ItsOk.nil)

def z40 (N : Nat) (f : (Bool × ((List UInt8) × (Int × Unit)))) : Option (((List UInt8) × ((List ((List UInt8) × ((List UInt8) × Unit))) × ((List UInt8) × Unit))) × ((Bool × ((List UInt8) × (Int × Unit))) × Unit)) :=
 (zq N f (65536 : Int)).bind fun y =>
 (zj1 N y.1).bind fun y1 =>
 (zm N y.2.1 y1.2.1).bind fun y2 =>
 some (y1.1, (y2.2.1, ()))

def zge (N : Nat) : Tab (((List UInt8) × ((List ((List UInt8) × ((List UInt8) × Unit))) × ((List UInt8) × Unit))) × ((Bool × ((List UInt8) × (Int × Unit))) × Unit)) := []

theorem zld (N : Nat) (x : z2c [(0, .box (.pair .bool (.pair .str (.pair (.int .i64) .unit))))]) : za3 (z9g N) N (zge N) zgf Go.Proofs.Tryd.f23 (mkS [(0, .box (.pair .bool (.pair .str (.pair (.int .i64) .unit))))] 0 x) (zfx (.v (.pair .str (.pair (.sl (.pair .str (.pair .str .unit))) (.pair .str .unit)))) [(0, .box (.pair .bool (.pair .str (.pair (.int .i64) .unit))))] 0) = z40 N x.1 := by kernel_rfl

def zcv (N : Nat) : List A -> Res := z1i [(0, .box (.pair .bool (.pair .str (.pair (.int .i64) .unit))))] (fun x => z40 N x.1) (zjs (.v (.pair .str (.pair (.sl (.pair .str (.pair .str .unit))) (.pair .str .unit)))) [(0, .box (.pair .bool (.pair .str (.pair (.int .i64) .unit))))] 0)

theorem zov (N : Nat) : Contract Go.Proofs.Tryd.prog zd 23 (zcv N) :=
  Contract.of (E := z9g N) (H := zge N) (L := zgf) (N := N) (body := zle) (K := (zfx (.v (.pair .str (.pair (.sl (.pair .str (.pair .str .unit))) (.pair .str .unit)))) [(0, .box (.pair .bool (.pair .str (.pair (.int .i64) .unit))))] 0)) (zn7 N) Go.Proofs.Tryd.func23 (by kernel_rfl) (by decide) (fun _ hb => TabOk.nil) (fun x y h => by rw [zld]; exact h) (zb4 (s := (.v (.pair .str (.pair (.sl (.pair .str (.pair .str .unit))) (.pair .str .unit))))) (os := [(0, .box (.pair .bool (.pair .str (.pair (.int .i64) .unit))))]) (m := 0))

def zcx : Code := (Go.Proofs.Tryd.f12.body).getD .skip

def zk8 : List (List Nat × List Nat) := [([0], [0, 2]), ([0, 0, 1], [9, 2, 0]), ([1, 0, 1], [0, 2]), ([0, 0, 1, 0, 1], [2, 3]), ([1, 0, 1, 0, 1], [2, 3]), ([0, 1, 1], [4, 2]), ([0, 1, 1, 1], [4, 5, 2]), ([0, 0, 1, 1, 1, 1], [18, 17, 5, 4, 2]), ([0, 1, 0, 1, 1, 1, 1], [18, 17, 5, 4, 2]), ([0, 0, 0, 1, 0, 1, 1, 1, 1], [19, 5, 4, 18, 17, 2]), ([0, 1, 0, 0, 1, 0, 1, 1, 1, 1], [5, 4, 18, 17, 2]), ([1, 0, 1, 0, 0, 1, 0, 1, 1, 1, 1], [4, 2, 5]), ([0, 0, 1, 1, 0, 0, 1, 0, 1, 1, 1, 1], [18, 17, 5, 4, 2]), ([0, 1, 1, 0, 0, 1, 0, 1, 1, 1, 1], [18, 17, 5, 4, 2]), ([1, 1, 1, 0, 0, 1, 0, 1, 1, 1, 1], [18, 17, 5, 4, 2]), ([1, 0, 1, 1, 1, 1], [4, 2, 5]), ([0, 0, 1, 1, 1, 1, 1], [6, 2, 5]), ([0, 1, 0, 1, 1, 1, 1, 1], [31, 6, 2, 5]), ([1, 1, 0, 1, 1, 1, 1, 1], [5, 2]), ([0, 0, 1, 1, 0, 1, 1, 1, 1, 1], [2, 3]), ([1, 0, 1, 1, 0, 1, 1, 1, 1, 1], [2, 3]), ([0, 1, 1, 1, 1, 1, 1], [2, 3]), ([1, 1, 1, 1, 1, 1, 1], [2, 3])]

def zec (N : Nat) : Env := z2x tys zd [(23, zcv N), (25, z3x N), (24, z6c N), (22, zhp N)] [] [] [] false [(15, (.pair (.pair .str (.pair (.sl (.pair .str (.pair .str .unit))) (.pair .str .unit))) (.pair (.own (.pair .str (.pair (.sl (.pair .str (.pair .str .unit))) (.pair .str .unit)))) .unit))), (5, (.pair (.pair .str (.pair (.sl (.pair .str (.pair .str .unit))) (.pair .str .unit))) (.pair (.own (.pair .str (.pair (.sl (.pair .str (.pair .str .unit))) (.pair .str .unit)))) .unit)))] []

theorem zur (N : Nat) : EnvOk Go.Proofs.Tryd.prog (zec N) := zl mixed z1f (FnsOk.cons (zov N) (FnsOk.cons (z5x N) (FnsOk.cons (zcf N) (FnsOk.cons (zqn N) (FnsOk.nil))))) (ItsOk.nil)

def zht (N : Nat) (x2 : (((List UInt8) × ((List ((List UInt8) × ((List UInt8) × Unit))) × ((List UInt8) × Unit))) × ((List ((List UInt8) × ((List ((List UInt8) × ((List UInt8) × Unit))) × ((List UInt8) × Unit)))) × Unit))) (x17 : Int) (f : (Bool × ((List UInt8) × (Int × Unit)))) (b : (((List UInt8) × ((List ((List UInt8) × ((List UInt8) × Unit))) × ((List UInt8) × Unit))) × ((List ((List UInt8) × ((List ((List UInt8) × ((List UInt8) × Unit))) × ((List UInt8) × Unit)))) × Unit))) (x18 : Int) (rec : (Bool × ((List UInt8) × (Int × Unit))) -> (((List UInt8) × ((List ((List UInt8) × ((List UInt8) × Unit))) × ((List UInt8) × Unit))) × ((List ((List UInt8) × ((List ((List UInt8) × ((List UInt8) × Unit))) × ((List UInt8) × Unit)))) × Unit)) -> Int -> Option ((((List UInt8) × ((List ((List UInt8) × ((List UInt8) × Unit))) × ((List UInt8) × Unit))) × ((List ((List UInt8) × ((List ((List UInt8) × ((List UInt8) × Unit))) × ((List UInt8) × Unit)))) × Unit)) × Int × Unit)) (k0 : (Bool × ((List UInt8) × (Int × Unit))) -> (((List UInt8) × ((List ((List UInt8) × ((List UInt8) × Unit))) × ((List UInt8) × Unit))) × ((List ((List UInt8) × ((List ((List UInt8) × ((List UInt8) × Unit))) × ((List UInt8) × Unit)))) × Unit)) -> Option ((((List UInt8) × ((List ((List UInt8) × ((List UInt8) × Unit))) × ((List UInt8) × Unit))) × ((List ((List UInt8) × ((List ((List UInt8) × ((List UInt8) × Unit))) × ((List UInt8) × Unit)))) × Unit)) × Int × Unit)) : Option ((((List UInt8) × ((List ((List UInt8) × ((List UInt8) × Unit))) × ((List UInt8) × Unit))) × ((List ((List UInt8) × ((List ((List UInt8) × ((List UInt8) × Unit))) × ((List UInt8) × Unit)))) × Unit)) × Int × Unit) :=
 cond (decide (x18 < x17))
 ((z40 N f).bind fun y =>
 cond (decide ((((List.length b.2.1) + 1) * 56) <= 70368744177664))
 (rec y.2.1 (b.1, ((b.2.1 ++ ([y.1] : List ((List UInt8) × ((List ((List UInt8) × ((List UInt8) × Unit))) × ((List UInt8) × Unit))))), b.2.2)) (Go.IntKind.wrap Go.IntKind.u64 (x18 + (1 : Int))))
 (none))
 (k0 f b)

def zhu (N : Nat) (x2 : (((List UInt8) × ((List ((List UInt8) × ((List UInt8) × Unit))) × ((List UInt8) × Unit))) × ((List ((List UInt8) × ((List ((List UInt8) × ((List UInt8) × Unit))) × ((List UInt8) × Unit)))) × Unit))) (f : (Bool × ((List UInt8) × (Int × Unit)))) (b : (((List UInt8) × ((List ((List UInt8) × ((List UInt8) × Unit))) × ((List UInt8) × Unit))) × ((List ((List UInt8) × ((List ((List UInt8) × ((List UInt8) × Unit))) × ((List UInt8) × Unit)))) × Unit))) (x17 : Int) (x18 : Int) (k0 : (Bool × ((List UInt8) × (Int × Unit))) -> (((List UInt8) × ((List ((List UInt8) × ((List UInt8) × Unit))) × ((List UInt8) × Unit))) × ((List ((List UInt8) × ((List ((List UInt8) × ((List UInt8) × Unit))) × ((List UInt8) × Unit)))) × Unit)) -> Option ((((List UInt8) × ((List ((List UInt8) × ((List UInt8) × Unit))) × ((List UInt8) × Unit))) × ((List ((List UInt8) × ((List ((List UInt8) × ((List UInt8) × Unit))) × ((List UInt8) × Unit)))) × Unit)) × Int × Unit)) : Option ((((List UInt8) × ((List ((List UInt8) × ((List UInt8) × Unit))) × ((List UInt8) × Unit))) × ((List ((List UInt8) × ((List ((List UInt8) × ((List UInt8) × Unit))) × ((List UInt8) × Unit)))) × Unit)) × Int × Unit) :=
 iter (fun (v : ((Bool × ((List UInt8) × (Int × Unit))) × (((List UInt8) × ((List ((List UInt8) × ((List UInt8) × Unit))) × ((List UInt8) × Unit))) × ((List ((List UInt8) × ((List ((List UInt8) × ((List UInt8) × Unit))) × ((List UInt8) × Unit)))) × Unit)) × Int)) r => zht N x2 x17 v.1 v.2.1 v.2.2 (fun f b x18 => (r (f, b, x18))) k0) N (f, b, x18)

def zoy (N : Nat) (i : ((((List UInt8) × ((List ((List UInt8) × ((List UInt8) × Unit))) × ((List UInt8) × Unit))) × ((List ((List UInt8) × ((List ((List UInt8) × ((List UInt8) × Unit))) × ((List UInt8) × Unit)))) × Unit)) × Int)) (v : ((Bool × ((List UInt8) × (Int × Unit))) × (((List UInt8) × ((List ((List UInt8) × ((List UInt8) × Unit))) × ((List UInt8) × Unit))) × ((List ((List UInt8) × ((List ((List UInt8) × ((List UInt8) × Unit))) × ((List UInt8) × Unit)))) × Unit)) × Int)) (r : ((Bool × ((List UInt8) × (Int × Unit))) × (((List UInt8) × ((List ((List UInt8) × ((List UInt8) × Unit))) × ((List UInt8) × Unit))) × ((List ((List UInt8) × ((List ((List UInt8) × ((List UInt8) × Unit))) × ((List UInt8) × Unit)))) × Unit)) × Int) -> Option ((((List UInt8) × ((List ((List UInt8) × ((List UInt8) × Unit))) × ((List UInt8) × Unit))) × ((List ((List UInt8) × ((List ((List UInt8) × ((List UInt8) × Unit))) × ((List UInt8) × Unit)))) × Unit)) × Int × Unit)) (K : Ex -> List A -> Option ((((List UInt8) × ((List ((List UInt8) × ((List UInt8) × Unit))) × ((List UInt8) × Unit))) × ((List ((List UInt8) × ((List ((List UInt8) × ((List UInt8) × Unit))) × ((List UInt8) × Unit)))) × Unit)) × Int × Unit)) : Option ((((List UInt8) × ((List ((List UInt8) × ((List UInt8) × Unit))) × ((List UInt8) × Unit))) × ((List ((List UInt8) × ((List ((List UInt8) × ((List UInt8) × Unit))) × ((List UInt8) × Unit)))) × Unit)) × Int × Unit) :=
 zht N i.1 i.2 v.1 v.2.1 v.2.2 (fun f b x18 => (r (f, b, x18))) (fun a1 a2 => (K (.exit 0) (mkS [(2, .box (.pair (.pair .str (.pair (.sl (.pair .str (.pair .str .unit))) (.pair .str .unit))) (.pair (.sl (.pair .str (.pair (.sl (.pair .str (.pair .str .unit))) (.pair .str .unit)))) .unit))), (1, .box (.pair .bool (.pair .str (.pair (.int .i64) .unit)))), (0, .box (.pair (.pair .str (.pair (.sl (.pair .str (.pair .str .unit))) (.pair .str .unit))) (.pair (.own (.pair .str (.pair (.sl (.pair .str (.pair .str .unit))) (.pair .str .unit)))) .unit)))] 29 (i.1, a1, a2, ()))))

def zox (N : Nat) : Hd ((((List UInt8) × ((List ((List UInt8) × ((List UInt8) × Unit))) × ((List UInt8) × Unit))) × ((List ((List UInt8) × ((List ((List UInt8) × ((List UInt8) × Unit))) × ((List UInt8) × Unit)))) × Unit)) × Int × Unit) := fun st K => (unS [(2, .box (.pair (.pair .str (.pair (.sl (.pair .str (.pair .str .unit))) (.pair .str .unit))) (.pair (.sl (.pair .str (.pair (.sl (.pair .str (.pair .str .unit))) (.pair .str .unit)))) .unit))), (1, .box (.pair .bool (.pair .str (.pair (.int .i64) .unit)))), (0, .box (.pair (.pair .str (.pair (.sl (.pair .str (.pair .str .unit))) (.pair .str .unit))) (.pair (.own (.pair .str (.pair (.sl (.pair .str (.pair .str .unit))) (.pair .str .unit)))) .unit))), (11, .v (.int .u64)), (0, .v (.int .u64))] 16 (restr [18, 17, 5, 4, 2] 0 st)).bind fun x => iter (fun v r => zoy N ((fun x => (x.1, x.2.2.2.1)) x) v r K) N ((fun x => (x.2.1, x.2.2.1, x.2.2.2.2.1)) x)

def zwv (N : Nat) : Tab ((((List UInt8) × ((List ((List UInt8) × ((List UInt8) × Unit))) × ((List UInt8) × Unit))) × ((List ((List UInt8) × ((List ((List UInt8) × ((List UInt8) × Unit))) × ((List UInt8) × Unit)))) × Unit)) × Int × Unit) := []

theorem zuq {N : Nat} {c : Ctx} (hb : Base Go.Proofs.Tryd.prog (zec N) c) : z12 Go.Proofs.Tryd.prog c (zk zcx [0, 1, 0, 1, 1, 1, 1]) (zox N) :=
  z6z (s := [(2, .box (.pair (.pair .str (.pair (.sl (.pair .str (.pair .str .unit))) (.pair .str .unit))) (.pair (.sl (.pair .str (.pair (.sl (.pair .str (.pair .str .unit))) (.pair .str .unit)))) .unit))), (1, .box (.pair .bool (.pair .str (.pair (.int .i64) .unit)))), (0, .box (.pair (.pair .str (.pair (.sl (.pair .str (.pair .str .unit))) (.pair .str .unit))) (.pair (.own (.pair .str (.pair (.sl (.pair .str (.pair .str .unit))) (.pair .str .unit)))) .unit))), (11, .v (.int .u64)), (0, .v (.int .u64))]) (m := 16) (zoy N) [18, 17, 5, 4, 2] N (fun x => (x.1, x.2.2.2.1)) (fun x => (x.2.1, x.2.2.1, x.2.2.2.2.1)) (fun i v => (i.1, v.1, v.2.1, i.2, v.2.2, ())) (fun _ => rfl) (zf hb N (zwv N) zk8 zcx TabOk.nil [0, 0, 1, 0, 1, 1, 1, 1] _ rfl) (fun i v r K => by kernel_rfl)

def z7m (N : Nat) (s : (List UInt8)) : Option ((((List UInt8) × ((List ((List UInt8) × ((List UInt8) × Unit))) × ((List UInt8) × Unit))) × ((List ((List UInt8) × ((List ((List UInt8) × ((List UInt8) × Unit))) × ((List UInt8) × Unit)))) × Unit)) × Int × Unit) :=
 cond (decide ((65536 : Int) < (((List.length s) : Nat) : Int)))
 (some (((([] : List UInt8), (([] : List ((List UInt8) × ((List UInt8) × Unit))), (([] : List UInt8), ()))), (([] : List ((List UInt8) × ((List ((List UInt8) × ((List UInt8) × Unit))) × ((List UInt8) × Unit)))), ())), ((3 : Int), ())))
 ((z40 N (true, (s, ((0 : Int), ())))).bind fun y =>
 (z2b N y.2.1 (8 : Int)).bind fun y1 =>
 zhu N ((([] : List UInt8), (([] : List ((List UInt8) × ((List UInt8) × Unit))), (([] : List UInt8), ()))), (([] : List ((List UInt8) × ((List ((List UInt8) × ((List UInt8) × Unit))) × ((List UInt8) × Unit)))), ())) y1.2.1 (y.1, (([] : List ((List UInt8) × ((List ((List UInt8) × ((List UInt8) × Unit))) × ((List UInt8) × Unit)))), ())) y1.1 (0 : Int)
 (fun f b => (z2q N f).bind fun y2 =>
 cond (y2.1 != (0 : Int))
 (some (((([] : List UInt8), (([] : List ((List UInt8) × ((List UInt8) × Unit))), (([] : List UInt8), ()))), (([] : List ((List UInt8) × ((List ((List UInt8) × ((List UInt8) × Unit))) × ((List UInt8) × Unit)))), ())), (y2.1, ())))
 (some (((b.1.1, (b.1.2.1, (b.1.2.2.1, b.1.2.2.2))), (b.2.1, b.2.2)), ((0 : Int), ())))))

def zqs (N : Nat) : Tab ((((List UInt8) × ((List ((List UInt8) × ((List UInt8) × Unit))) × ((List UInt8) × Unit))) × ((List ((List UInt8) × ((List ((List UInt8) × ((List UInt8) × Unit))) × ((List UInt8) × Unit)))) × Unit)) × Int × Unit) := [([0, 1, 0, 1, 1, 1, 1], zox N)]

theorem ztl (N : Nat) (x : z2c [(0, .v .str)]) : za3 (zec N) N (zqs N) zk8 Go.Proofs.Tryd.f12 (mkS [(0, .v .str)] 0 x) (z4j (.tup [(.pair (.pair .str (.pair (.sl (.pair .str (.pair .str .unit))) (.pair .str .unit))) (.pair (.sl (.pair .str (.pair (.sl (.pair .str (.pair .str .unit))) (.pair .str .unit)))) .unit)), (.int .i64)]) 1) = z7m N x.1 := by kernel_rfl

def zf4 (N : Nat) : List A -> Res := z1i [(0, .v .str)] (fun x => z7m N x.1) (zap (.tup [(.pair (.pair .str (.pair (.sl (.pair .str (.pair .str .unit))) (.pair .str .unit))) (.pair (.sl (.pair .str (.pair (.sl (.pair .str (.pair .str .unit))) (.pair .str .unit)))) .unit)), (.int .i64)]) 1)

theorem zoz (N : Nat) : Contract Go.Proofs.Tryd.prog zd 12 (zf4 N) :=
  Contract.of (E := zec N) (H := zqs N) (L := zk8) (N := N) (body := zcx) (K := (z4j (.tup [(.pair (.pair .str (.pair (.sl (.pair .str (.pair .str .unit))) (.pair .str .unit))) (.pair (.sl (.pair .str (.pair (.sl (.pair .str (.pair .str .unit))) (.pair .str .unit)))) .unit)), (.int .i64)]) 1)) (zur N) Go.Proofs.Tryd.func12 (by kernel_rfl) (by decide) (fun _ hb => (TabOk.cons (zuq hb) TabOk.nil)) (fun x y h => by rw [ztl]; exact h) (z19 (s := (.tup [(.pair (.pair .str (.pair (.sl (.pair .str (.pair .str .unit))) (.pair .str .unit))) (.pair (.sl (.pair .str (.pair (.sl (.pair .str (.pair .str .unit))) (.pair .str .unit)))) .unit)), (.int .i64)])) (m := 1))

def zjm : Code := (Go.Proofs.Tryd.f55.body).getD .skip

def ze6 : List (List Nat × List Nat) := [([0], [0]), ([0, 1], [3]), ([0, 1, 1], [2]), ([1, 1, 1], [2])]

def z81 (N : Nat) : Env := z2x tys zd [] [] [] [] false [] []

theorem zl4 (N : Nat) : EnvOk Go.Proofs.Tryd.prog (z81 N) := zl mixed z1f (FnsOk.nil) (ItsOk.nil)

def zhw (N : Nat) (n : Int) : Option (List UInt8) :=
 some (Go.Lift.toStr ([(Go.IntKind.wrap Go.IntKind.u8 n)] : List Int))

def ze5 (N : Nat) : Tab (List UInt8) := []

theorem zjl (N : Nat) (x : z2c [(0, .v (.int .i64))]) : za3 (z81 N) N (ze5 N) ze6 Go.Proofs.Tryd.f55 (mkS [(0, .v (.int .i64))] 0 x) (z4j (.v .str) 1) = zhw N x.1 := by kernel_rfl

def zao (N : Nat) : List A -> Res := z1i [(0, .v (.int .i64))] (fun x => zhw N x.1) (zap (.v .str) 1)

theorem zmq (N : Nat) : Contract Go.Proofs.Tryd.prog zd 55 (zao N) :=
  Contract.of (E := z81 N) (H := ze5 N) (L := ze6) (N := N) (body := zjm) (K := (z4j (.v .str) 1)) (zl4 N) Go.Proofs.Tryd.func55 (by kernel_rfl) (by decide) (fun _ hb => TabOk.nil) (fun x y h => by rw [zjl]; exact h) (z19 (s := (.v .str)) (m := 1))

def zan : Code := (Go.Proofs.Tryd.f35.body).getD .skip

def zfo : List (List Nat × List Nat) := [([0], [0]), ([0, 0, 1], [4, 0]), ([1, 0, 1], [0]), ([0, 0, 1, 0, 1], [2]), ([1, 0, 1, 0, 1], [2]), ([0, 1, 1], [2]), ([1, 1, 1], [2])]

def z9b (N : Nat) (self : Int -> Option (List UInt8)) : Env := z2x tys zd [(55, zao N), (35, z1i [(0, .v (.int .u64))] (fun x => self x.1) (zap (.v .str) 1))] [] [] [] false [] []

theorem zmp (N : Nat) (self : Int -> Option (List UInt8)) (hself : Contract Go.Proofs.Tryd.prog zd 35 (z1i [(0, .v (.int .u64))] (fun x => self x.1) (zap (.v .str) 1))) : EnvOk Go.Proofs.Tryd.prog (z9b N self) := zl mixed z1f (FnsOk.cons (zmq N) (FnsOk.cons (hself) (FnsOk.nil))) (ItsOk.nil)

def z5p (N : Nat) (self : Int -> Option (List UInt8)) (n : Int) : Option (List UInt8) :=
 cond (decide (n < (128 : Int)))
 (some (Go.Lift.toStr ([(Go.IntKind.wrap Go.IntKind.u8 (Go.IntKind.wrap Go.IntKind.i64 n))] : List Int)))
 ((self (Go.IntKind.wrap Go.IntKind.u64 (Int.tdiv n (128 : Int)))).bind fun y =>
 cond (decide (((List.length (Go.Lift.toStr ([(Go.IntKind.wrap Go.IntKind.u8 (Go.IntKind.wrap Go.IntKind.i64 ((Go.IntKind.wrap Go.IntKind.i64 (Int.tmod n (128 : Int))) + (128 : Int))))] : List Int))) + (List.length y)) <= 9223372036854775807))
 (some ((Go.Lift.toStr ([(Go.IntKind.wrap Go.IntKind.u8 (Go.IntKind.wrap Go.IntKind.i64 ((Go.IntKind.wrap Go.IntKind.i64 (Int.tmod n (128 : Int))) + (128 : Int))))] : List Int)) ++ y))
 (none))

def zfn (N : Nat) (self : Int -> Option (List UInt8)) : Tab (List UInt8) := []

theorem zl3 (N : Nat) (self : Int -> Option (List UInt8)) (x : z2c [(0, .v (.int .u64))]) : za3 (z9b N self) N (zfn N self) zfo Go.Proofs.Tryd.f35 (mkS [(0, .v (.int .u64))] 0 x) (z4j (.v .str) 1) = z5p N self x.1 := by kernel_rfl

def z24 : Nat -> Int -> Option (List UInt8)
  | 0 => fun _ => none
  | N + 1 => z5p (N + 1) (z24 N)

def zc4 (N : Nat) : List A -> Res := z1i [(0, .v (.int .u64))] (fun x => z24 N x.1) (zap (.v .str) 1)

theorem ze4 : ∀ N : Nat, Contract Go.Proofs.Tryd.prog zd 35 (zc4 N)
  | 0 => Contract.zero Go.Proofs.Tryd.func35 (body := zan) (by kernel_rfl) (by decide) (fun _ => rfl)
  | N + 1 => Contract.of (E := z9b (N + 1) (z24 N)) (H := zfn (N + 1) (z24 N)) (L := zfo) (N := (N + 1)) (body := zan) (K := (z4j (.v .str) 1)) (zmp (N + 1) (z24 N) (ze4 N)) Go.Proofs.Tryd.func35 (by kernel_rfl) (by decide) (fun _ hb => TabOk.nil) (fun x y h => by rw [zl3]; exact h) (z19 (s := (.v .str)) (m := 1))

def z10 : Code := (Go.Proofs.Tryd.f50.body).getD .skip

def z2m : List (List Nat × List Nat) := [([0], [0]), ([0, 1], [5, 0]), ([0, 0, 1, 1], [5, 0]), ([0, 0, 0, 0, 0, 1, 1], [21, 5, 0]), ([1, 0, 0, 0, 0, 1, 1], [5, 0]), ([1, 1, 0, 0, 0, 0, 1, 1], [5, 0]), ([0, 1, 0, 0, 0, 1, 1], [5, 0]), ([1, 0, 0, 0, 1, 1], [5, 0]), ([0, 1, 1], [5, 0]), ([0, 0, 1, 1, 1], [25, 5, 0]), ([1, 0, 1, 1, 1], [5, 0]), ([0, 0, 1, 0, 1, 1, 1], [2, 3, 4]), ([1, 0, 1, 0, 1, 1, 1], [2, 3, 4]), ([0, 0, 1, 1, 1, 1], [29, 5, 0]), ([1, 0, 1, 1, 1, 1], [5, 0]), ([0, 0, 1, 0, 1, 1, 1, 1], [2, 3, 4]), ([1, 0, 1, 0, 1, 1, 1, 1], [2, 3, 4]), ([0, 1, 1, 1, 1, 1], [5, 6, 0]), ([0, 0, 1, 1, 1, 1, 1, 1], [7, 6, 0, 5]), ([0, 1, 0, 1, 1, 1, 1, 1, 1], [7, 6, 0, 5]), ([0, 0, 0, 0, 1, 0, 1, 1, 1, 1, 1, 1], [32, 6, 0, 7, 5]), ([1, 0, 0, 0, 1, 0, 1, 1, 1, 1, 1, 1], [6, 0, 7, 5]), ([1, 1, 0, 0, 0, 1, 0, 1, 1, 1, 1, 1, 1], [6, 0, 5]), ([0, 0, 0, 0, 1, 0, 0, 1, 0, 1, 1, 1, 1, 1, 1], [36, 6, 0, 7, 5]), ([1, 0, 0, 0, 1, 0, 0, 1, 0, 1, 1, 1, 1, 1, 1], [6, 0, 7, 5]), ([0, 0, 1, 0, 0, 0, 1, 0, 0, 1, 0, 1, 1, 1, 1, 1, 1], [2, 3, 4]), ([1, 0, 1, 0, 0, 0, 1, 0, 0, 1, 0, 1, 1, 1, 1, 1, 1], [2, 3, 4]), ([1, 0, 0, 1, 0, 0, 1, 0, 1, 1, 1, 1, 1, 1], [7, 6, 0, 5]), ([0, 1, 0, 0, 1, 0, 1, 1, 1, 1, 1, 1], [7, 6, 0, 5]), ([1, 1, 0, 0, 1, 0, 1, 1, 1, 1, 1, 1], [7, 6, 0, 5]), ([1, 0, 1, 1, 1, 1, 1, 1], [6, 0, 5]), ([0, 0, 1, 1, 1, 1, 1, 1, 1], [51, 6, 5]), ([1, 0, 1, 1, 1, 1, 1, 1, 1], [6, 5]), ([0, 0, 1, 0, 1, 1, 1, 1, 1, 1, 1], [2, 3, 4]), ([1, 0, 1, 0, 1, 1, 1, 1, 1, 1, 1], [2, 3, 4]), ([0, 1, 1, 1, 1, 1, 1, 1, 1], [2, 3, 4]), ([1, 1, 1, 1, 1, 1, 1, 1, 1], [2, 3, 4])]

def z23 (N : Nat) : Env := z2x tys zd [(35, zc4 N)] [] [] [] false [] []

theorem zl2 (N : Nat) : EnvOk Go.Proofs.Tryd.prog (z23 N) := zl mixed z1f (FnsOk.cons (ze4 N) (FnsOk.nil)) (ItsOk.nil)

def z6w (N : Nat) (s : (List UInt8)) (k : Int) (k0 : Option (Int × Int × Int × Unit)) (k1 : Option (Int × Int × Int × Unit)) : Option (Int × Int × Int × Unit) :=
 cond (decide (k < (((List.length s) : Nat) : Int)))
 (cond (decide (k < (10 : Int)))
 (cond (Go.Lift.inR k (List.length s))
 (cond (decide ((128 : Int) <= (((UInt8.toNat (List.getD s (Int.toNat k) (0 : UInt8))) : Nat) : Int)))
 (k0)
 (k1))
 (none))
 (k1))
 (k1)

def zc1 (N : Nat) (x : z2c [(0, .v .str), (4, .v (.int .i64))]) (K : Ex -> List A -> Option (Int × Int × Int × Unit)) : Option (Int × Int × Int × Unit) :=
 z6w N x.1 x.2.1 (K .normal (mkS [(0, .v .str), (4, .v (.int .i64))] 49 (x.1, x.2.1, ()))) (K (.exit 0) (mkS [(0, .v .str), (4, .v (.int .i64))] 49 (x.1, x.2.1, ())))

def zbx (N : Nat) : Hd (Int × Int × Int × Unit) := fun st K => (unS [(0, .v .str), (4, .v (.int .i64))] 49 (restr [5, 0] 0 st)).bind fun x => zc1 N x K

def zml (N : Nat) : Tab (Int × Int × Int × Unit) := []

theorem zkz {N : Nat} {c : Ctx} (hb : Base Go.Proofs.Tryd.prog (z23 N) c) : z12 Go.Proofs.Tryd.prog c (zk z10 [0, 0, 0, 0, 1, 1]) (zbx N) :=
  z1b (s := [(0, .v .str), (4, .v (.int .i64))]) (m := 49) (g := zc1 N) [5, 0] (zf hb N (zml N) z2m z10 TabOk.nil [0, 0, 0, 0, 1, 1] _ rfl) (fun x K => by kernel_rfl)

def z6u (N : Nat) (s : (List UInt8)) (k : Int) (rec : Int -> Option (Int × Int × Int × Unit)) (k0 : Int -> Option (Int × Int × Int × Unit)) : Option (Int × Int × Int × Unit) :=
 z6w N s k
 (rec (Go.IntKind.wrap Go.IntKind.i64 (k + (1 : Int))))
 (k0 k)

def zbv (N : Nat) (s : (List UInt8)) (k : Int) (k0 : Int -> Option (Int × Int × Int × Unit)) : Option (Int × Int × Int × Unit) :=
 iter (fun (v : Int) r => z6u N s v (fun k => (r k)) k0) N k

def zc2 (N : Nat) (i : (List UInt8)) (v : Int) (r : Int -> Option (Int × Int × Int × Unit)) (K : Ex -> List A -> Option (Int × Int × Int × Unit)) : Option (Int × Int × Int × Unit) :=
 z6u N i v (fun k => (r k)) (fun a1 => (K (.exit 0) (mkS [(0, .v .str), (4, .v (.int .i64))] 49 (i, a1, ()))))

def zby (N : Nat) : Hd (Int × Int × Int × Unit) := fun st K => (unS [(0, .v .str), (4, .v (.int .i64))] 49 (restr [5, 0] 0 st)).bind fun x => iter (fun v r => zc2 N ((fun x => x.1) x) v r K) N ((fun x => x.2.1) x)

def zmm (N : Nat) : Tab (Int × Int × Int × Unit) := [([0, 0, 0, 0, 1, 1], zbx N)]

theorem zl0 {N : Nat} {c : Ctx} (hb : Base Go.Proofs.Tryd.prog (z23 N) c) : z12 Go.Proofs.Tryd.prog c (zk z10 [0, 0, 1, 1]) (zby N) :=
  z6z (s := [(0, .v .str), (4, .v (.int .i64))]) (m := 49) (zc2 N) [5, 0] N (fun x => x.1) (fun x => x.2.1) (fun i v => (i, v, ())) (fun _ => rfl) (zf hb N (zmm N) z2m z10 (TabOk.cons (zkz hb) TabOk.nil) [0, 0, 0, 1, 1] _ rfl) (fun i v r K => by kernel_rfl)

def z49 (N : Nat) (s : (List UInt8)) (k : Int) (k0 : Int -> Option (Int × Int × Int × Unit)) : Option (Int × Int × Int × Unit) :=
 zbv N s k
 (fun k1 => k0 k1)

def zc3 (N : Nat) (x : z2c [(0, .v .str), (4, .v (.int .i64))]) (K : Ex -> List A -> Option (Int × Int × Int × Unit)) : Option (Int × Int × Int × Unit) :=
 z49 N x.1 x.2.1 (fun a1 => (K .normal (mkS [(0, .v .str), (4, .v (.int .i64))] 49 (x.1, a1, ()))))

def zbz (N : Nat) : Hd (Int × Int × Int × Unit) := fun st K => (unS [(0, .v .str), (4, .v (.int .i64))] 49 (restr [5, 0] 0 st)).bind fun x => zc3 N x K

def zmn (N : Nat) : Tab (Int × Int × Int × Unit) := [([0, 0, 1, 1], zby N)]

theorem zl1 {N : Nat} {c : Ctx} (hb : Base Go.Proofs.Tryd.prog (z23 N) c) : z12 Go.Proofs.Tryd.prog c (zk z10 [0, 1, 1]) (zbz N) :=
  z1b (s := [(0, .v .str), (4, .v (.int .i64))]) (m := 49) (g := zc3 N) [5, 0] (zf hb N (zmn N) z2m z10 (TabOk.cons (zl0 hb) TabOk.nil) [0, 1, 1] _ rfl) (fun x K => by kernel_rfl)

def z6t (N : Nat) (s : (List UInt8)) (k : Int) (n : Int) (i : Int) (rec : Int -> Int -> Option (Int × Int × Int × Unit)) (k0 : Int -> Int -> Int -> Option (Int × Int × Int × Unit)) (k1 : Int -> Option (Int × Int × Int × Unit)) : Option (Int × Int × Int × Unit) :=
 cond (decide ((0 : Int) <= i))
 (cond (decide ((144115188075855871 : Int) < n))
 (k0 (0 : Int) (0 : Int) (2 : Int))
 (cond (Go.Lift.inR i (List.length s))
 (rec (Go.IntKind.wrap Go.IntKind.u64 ((Go.IntKind.wrap Go.IntKind.u64 ((128 : Int) * n)) + (Go.IntKind.wrap Go.IntKind.u64 (Int.tmod (((UInt8.toNat (List.getD s (Int.toNat i) (0 : UInt8))) : Nat) : Int) (128 : Int))))) (Go.IntKind.wrap Go.IntKind.i64 (i - (1 : Int))))
 (none)))
 (k1 n)

def z6v (N : Nat) (s : (List UInt8)) (k : Int) (n : Int) (i : Int) (k0 : Int -> Int -> Int -> Option (Int × Int × Int × Unit)) (k1 : Int -> Option (Int × Int × Int × Unit)) : Option (Int × Int × Int × Unit) :=
 iter (fun (v : (Int × Int)) r => z6t N s k v.1 v.2 (fun n i => (r (n, i))) k0 k1) N (n, i)

def zc0 (N : Nat) (i : ((List UInt8) × Int)) (v : (Int × Int)) (r : (Int × Int) -> Option (Int × Int × Int × Unit)) (K : Ex -> List A -> Option (Int × Int × Int × Unit)) : Option (Int × Int × Int × Unit) :=
 z6t N i.1 i.2 v.1 v.2 (fun n i => (r (n, i))) (fun a0 a1 a2 => (K .ret (mkS [(2, .v (.int .u64)), (0, .v (.int .i64)), (0, .v (.int .i64))] 50 (a0, a1, a2, ())))) (fun a2 => (K (.exit 2) (mkS [(0, .v .str), (4, .v (.int .i64)), (0, .v (.int .u64))] 48 (i.1, i.2, a2, ()))))

def zbw (N : Nat) : Hd (Int × Int × Int × Unit) := fun st K => (unS [(0, .v .str), (4, .v (.int .i64)), (0, .v (.int .u64)), (0, .v (.int .i64))] 47 (restr [7, 6, 0, 5] 0 st)).bind fun x => iter (fun v r => zc0 N ((fun x => (x.1, x.2.1)) x) v r K) N ((fun x => (x.2.2.1, x.2.2.2.1)) x)

def zmk (N : Nat) : Tab (Int × Int × Int × Unit) := []

theorem zky {N : Nat} {c : Ctx} (hb : Base Go.Proofs.Tryd.prog (z23 N) c) : z12 Go.Proofs.Tryd.prog c (zk z10 [0, 1, 0, 1, 1, 1, 1, 1, 1]) (zbw N) :=
  z6z (s := [(0, .v .str), (4, .v (.int .i64)), (0, .v (.int .u64)), (0, .v (.int .i64))]) (m := 47) (zc0 N) [7, 6, 0, 5] N (fun x => (x.1, x.2.1)) (fun x => (x.2.2.1, x.2.2.2.1)) (fun i v => (i.1, i.2, v.1, v.2, ())) (fun _ => rfl) (zf hb N (zmk N) z2m z10 TabOk.nil [0, 0, 1, 0, 1, 1, 1, 1, 1, 1] _ rfl) (fun i v r K => by kernel_rfl)

def z4n (N : Nat) (s : (List UInt8)) : Option (Int × Int × Int × Unit) :=
 z49 N s (0 : Int)
 (fun k => cond (k == (10 : Int))
 (some ((0 : Int), ((0 : Int), ((2 : Int), ()))))
 (cond (k == (((List.length s) : Nat) : Int))
 (some ((0 : Int), ((0 : Int), ((1 : Int), ()))))
 (z6v N s k (0 : Int) k
 (fun x2 x3 x4 => some (x2, (x3, (x4, ()))))
 (fun n => (z24 N n).bind fun y =>
 cond (decide (((0 : Int) <= (Go.IntKind.wrap Go.IntKind.i64 (k + (1 : Int)))) /\ ((Go.IntKind.wrap Go.IntKind.i64 (k + (1 : Int))) <= (((List.length s) : Nat) : Int))))
 (cond (!(y == (Go.Lift.cut s 0 (Int.toNat (Go.IntKind.wrap Go.IntKind.i64 (k + (1 : Int)))))))
 (some ((0 : Int), ((0 : Int), ((2 : Int), ()))))
 (some (n, ((Go.IntKind.wrap Go.IntKind.i64 (k + (1 : Int))), ((0 : Int), ())))))
 (none)))))

def ze3 (N : Nat) : Tab (Int × Int × Int × Unit) := [([0, 1, 1], zbz N), ([0, 1, 0, 1, 1, 1, 1, 1, 1], zbw N)]

theorem zjk (N : Nat) (x : z2c [(0, .v .str)]) : za3 (z23 N) N (ze3 N) z2m Go.Proofs.Tryd.f50 (mkS [(0, .v .str)] 0 x) (z4j (.tup [(.int .u64), (.int .i64), (.int .i64)]) 1) = z4n N x.1 := by kernel_rfl

def zam (N : Nat) : List A -> Res := z1i [(0, .v .str)] (fun x => z4n N x.1) (zap (.tup [(.int .u64), (.int .i64), (.int .i64)]) 1)

theorem zmo (N : Nat) : Contract Go.Proofs.Tryd.prog zd 50 (zam N) :=
  Contract.of (E := z23 N) (H := ze3 N) (L := z2m) (N := N) (body := z10) (K := (z4j (.tup [(.int .u64), (.int .i64), (.int .i64)]) 1)) (zl2 N) Go.Proofs.Tryd.func50 (by kernel_rfl) (by decide) (fun _ hb => (TabOk.cons (zl1 hb) (TabOk.cons (zky hb) TabOk.nil))) (fun x y h => by rw [zjk]; exact h) (z19 (s := (.tup [(.int .u64), (.int .i64), (.int .i64)])) (m := 1))

def z22 : Code := (Go.Proofs.Tryd.f49.body).getD .skip

def z3m : List (List Nat × List Nat) := [([0], [2, 1, 4]), ([0, 0, 1], [11, 2, 4, 1]), ([1, 0, 1], [1, 4]), ([0, 0, 1, 0, 1], [4]), ([1, 0, 1, 0, 1], [4]), ([0, 1, 1], [4]), ([1, 1, 1], [4])]

def z2r (N : Nat) : Env := z2x tys zd [] [] [] [] false [] []

theorem zi2 (N : Nat) : EnvOk Go.Proofs.Tryd.prog (z2r N) := zl mixed z1f (FnsOk.nil) (ItsOk.nil)

def z2i (N : Nat) (e : Int) (r_ : ((List UInt8) × (Int × Unit))) (x4 : ((List UInt8) × (Int × Unit))) (k0 : Bool -> Option ((List UInt8) × (Int × Unit))) : Option ((List UInt8) × (Int × Unit)) :=
 cond (r_.2.1 != (0 : Int))
 (k0 true)
 (k0 (e == (0 : Int)))

def z9u (N : Nat) (x : z2c [(1, .v (.int .i64)), (0, .box (.pair .str (.pair (.int .i64) .unit))), (1, .box (.pair .str (.pair (.int .i64) .unit)))]) (K : Ex -> List A -> Option ((List UInt8) × (Int × Unit))) : Option ((List UInt8) × (Int × Unit)) :=
 z2i N x.1 x.2.1 x.2.2.1 (fun a3 => (K .normal (mkS [(1, .v (.int .i64)), (0, .box (.pair .str (.pair (.int .i64) .unit))), (1, .box (.pair .str (.pair (.int .i64) .unit))), (6, .v .bool)] 3 (x.1, x.2.1, x.2.2.1, a3, ()))))

def z9s (N : Nat) : Hd ((List UInt8) × (Int × Unit)) := fun st K => (unS [(1, .v (.int .i64)), (0, .box (.pair .str (.pair (.int .i64) .unit))), (1, .box (.pair .str (.pair (.int .i64) .unit)))] 10 (restr [2, 1, 4] 0 st)).bind fun x => z9u N x K

def zjg (N : Nat) : Tab ((List UInt8) × (Int × Unit)) := []

theorem zi0 {N : Nat} {c : Ctx} (hb : Base Go.Proofs.Tryd.prog (z2r N) c) : z12 Go.Proofs.Tryd.prog c (zk z22 [0, 0, 1]) (z9s N) :=
  z1b (s := [(1, .v (.int .i64)), (0, .box (.pair .str (.pair (.int .i64) .unit))), (1, .box (.pair .str (.pair (.int .i64) .unit)))]) (m := 10) (g := z9u N) [2, 1, 4] (zf hb N (zjg N) z3m z22 TabOk.nil [0, 0, 1] _ rfl) (fun x K => by kernel_rfl)

def z2j (N : Nat) (e : Int) (r_ : ((List UInt8) × (Int × Unit))) (x4 : ((List UInt8) × (Int × Unit))) (k0 : Option ((List UInt8) × (Int × Unit))) (k1 : Option ((List UInt8) × (Int × Unit))) : Option ((List UInt8) × (Int × Unit)) :=
 z2i N e r_ x4
 (fun x11 => cond x11
 (k0)
 (k1))

def z9v (N : Nat) (x : z2c [(1, .v (.int .i64)), (0, .box (.pair .str (.pair (.int .i64) .unit))), (1, .box (.pair .str (.pair (.int .i64) .unit)))]) (K : Ex -> List A -> Option ((List UInt8) × (Int × Unit))) : Option ((List UInt8) × (Int × Unit)) :=
 z2j N x.1 x.2.1 x.2.2.1 (K .ret (mkS [(4, .box (.pair .str (.pair (.int .i64) .unit)))] 10 (x.2.1, ()))) (K .normal (mkS [(1, .v (.int .i64)), (2, .box (.pair .str (.pair (.int .i64) .unit)))] 10 (x.1, x.2.2.1, ())))

def z9t (N : Nat) : Hd ((List UInt8) × (Int × Unit)) := fun st K => (unS [(1, .v (.int .i64)), (0, .box (.pair .str (.pair (.int .i64) .unit))), (1, .box (.pair .str (.pair (.int .i64) .unit)))] 10 (restr [2, 1, 4] 0 st)).bind fun x => z9v N x K

def zjh (N : Nat) : Tab ((List UInt8) × (Int × Unit)) := [([0, 0, 1], z9s N)]

theorem zi1 {N : Nat} {c : Ctx} (hb : Base Go.Proofs.Tryd.prog (z2r N) c) : z12 Go.Proofs.Tryd.prog c (zk z22 [0, 1]) (z9t N) :=
  z1b (s := [(1, .v (.int .i64)), (0, .box (.pair .str (.pair (.int .i64) .unit))), (1, .box (.pair .str (.pair (.int .i64) .unit)))]) (m := 10) (g := z9v N) [2, 1, 4] (zf hb N (zjh N) z3m z22 (TabOk.cons (zi0 hb) TabOk.nil) [0, 1] _ rfl) (fun x K => by kernel_rfl)

def z9 (N : Nat) (r_ : ((List UInt8) × (Int × Unit))) (e : Int) : Option ((List UInt8) × (Int × Unit)) :=
 z2j N e r_ (([] : List UInt8), ((0 : Int), ()))
 (some r_)
 (some (([] : List UInt8), (e, ())))

def zaj (N : Nat) : Tab ((List UInt8) × (Int × Unit)) := [([0, 1], z9t N)]

theorem zgz (N : Nat) (x : z2c [(0, .v (.pair .str (.pair (.int .i64) .unit))), (0, .v (.int .i64))]) : za3 (z2r N) N (zaj N) z3m Go.Proofs.Tryd.f49 (mkS [(0, .v (.pair .str (.pair (.int .i64) .unit))), (0, .v (.int .i64))] 0 x) (z4j (.v (.pair .str (.pair (.int .i64) .unit))) 2) = z9 N x.1 x.2.1 := by kernel_rfl

def z1e (N : Nat) : List A -> Res := z1i [(0, .v (.pair .str (.pair (.int .i64) .unit))), (0, .v (.int .i64))] (fun x => z9 N x.1 x.2.1) (zap (.v (.pair .str (.pair (.int .i64) .unit))) 2)

theorem z1x (N : Nat) : Contract Go.Proofs.Tryd.prog zd 49 (z1e N) :=
  Contract.of (E := z2r N) (H := zaj N) (L := z3m) (N := N) (body := z22) (K := (z4j (.v (.pair .str (.pair (.int .i64) .unit))) 2)) (zi2 N) Go.Proofs.Tryd.func49 (by kernel_rfl) (by decide) (fun _ hb => (TabOk.cons (zi1 hb) TabOk.nil)) (fun x y h => by rw [zgz]; exact h) (z19 (s := (.v (.pair .str (.pair (.int .i64) .unit)))) (m := 2))

def z2e : Code := (Go.Proofs.Tryd.f27.body).getD .skip

def z48 : List (List Nat × List Nat) := [([0], [2, 5, 1]), ([0, 0, 1], [11, 2, 5, 1]), ([1, 0, 1], [2, 1, 5]), ([0, 0, 1, 0, 1], [4, 5]), ([1, 0, 1, 0, 1], [4, 5]), ([0, 1, 1], [8, 6, 1, 2, 5, 7]), ([0, 0, 1, 1, 1], [26, 2, 5, 6, 7, 8]), ([1, 0, 1, 1, 1], [8, 2, 5, 6, 7]), ([0, 1, 0, 1, 1, 1], [8, 2, 5, 6, 7]), ([0, 0, 1, 1, 1, 1], [28, 2, 8, 5, 6, 7]), ([1, 0, 1, 1, 1, 1], [6, 2, 7, 5]), ([0, 0, 1, 0, 1, 1, 1, 1], [4, 5]), ([1, 0, 1, 0, 1, 1, 1, 1], [4, 5]), ([0, 1, 1, 1, 1, 1], [4, 5]), ([1, 1, 1, 1, 1, 1], [4, 5])]

def z31 (N : Nat) : Env := z2x tys zd [(49, z1e N), (50, zam N)] [] [] [] false [] []

theorem zjf (N : Nat) : EnvOk Go.Proofs.Tryd.prog (z31 N) := zl mixed z1f (FnsOk.cons (z1x N) (FnsOk.cons (zmo N) (FnsOk.nil))) (ItsOk.nil)

def z63 (N : Nat) (most : Int) (r_ : ((List UInt8) × (Int × Unit))) (x5 : ((List UInt8) × (Int × Unit))) (n : Int) (k : Int) (e : Int) (k0 : Bool -> Option (Int × ((List UInt8) × (Int × Unit)) × Unit)) : Option (Int × ((List UInt8) × (Int × Unit)) × Unit) :=
 cond (e == (0 : Int))
 (k0 (decide (most < n)))
 (k0 false)

def zah (N : Nat) (x : z2c [(1, .v (.int .u64)), (0, .box (.pair .str (.pair (.int .i64) .unit))), (2, .box (.pair .str (.pair (.int .i64) .unit))), (0, .v (.int .u64)), (0, .v (.int .i64)), (0, .v (.int .i64))]) (K : Ex -> List A -> Option (Int × ((List UInt8) × (Int × Unit)) × Unit)) : Option (Int × ((List UInt8) × (Int × Unit)) × Unit) :=
 z63 N x.1 x.2.1 x.2.2.1 x.2.2.2.1 x.2.2.2.2.1 x.2.2.2.2.2.1 (fun a5 => (K .normal (mkS [(2, .box (.pair .str (.pair (.int .i64) .unit))), (2, .box (.pair .str (.pair (.int .i64) .unit))), (0, .v (.int .u64)), (0, .v (.int .i64)), (0, .v (.int .i64)), (17, .v .bool)] 11 (x.2.1, x.2.2.1, x.2.2.2.1, x.2.2.2.2.1, x.2.2.2.2.2.1, a5, ()))))

def zaf (N : Nat) : Hd (Int × ((List UInt8) × (Int × Unit)) × Unit) := fun st K => (unS [(1, .v (.int .u64)), (0, .box (.pair .str (.pair (.int .i64) .unit))), (2, .box (.pair .str (.pair (.int .i64) .unit))), (0, .v (.int .u64)), (0, .v (.int .i64)), (0, .v (.int .i64))] 29 (restr [8, 6, 1, 2, 5, 7] 0 st)).bind fun x => zah N x K

def zkv (N : Nat) : Tab (Int × ((List UInt8) × (Int × Unit)) × Unit) := []

theorem zjd {N : Nat} {c : Ctx} (hb : Base Go.Proofs.Tryd.prog (z31 N) c) : z12 Go.Proofs.Tryd.prog c (zk z2e [0, 0, 1, 1, 1]) (zaf N) :=
  z1b (s := [(1, .v (.int .u64)), (0, .box (.pair .str (.pair (.int .i64) .unit))), (2, .box (.pair .str (.pair (.int .i64) .unit))), (0, .v (.int .u64)), (0, .v (.int .i64)), (0, .v (.int .i64))]) (m := 29) (g := zah N) [8, 6, 1, 2, 5, 7] (zf hb N (zkv N) z48 z2e TabOk.nil [0, 0, 1, 1, 1] _ rfl) (fun x K => by kernel_rfl)

def z64 (N : Nat) (most : Int) (r_ : ((List UInt8) × (Int × Unit))) (x5 : ((List UInt8) × (Int × Unit))) (n : Int) (k : Int) (e : Int) (k0 : Int -> Option (Int × ((List UInt8) × (Int × Unit)) × Unit)) : Option (Int × ((List UInt8) × (Int × Unit)) × Unit) :=
 z63 N most r_ x5 n k e
 (fun x26 => cond x26
 (k0 (3 : Int))
 (k0 e))

def zai (N : Nat) (x : z2c [(1, .v (.int .u64)), (0, .box (.pair .str (.pair (.int .i64) .unit))), (2, .box (.pair .str (.pair (.int .i64) .unit))), (0, .v (.int .u64)), (0, .v (.int .i64)), (0, .v (.int .i64))]) (K : Ex -> List A -> Option (Int × ((List UInt8) × (Int × Unit)) × Unit)) : Option (Int × ((List UInt8) × (Int × Unit)) × Unit) :=
 z64 N x.1 x.2.1 x.2.2.1 x.2.2.2.1 x.2.2.2.2.1 x.2.2.2.2.2.1 (fun a4 => (K .normal (mkS [(2, .box (.pair .str (.pair (.int .i64) .unit))), (2, .box (.pair .str (.pair (.int .i64) .unit))), (0, .v (.int .u64)), (0, .v (.int .i64)), (0, .v (.int .i64))] 29 (x.2.1, x.2.2.1, x.2.2.2.1, x.2.2.2.2.1, a4, ()))))

def zag (N : Nat) : Hd (Int × ((List UInt8) × (Int × Unit)) × Unit) := fun st K => (unS [(1, .v (.int .u64)), (0, .box (.pair .str (.pair (.int .i64) .unit))), (2, .box (.pair .str (.pair (.int .i64) .unit))), (0, .v (.int .u64)), (0, .v (.int .i64)), (0, .v (.int .i64))] 29 (restr [8, 6, 1, 2, 5, 7] 0 st)).bind fun x => zai N x K

def zkw (N : Nat) : Tab (Int × ((List UInt8) × (Int × Unit)) × Unit) := [([0, 0, 1, 1, 1], zaf N)]

theorem zje {N : Nat} {c : Ctx} (hb : Base Go.Proofs.Tryd.prog (z31 N) c) : z12 Go.Proofs.Tryd.prog c (zk z2e [0, 1, 1, 1]) (zag N) :=
  z1b (s := [(1, .v (.int .u64)), (0, .box (.pair .str (.pair (.int .i64) .unit))), (2, .box (.pair .str (.pair (.int .i64) .unit))), (0, .v (.int .u64)), (0, .v (.int .i64)), (0, .v (.int .i64))]) (m := 29) (g := zai N) [8, 6, 1, 2, 5, 7] (zf hb N (zkw N) z48 z2e (TabOk.cons (zjd hb) TabOk.nil) [0, 1, 1, 1] _ rfl) (fun x K => by kernel_rfl)

def z1j (N : Nat) (r_ : ((List UInt8) × (Int × Unit))) (most : Int) : Option (Int × ((List UInt8) × (Int × Unit)) × Unit) :=
 cond (r_.2.1 != (0 : Int))
 (some ((0 : Int), (r_, ())))
 ((z4n N r_.1).bind fun y =>
 z64 N most r_ (([] : List UInt8), ((0 : Int), ())) y.1 y.2.1 y.2.2.1
 (fun e => cond (e != (0 : Int))
 ((z9 N r_ e).bind fun y1 =>
 some ((0 : Int), (y1, ())))
 (cond (decide (((0 : Int) <= y.2.1) /\ (y.2.1 <= (((List.length r_.1) : Nat) : Int))))
 (some (y.1, (((Go.Lift.cut r_.1 (Int.toNat y.2.1) (List.length r_.1)), ((0 : Int), ())), ())))
 (none))))

def zbs (N : Nat) : Tab (Int × ((List UInt8) × (Int × Unit)) × Unit) := [([0, 1, 1, 1], zag N)]

theorem zhz (N : Nat) (x : z2c [(0, .v (.pair .str (.pair (.int .i64) .unit))), (0, .v (.int .u64))]) : za3 (z31 N) N (zbs N) z48 Go.Proofs.Tryd.f27 (mkS [(0, .v (.pair .str (.pair (.int .i64) .unit))), (0, .v (.int .u64))] 0 x) (z4j (.tup [(.int .u64), (.pair .str (.pair (.int .i64) .unit))]) 2) = z1j N x.1 x.2.1 := by kernel_rfl

def z3c (N : Nat) : List A -> Res := z1i [(0, .v (.pair .str (.pair (.int .i64) .unit))), (0, .v (.int .u64))] (fun x => z1j N x.1 x.2.1) (zap (.tup [(.int .u64), (.pair .str (.pair (.int .i64) .unit))]) 2)

theorem z65 (N : Nat) : Contract Go.Proofs.Tryd.prog zd 27 (z3c N) :=
  Contract.of (E := z31 N) (H := zbs N) (L := z48) (N := N) (body := z2e) (K := (z4j (.tup [(.int .u64), (.pair .str (.pair (.int .i64) .unit))]) 2)) (zjf N) Go.Proofs.Tryd.func27 (by kernel_rfl) (by decide) (fun _ hb => (TabOk.cons (zje hb) TabOk.nil)) (fun x y h => by rw [zhz]; exact h) (z19 (s := (.tup [(.int .u64), (.pair .str (.pair (.int .i64) .unit))])) (m := 2))

def z47 : Code := (Go.Proofs.Tryd.f47.body).getD .skip

def z62 : List (List Nat × List Nat) := [([0], [1, 2, 5]), ([0, 0, 1], [9, 2, 5, 1]), ([1, 0, 1], [2, 1, 5]), ([0, 1, 0, 1], [2, 1, 5]), ([0, 1, 1], [7, 5, 6]), ([0, 0, 1, 1, 1], [19, 7, 5, 6]), ([1, 0, 1, 1, 1], [6, 7, 5]), ([0, 0, 1, 0, 1, 1, 1], [4, 5]), ([1, 0, 1, 0, 1, 1, 1], [4, 5]), ([0, 0, 1, 1, 1, 1], [26, 7, 5, 6]), ([1, 0, 1, 1, 1, 1], [7, 6, 5]), ([0, 0, 1, 0, 1, 1, 1, 1], [4, 5]), ([1, 0, 1, 0, 1, 1, 1, 1], [4, 5]), ([0, 1, 1, 1, 1, 1], [4, 5]), ([1, 1, 1, 1, 1, 1], [4, 5])]

def z3l (N : Nat) : Env := z2x tys zd [(27, z3c N), (49, z1e N)] [] [] [] false [] []

theorem zhy (N : Nat) : EnvOk Go.Proofs.Tryd.prog (z3l N) := zl mixed z1f (FnsOk.cons (z65 N) (FnsOk.cons (z1x N) (FnsOk.nil))) (ItsOk.nil)

def z5d (N : Nat) (most : Int) (r_ : ((List UInt8) × (Int × Unit))) (x5 : ((List UInt8) × (Int × Unit))) (k0 : Int -> Option ((List UInt8) × ((List UInt8) × (Int × Unit)) × Unit)) : Option ((List UInt8) × ((List UInt8) × (Int × Unit)) × Unit) :=
 cond (decide (most < (0 : Int)))
 (k0 (0 : Int))
 (k0 most)

def z9q (N : Nat) (x : z2c [(1, .v (.int .i64)), (0, .box (.pair .str (.pair (.int .i64) .unit))), (2, .box (.pair .str (.pair (.int .i64) .unit)))]) (K : Ex -> List A -> Option ((List UInt8) × ((List UInt8) × (Int × Unit)) × Unit)) : Option ((List UInt8) × ((List UInt8) × (Int × Unit)) × Unit) :=
 z5d N x.1 x.2.1 x.2.2.1 (fun a0 => (K .normal (mkS [(1, .v (.int .i64)), (0, .box (.pair .str (.pair (.int .i64) .unit))), (2, .box (.pair .str (.pair (.int .i64) .unit)))] 32 (a0, x.2.1, x.2.2.1, ()))))

def z9p (N : Nat) : Hd ((List UInt8) × ((List UInt8) × (Int × Unit)) × Unit) := fun st K => (unS [(1, .v (.int .i64)), (0, .box (.pair .str (.pair (.int .i64) .unit))), (2, .box (.pair .str (.pair (.int .i64) .unit)))] 32 (restr [1, 2, 5] 0 st)).bind fun x => z9q N x K

def zjc (N : Nat) : Tab ((List UInt8) × ((List UInt8) × (Int × Unit)) × Unit) := []

theorem zhx {N : Nat} {c : Ctx} (hb : Base Go.Proofs.Tryd.prog (z3l N) c) : z12 Go.Proofs.Tryd.prog c (zk z47 [0, 1]) (z9p N) :=
  z1b (s := [(1, .v (.int .i64)), (0, .box (.pair .str (.pair (.int .i64) .unit))), (2, .box (.pair .str (.pair (.int .i64) .unit)))]) (m := 32) (g := z9q N) [1, 2, 5] (zf hb N (zjc N) z62 z47 TabOk.nil [0, 1] _ rfl) (fun x K => by kernel_rfl)

def zn (N : Nat) (r_ : ((List UInt8) × (Int × Unit))) (most : Int) : Option ((List UInt8) × ((List UInt8) × (Int × Unit)) × Unit) :=
 z5d N most r_ (([] : List UInt8), ((0 : Int), ()))
 (fun most1 => (z1j N r_ (Go.IntKind.wrap Go.IntKind.u64 most1)).bind fun y =>
 cond (y.2.1.2.1 != (0 : Int))
 (some (([] : List UInt8), (y.2.1, ())))
 (cond (decide ((Go.IntKind.wrap Go.IntKind.u64 (((List.length y.2.1.1) : Nat) : Int)) < y.1))
 ((z9 N y.2.1 (1 : Int)).bind fun y1 =>
 some (([] : List UInt8), (y1, ())))
 (cond (decide (((0 : Int) <= y.1) /\ (y.1 <= (((List.length y.2.1.1) : Nat) : Int))))
 (cond (decide (((0 : Int) <= y.1) /\ (y.1 <= (((List.length y.2.1.1) : Nat) : Int))))
 (some ((Go.Lift.cut y.2.1.1 0 (Int.toNat y.1)), (((Go.Lift.cut y.2.1.1 (Int.toNat y.1) (List.length y.2.1.1)), ((0 : Int), ())), ())))
 (none))
 (none))))

def zae (N : Nat) : Tab ((List UInt8) × ((List UInt8) × (Int × Unit)) × Unit) := [([0, 1], z9p N)]

theorem zgy (N : Nat) (x : z2c [(0, .v (.pair .str (.pair (.int .i64) .unit))), (0, .v (.int .i64))]) : za3 (z3l N) N (zae N) z62 Go.Proofs.Tryd.f47 (mkS [(0, .v (.pair .str (.pair (.int .i64) .unit))), (0, .v (.int .i64))] 0 x) (z4j (.tup [.str, (.pair .str (.pair (.int .i64) .unit))]) 2) = zn N x.1 x.2.1 := by kernel_rfl

def z4w (N : Nat) : List A -> Res := z1i [(0, .v (.pair .str (.pair (.int .i64) .unit))), (0, .v (.int .i64))] (fun x => zn N x.1 x.2.1) (zap (.tup [.str, (.pair .str (.pair (.int .i64) .unit))]) 2)

theorem z9r (N : Nat) : Contract Go.Proofs.Tryd.prog zd 47 (z4w N) :=
  Contract.of (E := z3l N) (H := zae N) (L := z62) (N := N) (body := z47) (K := (z4j (.tup [.str, (.pair .str (.pair (.int .i64) .unit))]) 2)) (zhy N) Go.Proofs.Tryd.func47 (by kernel_rfl) (by decide) (fun _ hb => (TabOk.cons (zhx hb) TabOk.nil)) (fun x y h => by rw [zgy]; exact h) (z19 (s := (.tup [.str, (.pair .str (.pair (.int .i64) .unit))])) (m := 2))

def zh1 : Code := (Go.Proofs.Tryd.f65.body).getD .skip

def zal : List (List Nat × List Nat) := [([0], [1, 3]), ([0, 0, 1], [6, 1, 3]), ([1, 0, 1], [1, 3]), ([0, 0, 1, 0, 1], [2, 3]), ([1, 0, 1, 0, 1], [2, 3]), ([0, 0, 1, 1], [10, 1, 3]), ([1, 0, 1, 1], [1, 3]), ([0, 0, 1, 0, 1, 1], [2, 3]), ([1, 0, 1, 0, 1, 1], [2, 3]), ([0, 1, 1, 1], [2, 3]), ([1, 1, 1, 1], [2, 3])]

def z66 (N : Nat) : Env := z2x tys zd [(49, z1e N)] [] [] [] false [] []

theorem zi5 (N : Nat) : EnvOk Go.Proofs.Tryd.prog (z66 N) := zl mixed z1f (FnsOk.cons (z1x N) (FnsOk.nil)) (ItsOk.nil)

def z1n (N : Nat) (r_ : ((List UInt8) × (Int × Unit))) : Option (Int × ((List UInt8) × (Int × Unit)) × Unit) :=
 cond (r_.2.1 != (0 : Int))
 (some ((0 : Int), (r_, ())))
 (cond (r_.1 == ([] : List UInt8))
 ((z9 N r_ (1 : Int)).bind fun y =>
 some ((0 : Int), (y, ())))
 (cond (Go.Lift.inR (0 : Int) (List.length r_.1))
 (cond (decide (((0 : Int) <= (1 : Int)) /\ ((1 : Int) <= (((List.length r_.1) : Nat) : Int))))
 (some ((((UInt8.toNat (List.getD r_.1 0 (0 : UInt8))) : Nat) : Int), (((Go.Lift.cut r_.1 1 (List.length r_.1)), ((0 : Int), ())), ())))
 (none))
 (none)))

def zak (N : Nat) : Tab (Int × ((List UInt8) × (Int × Unit)) × Unit) := []

theorem zh0 (N : Nat) (x : z2c [(0, .v (.pair .str (.pair (.int .i64) .unit)))]) : za3 (z66 N) N (zak N) zal Go.Proofs.Tryd.f65 (mkS [(0, .v (.pair .str (.pair (.int .i64) .unit)))] 0 x) (z4j (.tup [(.int .u8), (.pair .str (.pair (.int .i64) .unit))]) 1) = z1n N x.1 := by kernel_rfl

def z8w (N : Nat) : List A -> Res := z1i [(0, .v (.pair .str (.pair (.int .i64) .unit)))] (fun x => z1n N x.1) (zap (.tup [(.int .u8), (.pair .str (.pair (.int .i64) .unit))]) 1)

theorem zjj (N : Nat) : Contract Go.Proofs.Tryd.prog zd 65 (z8w N) :=
  Contract.of (E := z66 N) (H := zak N) (L := zal) (N := N) (body := zh1) (K := (z4j (.tup [(.int .u8), (.pair .str (.pair (.int .i64) .unit))]) 1)) (zi5 N) Go.Proofs.Tryd.func65 (by kernel_rfl) (by decide) (fun _ hb => TabOk.nil) (fun x y h => by rw [zh0]; exact h) (z19 (s := (.tup [(.int .u8), (.pair .str (.pair (.int .i64) .unit))])) (m := 1))

def za : Code := (Go.Proofs.Tryd.f48.body).getD .skip

def z1d : List (List Nat × List Nat) := [([0], [0, 2]), ([0, 1], [0, 4, 2]), ([0, 1, 1], [5, 4, 6, 2]), ([0, 1, 1, 1], [6, 4, 2]), ([0, 1, 1, 1, 1], [8, 6, 7, 4, 2]), ([0, 1, 1, 1, 1, 1], [7, 6, 4, 2]), ([0, 0, 1, 1, 1, 1, 1, 1], [9, 7, 6, 4, 2]), ([0, 1, 0, 1, 1, 1, 1, 1, 1], [9, 7, 6, 4, 2]), ([0, 0, 0, 0, 1, 0, 1, 1, 1, 1, 1, 1], [30, 6, 4, 9, 7, 2]), ([1, 0, 0, 0, 1, 0, 1, 1, 1, 1, 1, 1], [6, 4, 9, 7, 2]), ([1, 1, 0, 0, 0, 1, 0, 1, 1, 1, 1, 1, 1], [6, 2, 4]), ([0, 0, 0, 1, 0, 0, 1, 0, 1, 1, 1, 1, 1, 1], [10, 11, 6, 4, 9, 7, 2]), ([0, 0, 1, 0, 0, 1, 0, 0, 1, 0, 1, 1, 1, 1, 1, 1], [39, 11, 10, 6, 4, 9, 7, 2]), ([1, 0, 1, 0, 0, 1, 0, 0, 1, 0, 1, 1, 1, 1, 1, 1], [10, 11, 6, 4, 9, 7, 2]), ([0, 1, 0, 1, 0, 0, 1, 0, 0, 1, 0, 1, 1, 1, 1, 1, 1], [10, 11, 6, 4, 9, 7, 2]), ([0, 1, 1, 0, 0, 1, 0, 0, 1, 0, 1, 1, 1, 1, 1, 1], [10, 11, 12, 6, 4, 9, 7, 2]), ([0, 0, 1, 1, 1, 0, 0, 1, 0, 0, 1, 0, 1, 1, 1, 1, 1, 1], [43, 11, 12, 6, 4, 9, 7, 2]), ([1, 0, 1, 1, 1, 0, 0, 1, 0, 0, 1, 0, 1, 1, 1, 1, 1, 1], [4, 12, 9, 7, 6, 2]), ([0, 1, 1, 0, 1, 1, 1, 0, 0, 1, 0, 0, 1, 0, 1, 1, 1, 1, 1, 1], [11, 12, 6, 4, 9, 7, 2]), ([0, 1, 1, 1, 0, 1, 1, 1, 0, 0, 1, 0, 0, 1, 0, 1, 1, 1, 1, 1, 1], [12, 6, 4, 9, 7, 2]), ([0, 1, 1, 1, 1, 0, 1, 1, 1, 0, 0, 1, 0, 0, 1, 0, 1, 1, 1, 1, 1, 1], [64, 6, 4, 12, 9, 7, 2]), ([1, 1, 1, 1, 1, 0, 1, 1, 1, 0, 0, 1, 0, 0, 1, 0, 1, 1, 1, 1, 1, 1], [4, 12, 9, 7, 6, 2]), ([0, 1, 1, 1, 1, 1, 0, 1, 1, 1, 0, 0, 1, 0, 0, 1, 0, 1, 1, 1, 1, 1, 1], [4, 12, 9, 7, 6, 2]), ([0, 1, 0, 1, 1, 1, 0, 0, 1, 0, 0, 1, 0, 1, 1, 1, 1, 1, 1], [4, 12, 9, 7, 6, 2]), ([1, 1, 1, 1, 0, 0, 1, 0, 0, 1, 0, 1, 1, 1, 1, 1, 1], [9, 7, 6, 4, 2]), ([0, 1, 0, 0, 1, 0, 1, 1, 1, 1, 1, 1], [9, 7, 6, 4, 2]), ([1, 1, 0, 0, 1, 0, 1, 1, 1, 1, 1, 1], [9, 7, 6, 4, 2]), ([1, 0, 1, 1, 1, 1, 1, 1], [6, 2, 4]), ([0, 0, 1, 1, 1, 1, 1, 1, 1], [81, 6, 2, 4]), ([1, 0, 1, 1, 1, 1, 1, 1, 1], [6, 2, 4]), ([0, 1, 0, 1, 1, 1, 1, 1, 1, 1], [6, 2, 4]), ([0, 0, 1, 1, 1, 1, 1, 1, 1, 1], [92, 6, 2, 4]), ([1, 0, 1, 1, 1, 1, 1, 1, 1, 1], [6, 2, 4]), ([0, 1, 0, 1, 1, 1, 1, 1, 1, 1, 1], [6, 2, 4]), ([0, 0, 1, 1, 1, 1, 1, 1, 1, 1, 1], [97, 6, 2, 4]), ([1, 0, 1, 1, 1, 1, 1, 1, 1, 1, 1], [6, 4, 2]), ([0, 0, 1, 0, 1, 1, 1, 1, 1, 1, 1, 1, 1], [2, 3]), ([1, 0, 1, 0, 1, 1, 1, 1, 1, 1, 1, 1, 1], [2, 3]), ([0, 1, 1, 1, 1, 1, 1, 1, 1, 1, 1], [4, 2]), ([0, 1, 1, 1, 1, 1, 1, 1, 1, 1, 1, 1], [2, 3]), ([1, 1, 1, 1, 1, 1, 1, 1, 1, 1, 1, 1], [2, 3])]

def z15 (N : Nat) : Env := z2x tys zd [(65, z8w N), (47, z4w N), (27, z3c N), (49, z1e N)] [] [] [] false [(4, (.pair .str (.pair (.own (.pair .str (.pair .str .unit))) (.pair .str .unit))))] []

theorem zmj (N : Nat) : EnvOk Go.Proofs.Tryd.prog (z15 N) := zl mixed z1f (FnsOk.cons (zjj N) (FnsOk.cons (z9r N) (FnsOk.cons (z65 N) (FnsOk.cons (z1x N) (FnsOk.nil))))) (ItsOk.nil)

def z7z (N : Nat) (x2 : ((List UInt8) × ((List ((List UInt8) × ((List UInt8) × Unit))) × ((List UInt8) × Unit)))) (t : ((List UInt8) × ((List ((List UInt8) × ((List UInt8) × Unit))) × ((List UInt8) × Unit)))) (r_ : ((List UInt8) × (Int × Unit))) (n : Int) (i : Int) (b : Int) (y : ((List UInt8) × (Int × Unit))) (k0 : ((List UInt8) × (Int × Unit)) -> Option (((List UInt8) × ((List ((List UInt8) × ((List UInt8) × Unit))) × ((List UInt8) × Unit))) × Int × Unit)) : Option (((List UInt8) × ((List ((List UInt8) × ((List UInt8) × Unit))) × ((List UInt8) × Unit))) × Int × Unit) :=
 cond (decide ((1 : Int) < b))
 ((z9 N y (2 : Int)).bind fun y1 =>
 k0 y1)
 (k0 y)

def ze0 (N : Nat) (x : z2c [(2, .box (.pair .str (.pair (.sl (.pair .str (.pair .str .unit))) (.pair .str .unit)))), (1, .box (.pair .str (.pair (.own (.pair .str (.pair .str .unit))) (.pair .str .unit)))), (1, .box (.pair .str (.pair (.int .i64) .unit))), (0, .v (.int .u64)), (1, .v (.int .i64)), (0, .v (.int .u8)), (0, .box (.pair .str (.pair (.int .i64) .unit)))]) (K : Ex -> List A -> Option (((List UInt8) × ((List ((List UInt8) × ((List UInt8) × Unit))) × ((List UInt8) × Unit))) × Int × Unit)) : Option (((List UInt8) × ((List ((List UInt8) × ((List UInt8) × Unit))) × ((List UInt8) × Unit))) × Int × Unit) :=
 z7z N x.1 x.2.1 x.2.2.1 x.2.2.2.1 x.2.2.2.2.1 x.2.2.2.2.2.1 x.2.2.2.2.2.2.1 (fun a6 => (K .normal (mkS [(2, .box (.pair .str (.pair (.sl (.pair .str (.pair .str .unit))) (.pair .str .unit)))), (1, .box (.pair .str (.pair (.own (.pair .str (.pair .str .unit))) (.pair .str .unit)))), (1, .box (.pair .str (.pair (.int .i64) .unit))), (0, .v (.int .u64)), (1, .v (.int .i64)), (0, .v (.int .u8)), (0, .box (.pair .str (.pair (.int .i64) .unit)))] 93 (x.1, x.2.1, x.2.2.1, x.2.2.2.1, x.2.2.2.2.1, x.2.2.2.2.2.1, a6, ()))))

def zds (N : Nat) : Hd (((List UInt8) × ((List ((List UInt8) × ((List UInt8) × Unit))) × ((List UInt8) × Unit))) × Int × Unit) := fun st K => (unS [(2, .box (.pair .str (.pair (.sl (.pair .str (.pair .str .unit))) (.pair .str .unit)))), (1, .box (.pair .str (.pair (.own (.pair .str (.pair .str .unit))) (.pair .str .unit)))), (1, .box (.pair .str (.pair (.int .i64) .unit))), (0, .v (.int .u64)), (1, .v (.int .i64)), (0, .v (.int .u8)), (0, .box (.pair .str (.pair (.int .i64) .unit)))] 93 (restr [10, 11, 6, 4, 9, 7, 2] 0 st)).bind fun x => ze0 N x K

def zo9 (N : Nat) : Tab (((List UInt8) × ((List ((List UInt8) × ((List UInt8) × Unit))) × ((List UInt8) × Unit))) × Int × Unit) := []

theorem zmg {N : Nat} {c : Ctx} (hb : Base Go.Proofs.Tryd.prog (z15 N) c) : z12 Go.Proofs.Tryd.prog c (zk za [0, 1, 0, 0, 1, 0, 0, 1, 0, 1, 1, 1, 1, 1, 1]) (zds N) :=
  z1b (s := [(2, .box (.pair .str (.pair (.sl (.pair .str (.pair .str .unit))) (.pair .str .unit)))), (1, .box (.pair .str (.pair (.own (.pair .str (.pair .str .unit))) (.pair .str .unit)))), (1, .box (.pair .str (.pair (.int .i64) .unit))), (0, .v (.int .u64)), (1, .v (.int .i64)), (0, .v (.int .u8)), (0, .box (.pair .str (.pair (.int .i64) .unit)))]) (m := 93) (g := ze0 N) [10, 11, 6, 4, 9, 7, 2] (zf hb N (zo9 N) z1d za TabOk.nil [0, 1, 0, 0, 1, 0, 0, 1, 0, 1, 1, 1, 1, 1, 1] _ rfl) (fun x K => by kernel_rfl)

def z3b (N : Nat) (x2 : ((List UInt8) × ((List ((List UInt8) × ((List UInt8) × Unit))) × ((List UInt8) × Unit)))) (t : ((List UInt8) × ((List ((List UInt8) × ((List UInt8) × Unit))) × ((List UInt8) × Unit)))) (r_ : ((List UInt8) × (Int × Unit))) (n : Int) (i : Int) (b : Int) (y : ((List UInt8) × (Int × Unit))) (l : ((List UInt8) × ((List UInt8) × Unit))) (k0 : ((List UInt8) × (Int × Unit)) -> ((List UInt8) × ((List UInt8) × Unit)) -> Option (((List UInt8) × ((List ((List UInt8) × ((List UInt8) × Unit))) × ((List UInt8) × Unit))) × Int × Unit)) : Option (((List UInt8) × ((List ((List UInt8) × ((List UInt8) × Unit))) × ((List UInt8) × Unit))) × Int × Unit) :=
 cond (b == (0 : Int))
 ((zn N y (2048 : Int)).bind fun y1 =>
 k0 y1.2.1 (y1.1, l.2))
 ((zn N y (4144 : Int)).bind fun y2 =>
 (zn N y2.2.1 (4144 : Int)).bind fun y3 =>
 cond (y3.1 == ([] : List UInt8))
 ((z9 N y3.2.1 (2 : Int)).bind fun y4 =>
 k0 y4 (y2.1, (y3.1, l.2.2)))
 (k0 y3.2.1 (y2.1, (y3.1, l.2.2))))

def zdz (N : Nat) (x : z2c [(2, .box (.pair .str (.pair (.sl (.pair .str (.pair .str .unit))) (.pair .str .unit)))), (1, .box (.pair .str (.pair (.own (.pair .str (.pair .str .unit))) (.pair .str .unit)))), (1, .box (.pair .str (.pair (.int .i64) .unit))), (0, .v (.int .u64)), (1, .v (.int .i64)), (0, .v (.int .u8)), (0, .box (.pair .str (.pair (.int .i64) .unit))), (0, .box (.pair .str (.pair .str .unit)))]) (K : Ex -> List A -> Option (((List UInt8) × ((List ((List UInt8) × ((List UInt8) × Unit))) × ((List UInt8) × Unit))) × Int × Unit)) : Option (((List UInt8) × ((List ((List UInt8) × ((List UInt8) × Unit))) × ((List UInt8) × Unit))) × Int × Unit) :=
 z3b N x.1 x.2.1 x.2.2.1 x.2.2.2.1 x.2.2.2.2.1 x.2.2.2.2.2.1 x.2.2.2.2.2.2.1 x.2.2.2.2.2.2.2.1 (fun a2 a5 => (K .normal (mkS [(2, .box (.pair .str (.pair (.sl (.pair .str (.pair .str .unit))) (.pair .str .unit)))), (1, .box (.pair .str (.pair (.own (.pair .str (.pair .str .unit))) (.pair .str .unit)))), (1, .box (.pair .str (.pair (.int .i64) .unit))), (0, .v (.int .u64)), (1, .v (.int .i64)), (2, .box (.pair .str (.pair .str .unit)))] 92 (x.1, x.2.1, a2, x.2.2.2.1, x.2.2.2.2.1, a5, ()))))

def zdr (N : Nat) : Hd (((List UInt8) × ((List ((List UInt8) × ((List UInt8) × Unit))) × ((List UInt8) × Unit))) × Int × Unit) := fun st K => (unS [(2, .box (.pair .str (.pair (.sl (.pair .str (.pair .str .unit))) (.pair .str .unit)))), (1, .box (.pair .str (.pair (.own (.pair .str (.pair .str .unit))) (.pair .str .unit)))), (1, .box (.pair .str (.pair (.int .i64) .unit))), (0, .v (.int .u64)), (1, .v (.int .i64)), (0, .v (.int .u8)), (0, .box (.pair .str (.pair (.int .i64) .unit))), (0, .box (.pair .str (.pair .str .unit)))] 92 (restr [10, 11, 12, 6, 4, 9, 7, 2] 0 st)).bind fun x => zdz N x K

def zo8 (N : Nat) : Tab (((List UInt8) × ((List ((List UInt8) × ((List UInt8) × Unit))) × ((List UInt8) × Unit))) × Int × Unit) := []

theorem zmf {N : Nat} {c : Ctx} (hb : Base Go.Proofs.Tryd.prog (z15 N) c) : z12 Go.Proofs.Tryd.prog c (zk za [0, 1, 1, 1, 0, 0, 1, 0, 0, 1, 0, 1, 1, 1, 1, 1, 1]) (zdr N) :=
  z1b (s := [(2, .box (.pair .str (.pair (.sl (.pair .str (.pair .str .unit))) (.pair .str .unit)))), (1, .box (.pair .str (.pair (.own (.pair .str (.pair .str .unit))) (.pair .str .unit)))), (1, .box (.pair .str (.pair (.int .i64) .unit))), (0, .v (.int .u64)), (1, .v (.int .i64)), (0, .v (.int .u8)), (0, .box (.pair .str (.pair (.int .i64) .unit))), (0, .box (.pair .str (.pair .str .unit)))]) (m := 92) (g := zdz N) [10, 11, 12, 6, 4, 9, 7, 2] (zf hb N (zo8 N) z1d za TabOk.nil [0, 1, 1, 1, 0, 0, 1, 0, 0, 1, 0, 1, 1, 1, 1, 1, 1] _ rfl) (fun x K => by kernel_rfl)

def z53 (N : Nat) (x2 : ((List UInt8) × ((List ((List UInt8) × ((List UInt8) × Unit))) × ((List UInt8) × Unit)))) (t : ((List UInt8) × ((List ((List UInt8) × ((List UInt8) × Unit))) × ((List UInt8) × Unit)))) (r_ : ((List UInt8) × (Int × Unit))) (n : Int) (i : Int) (k0 : ((List UInt8) × ((List ((List UInt8) × ((List UInt8) × Unit))) × ((List UInt8) × Unit))) -> ((List UInt8) × (Int × Unit)) -> Option (((List UInt8) × ((List ((List UInt8) × ((List UInt8) × Unit))) × ((List UInt8) × Unit))) × Int × Unit)) : Option (((List UInt8) × ((List ((List UInt8) × ((List UInt8) × Unit))) × ((List UInt8) × Unit))) × Int × Unit) :=
 (z1n N r_).bind fun y =>
 z7z N x2 t r_ n i y.1 y.2.1
 (fun y1 => z3b N x2 t r_ n i y.1 y1 (([] : List UInt8), (([] : List UInt8), ()))
 (fun r_1 l => cond (decide ((((List.length t.2.1) + 1) * 32) <= 70368744177664))
 (k0 (t.1, ((t.2.1 ++ ([l] : List ((List UInt8) × ((List UInt8) × Unit)))), t.2.2)) r_1)
 (none)))

def ze1 (N : Nat) (x : z2c [(2, .box (.pair .str (.pair (.sl (.pair .str (.pair .str .unit))) (.pair .str .unit)))), (1, .box (.pair .str (.pair (.own (.pair .str (.pair .str .unit))) (.pair .str .unit)))), (1, .box (.pair .str (.pair (.int .i64) .unit))), (0, .v (.int .u64)), (1, .v (.int .i64))]) (K : Ex -> List A -> Option (((List UInt8) × ((List ((List UInt8) × ((List UInt8) × Unit))) × ((List UInt8) × Unit))) × Int × Unit)) : Option (((List UInt8) × ((List ((List UInt8) × ((List UInt8) × Unit))) × ((List UInt8) × Unit))) × Int × Unit) :=
 z53 N x.1 x.2.1 x.2.2.1 x.2.2.2.1 x.2.2.2.2.1 (fun a1 a2 => (K .normal (mkS [(2, .box (.pair .str (.pair (.sl (.pair .str (.pair .str .unit))) (.pair .str .unit)))), (1, .box (.pair .str (.pair (.own (.pair .str (.pair .str .unit))) (.pair .str .unit)))), (1, .box (.pair .str (.pair (.int .i64) .unit))), (0, .v (.int .u64)), (1, .v (.int .i64))] 95 (x.1, a1, a2, x.2.2.2.1, x.2.2.2.2.1, ()))))

def zdt (N : Nat) : Hd (((List UInt8) × ((List ((List UInt8) × ((List UInt8) × Unit))) × ((List UInt8) × Unit))) × Int × Unit) := fun st K => (unS [(2, .box (.pair .str (.pair (.sl (.pair .str (.pair .str .unit))) (.pair .str .unit)))), (1, .box (.pair .str (.pair (.own (.pair .str (.pair .str .unit))) (.pair .str .unit)))), (1, .box (.pair .str (.pair (.int .i64) .unit))), (0, .v (.int .u64)), (1, .v (.int .i64))] 95 (restr [6, 4, 9, 7, 2] 0 st)).bind fun x => ze1 N x K

def zoa (N : Nat) : Tab (((List UInt8) × ((List ((List UInt8) × ((List UInt8) × Unit))) × ((List UInt8) × Unit))) × Int × Unit) := [([0, 1, 0, 0, 1, 0, 0, 1, 0, 1, 1, 1, 1, 1, 1], zds N), ([0, 1, 1, 1, 0, 0, 1, 0, 0, 1, 0, 1, 1, 1, 1, 1, 1], zdr N)]

theorem zmh {N : Nat} {c : Ctx} (hb : Base Go.Proofs.Tryd.prog (z15 N) c) : z12 Go.Proofs.Tryd.prog c (zk za [0, 1, 0, 0, 1, 0, 1, 1, 1, 1, 1, 1]) (zdt N) :=
  z1b (s := [(2, .box (.pair .str (.pair (.sl (.pair .str (.pair .str .unit))) (.pair .str .unit)))), (1, .box (.pair .str (.pair (.own (.pair .str (.pair .str .unit))) (.pair .str .unit)))), (1, .box (.pair .str (.pair (.int .i64) .unit))), (0, .v (.int .u64)), (1, .v (.int .i64))]) (m := 95) (g := ze1 N) [6, 4, 9, 7, 2] (zf hb N (zoa N) z1d za (TabOk.cons (zmg hb) (TabOk.cons (zmf hb) TabOk.nil)) [0, 1, 0, 0, 1, 0, 1, 1, 1, 1, 1, 1] _ rfl) (fun x K => by kernel_rfl)

def z7w (N : Nat) (x2 : ((List UInt8) × ((List ((List UInt8) × ((List UInt8) × Unit))) × ((List UInt8) × Unit)))) (n : Int) (t : ((List UInt8) × ((List ((List UInt8) × ((List UInt8) × Unit))) × ((List UInt8) × Unit)))) (r_ : ((List UInt8) × (Int × Unit))) (i : Int) (rec : ((List UInt8) × ((List ((List UInt8) × ((List UInt8) × Unit))) × ((List UInt8) × Unit))) -> ((List UInt8) × (Int × Unit)) -> Int -> Option (((List UInt8) × ((List ((List UInt8) × ((List UInt8) × Unit))) × ((List UInt8) × Unit))) × Int × Unit)) (k0 : ((List UInt8) × ((List ((List UInt8) × ((List UInt8) × Unit))) × ((List UInt8) × Unit))) -> ((List UInt8) × (Int × Unit)) -> Option (((List UInt8) × ((List ((List UInt8) × ((List UInt8) × Unit))) × ((List UInt8) × Unit))) × Int × Unit)) : Option (((List UInt8) × ((List ((List UInt8) × ((List UInt8) × Unit))) × ((List UInt8) × Unit))) × Int × Unit) :=
 cond (decide (i < (Go.IntKind.wrap Go.IntKind.i64 n)))
 (z53 N x2 t r_ n i
 (fun t1 r_1 => rec t1 r_1 (Go.IntKind.wrap Go.IntKind.i64 (i + (1 : Int)))))
 (k0 t r_)

def z80 (N : Nat) (x2 : ((List UInt8) × ((List ((List UInt8) × ((List UInt8) × Unit))) × ((List UInt8) × Unit)))) (t : ((List UInt8) × ((List ((List UInt8) × ((List UInt8) × Unit))) × ((List UInt8) × Unit)))) (r_ : ((List UInt8) × (Int × Unit))) (n : Int) (i : Int) (k0 : ((List UInt8) × ((List ((List UInt8) × ((List UInt8) × Unit))) × ((List UInt8) × Unit))) -> ((List UInt8) × (Int × Unit)) -> Option (((List UInt8) × ((List ((List UInt8) × ((List UInt8) × Unit))) × ((List UInt8) × Unit))) × Int × Unit)) : Option (((List UInt8) × ((List ((List UInt8) × ((List UInt8) × Unit))) × ((List UInt8) × Unit))) × Int × Unit) :=
 iter (fun (v : (((List UInt8) × ((List ((List UInt8) × ((List UInt8) × Unit))) × ((List UInt8) × Unit))) × ((List UInt8) × (Int × Unit)) × Int)) r => z7w N x2 n v.1 v.2.1 v.2.2 (fun t r_ i => (r (t, r_, i))) k0) N (t, r_, i)

def ze2 (N : Nat) (i : (((List UInt8) × ((List ((List UInt8) × ((List UInt8) × Unit))) × ((List UInt8) × Unit))) × Int)) (v : (((List UInt8) × ((List ((List UInt8) × ((List UInt8) × Unit))) × ((List UInt8) × Unit))) × ((List UInt8) × (Int × Unit)) × Int)) (r : (((List UInt8) × ((List ((List UInt8) × ((List UInt8) × Unit))) × ((List UInt8) × Unit))) × ((List UInt8) × (Int × Unit)) × Int) -> Option (((List UInt8) × ((List ((List UInt8) × ((List UInt8) × Unit))) × ((List UInt8) × Unit))) × Int × Unit)) (K : Ex -> List A -> Option (((List UInt8) × ((List ((List UInt8) × ((List UInt8) × Unit))) × ((List UInt8) × Unit))) × Int × Unit)) : Option (((List UInt8) × ((List ((List UInt8) × ((List UInt8) × Unit))) × ((List UInt8) × Unit))) × Int × Unit) :=
 z7w N i.1 i.2 v.1 v.2.1 v.2.2 (fun t r_ i => (r (t, r_, i))) (fun a1 a2 => (K (.exit 0) (mkS [(2, .box (.pair .str (.pair (.sl (.pair .str (.pair .str .unit))) (.pair .str .unit)))), (1, .box (.pair .str (.pair (.own (.pair .str (.pair .str .unit))) (.pair .str .unit)))), (1, .box (.pair .str (.pair (.int .i64) .unit)))] 98 (i.1, a1, a2, ()))))

def zdu (N : Nat) : Hd (((List UInt8) × ((List ((List UInt8) × ((List UInt8) × Unit))) × ((List UInt8) × Unit))) × Int × Unit) := fun st K => (unS [(2, .box (.pair .str (.pair (.sl (.pair .str (.pair .str .unit))) (.pair .str .unit)))), (1, .box (.pair .str (.pair (.own (.pair .str (.pair .str .unit))) (.pair .str .unit)))), (1, .box (.pair .str (.pair (.int .i64) .unit))), (0, .v (.int .u64)), (1, .v (.int .i64))] 95 (restr [9, 7, 6, 4, 2] 0 st)).bind fun x => iter (fun v r => ze2 N ((fun x => (x.1, x.2.2.2.1)) x) v r K) N ((fun x => (x.2.1, x.2.2.1, x.2.2.2.2.1)) x)

def zob (N : Nat) : Tab (((List UInt8) × ((List ((List UInt8) × ((List UInt8) × Unit))) × ((List UInt8) × Unit))) × Int × Unit) := [([0, 1, 0, 0, 1, 0, 1, 1, 1, 1, 1, 1], zdt N)]

theorem zmi {N : Nat} {c : Ctx} (hb : Base Go.Proofs.Tryd.prog (z15 N) c) : z12 Go.Proofs.Tryd.prog c (zk za [0, 1, 0, 1, 1, 1, 1, 1, 1]) (zdu N) :=
  z6z (s := [(2, .box (.pair .str (.pair (.sl (.pair .str (.pair .str .unit))) (.pair .str .unit)))), (1, .box (.pair .str (.pair (.own (.pair .str (.pair .str .unit))) (.pair .str .unit)))), (1, .box (.pair .str (.pair (.int .i64) .unit))), (0, .v (.int .u64)), (1, .v (.int .i64))]) (m := 95) (ze2 N) [9, 7, 6, 4, 2] N (fun x => (x.1, x.2.2.2.1)) (fun x => (x.2.1, x.2.2.1, x.2.2.2.2.1)) (fun i v => (i.1, v.1, v.2.1, i.2, v.2.2, ())) (fun _ => rfl) (zf hb N (zob N) z1d za (TabOk.cons (zmh hb) TabOk.nil) [0, 0, 1, 0, 1, 1, 1, 1, 1, 1] _ rfl) (fun i v r K => by kernel_rfl)

def z7x (N : Nat) (x2 : ((List UInt8) × ((List ((List UInt8) × ((List UInt8) × Unit))) × ((List UInt8) × Unit)))) (t : ((List UInt8) × ((List ((List UInt8) × ((List UInt8) × Unit))) × ((List UInt8) × Unit)))) (r_ : ((List UInt8) × (Int × Unit))) (k0 : Bool -> Option (((List UInt8) × ((List ((List UInt8) × ((List UInt8) × Unit))) × ((List UInt8) × Unit))) × Int × Unit)) : Option (((List UInt8) × ((List ((List UInt8) × ((List UInt8) × Unit))) × ((List UInt8) × Unit))) × Int × Unit) :=
 cond (r_.2.1 == (0 : Int))
 (k0 (decide ((((List.length r_.1) : Nat) : Int) < (32 : Int))))
 (k0 false)

def zdx (N : Nat) (x : z2c [(2, .box (.pair .str (.pair (.sl (.pair .str (.pair .str .unit))) (.pair .str .unit)))), (1, .box (.pair .str (.pair (.own (.pair .str (.pair .str .unit))) (.pair .str .unit)))), (1, .box (.pair .str (.pair (.int .i64) .unit)))]) (K : Ex -> List A -> Option (((List UInt8) × ((List ((List UInt8) × ((List UInt8) × Unit))) × ((List UInt8) × Unit))) × Int × Unit)) : Option (((List UInt8) × ((List ((List UInt8) × ((List UInt8) × Unit))) × ((List UInt8) × Unit))) × Int × Unit) :=
 z7x N x.1 x.2.1 x.2.2.1 (fun a3 => (K .normal (mkS [(2, .box (.pair .str (.pair (.sl (.pair .str (.pair .str .unit))) (.pair .str .unit)))), (1, .box (.pair .str (.pair (.own (.pair .str (.pair .str .unit))) (.pair .str .unit)))), (1, .box (.pair .str (.pair (.int .i64) .unit))), (74, .v .bool)] 23 (x.1, x.2.1, x.2.2.1, a3, ()))))

def zdp (N : Nat) : Hd (((List UInt8) × ((List ((List UInt8) × ((List UInt8) × Unit))) × ((List UInt8) × Unit))) × Int × Unit) := fun st K => (unS [(2, .box (.pair .str (.pair (.sl (.pair .str (.pair .str .unit))) (.pair .str .unit)))), (1, .box (.pair .str (.pair (.own (.pair .str (.pair .str .unit))) (.pair .str .unit)))), (1, .box (.pair .str (.pair (.int .i64) .unit)))] 98 (restr [6, 2, 4] 0 st)).bind fun x => zdx N x K

def zo6 (N : Nat) : Tab (((List UInt8) × ((List ((List UInt8) × ((List UInt8) × Unit))) × ((List UInt8) × Unit))) × Int × Unit) := []

theorem zmd {N : Nat} {c : Ctx} (hb : Base Go.Proofs.Tryd.prog (z15 N) c) : z12 Go.Proofs.Tryd.prog c (zk za [0, 0, 1, 1, 1, 1, 1, 1, 1]) (zdp N) :=
  z1b (s := [(2, .box (.pair .str (.pair (.sl (.pair .str (.pair .str .unit))) (.pair .str .unit)))), (1, .box (.pair .str (.pair (.own (.pair .str (.pair .str .unit))) (.pair .str .unit)))), (1, .box (.pair .str (.pair (.int .i64) .unit)))]) (m := 98) (g := zdx N) [6, 2, 4] (zf hb N (zo6 N) z1d za TabOk.nil [0, 0, 1, 1, 1, 1, 1, 1, 1] _ rfl) (fun x K => by kernel_rfl)

def z7y (N : Nat) (x2 : ((List UInt8) × ((List ((List UInt8) × ((List UInt8) × Unit))) × ((List UInt8) × Unit)))) (t : ((List UInt8) × ((List ((List UInt8) × ((List UInt8) × Unit))) × ((List UInt8) × Unit)))) (r_ : ((List UInt8) × (Int × Unit))) (k0 : ((List UInt8) × (Int × Unit)) -> Option (((List UInt8) × ((List ((List UInt8) × ((List UInt8) × Unit))) × ((List UInt8) × Unit))) × Int × Unit)) : Option (((List UInt8) × ((List ((List UInt8) × ((List UInt8) × Unit))) × ((List UInt8) × Unit))) × Int × Unit) :=
 z7x N x2 t r_
 (fun x81 => cond x81
 ((z9 N r_ (1 : Int)).bind fun y =>
 k0 y)
 (k0 r_))

def zdy (N : Nat) (x : z2c [(2, .box (.pair .str (.pair (.sl (.pair .str (.pair .str .unit))) (.pair .str .unit)))), (1, .box (.pair .str (.pair (.own (.pair .str (.pair .str .unit))) (.pair .str .unit)))), (1, .box (.pair .str (.pair (.int .i64) .unit)))]) (K : Ex -> List A -> Option (((List UInt8) × ((List ((List UInt8) × ((List UInt8) × Unit))) × ((List UInt8) × Unit))) × Int × Unit)) : Option (((List UInt8) × ((List ((List UInt8) × ((List UInt8) × Unit))) × ((List UInt8) × Unit))) × Int × Unit) :=
 z7y N x.1 x.2.1 x.2.2.1 (fun a2 => (K .normal (mkS [(2, .box (.pair .str (.pair (.sl (.pair .str (.pair .str .unit))) (.pair .str .unit)))), (1, .box (.pair .str (.pair (.own (.pair .str (.pair .str .unit))) (.pair .str .unit)))), (1, .box (.pair .str (.pair (.int .i64) .unit)))] 98 (x.1, x.2.1, a2, ()))))

def zdq (N : Nat) : Hd (((List UInt8) × ((List ((List UInt8) × ((List UInt8) × Unit))) × ((List UInt8) × Unit))) × Int × Unit) := fun st K => (unS [(2, .box (.pair .str (.pair (.sl (.pair .str (.pair .str .unit))) (.pair .str .unit)))), (1, .box (.pair .str (.pair (.own (.pair .str (.pair .str .unit))) (.pair .str .unit)))), (1, .box (.pair .str (.pair (.int .i64) .unit)))] 98 (restr [6, 2, 4] 0 st)).bind fun x => zdy N x K

def zo7 (N : Nat) : Tab (((List UInt8) × ((List ((List UInt8) × ((List UInt8) × Unit))) × ((List UInt8) × Unit))) × Int × Unit) := [([0, 0, 1, 1, 1, 1, 1, 1, 1], zdp N)]

theorem zme {N : Nat} {c : Ctx} (hb : Base Go.Proofs.Tryd.prog (z15 N) c) : z12 Go.Proofs.Tryd.prog c (zk za [0, 1, 1, 1, 1, 1, 1, 1]) (zdq N) :=
  z1b (s := [(2, .box (.pair .str (.pair (.sl (.pair .str (.pair .str .unit))) (.pair .str .unit)))), (1, .box (.pair .str (.pair (.own (.pair .str (.pair .str .unit))) (.pair .str .unit)))), (1, .box (.pair .str (.pair (.int .i64) .unit)))]) (m := 98) (g := zdy N) [6, 2, 4] (zf hb N (zo7 N) z1d za (TabOk.cons (zmd hb) TabOk.nil) [0, 1, 1, 1, 1, 1, 1, 1] _ rfl) (fun x K => by kernel_rfl)

def z51 (N : Nat) (x2 : ((List UInt8) × ((List ((List UInt8) × ((List UInt8) × Unit))) × ((List UInt8) × Unit)))) (t : ((List UInt8) × ((List ((List UInt8) × ((List UInt8) × Unit))) × ((List UInt8) × Unit)))) (r_ : ((List UInt8) × (Int × Unit))) (k0 : Bool -> Option (((List UInt8) × ((List ((List UInt8) × ((List UInt8) × Unit))) × ((List UInt8) × Unit))) × Int × Unit)) : Option (((List UInt8) × ((List ((List UInt8) × ((List UInt8) × Unit))) × ((List UInt8) × Unit))) × Int × Unit) :=
 cond (r_.2.1 == (0 : Int))
 (k0 (decide ((32 : Int) < (((List.length r_.1) : Nat) : Int))))
 (k0 false)

def zdv (N : Nat) (x : z2c [(2, .box (.pair .str (.pair (.sl (.pair .str (.pair .str .unit))) (.pair .str .unit)))), (1, .box (.pair .str (.pair (.own (.pair .str (.pair .str .unit))) (.pair .str .unit)))), (1, .box (.pair .str (.pair (.int .i64) .unit)))]) (K : Ex -> List A -> Option (((List UInt8) × ((List ((List UInt8) × ((List UInt8) × Unit))) × ((List UInt8) × Unit))) × Int × Unit)) : Option (((List UInt8) × ((List ((List UInt8) × ((List UInt8) × Unit))) × ((List UInt8) × Unit))) × Int × Unit) :=
 z51 N x.1 x.2.1 x.2.2.1 (fun a3 => (K .normal (mkS [(2, .box (.pair .str (.pair (.sl (.pair .str (.pair .str .unit))) (.pair .str .unit)))), (1, .box (.pair .str (.pair (.own (.pair .str (.pair .str .unit))) (.pair .str .unit)))), (1, .box (.pair .str (.pair (.int .i64) .unit))), (85, .v .bool)] 12 (x.1, x.2.1, x.2.2.1, a3, ()))))

def zdn (N : Nat) : Hd (((List UInt8) × ((List ((List UInt8) × ((List UInt8) × Unit))) × ((List UInt8) × Unit))) × Int × Unit) := fun st K => (unS [(2, .box (.pair .str (.pair (.sl (.pair .str (.pair .str .unit))) (.pair .str .unit)))), (1, .box (.pair .str (.pair (.own (.pair .str (.pair .str .unit))) (.pair .str .unit)))), (1, .box (.pair .str (.pair (.int .i64) .unit)))] 98 (restr [6, 2, 4] 0 st)).bind fun x => zdv N x K

def zo4 (N : Nat) : Tab (((List UInt8) × ((List ((List UInt8) × ((List UInt8) × Unit))) × ((List UInt8) × Unit))) × Int × Unit) := []

theorem zmb {N : Nat} {c : Ctx} (hb : Base Go.Proofs.Tryd.prog (z15 N) c) : z12 Go.Proofs.Tryd.prog c (zk za [0, 0, 1, 1, 1, 1, 1, 1, 1, 1]) (zdn N) :=
  z1b (s := [(2, .box (.pair .str (.pair (.sl (.pair .str (.pair .str .unit))) (.pair .str .unit)))), (1, .box (.pair .str (.pair (.own (.pair .str (.pair .str .unit))) (.pair .str .unit)))), (1, .box (.pair .str (.pair (.int .i64) .unit)))]) (m := 98) (g := zdv N) [6, 2, 4] (zf hb N (zo4 N) z1d za TabOk.nil [0, 0, 1, 1, 1, 1, 1, 1, 1, 1] _ rfl) (fun x K => by kernel_rfl)

def z52 (N : Nat) (x2 : ((List UInt8) × ((List ((List UInt8) × ((List UInt8) × Unit))) × ((List UInt8) × Unit)))) (t : ((List UInt8) × ((List ((List UInt8) × ((List UInt8) × Unit))) × ((List UInt8) × Unit)))) (r_ : ((List UInt8) × (Int × Unit))) (k0 : ((List UInt8) × (Int × Unit)) -> Option (((List UInt8) × ((List ((List UInt8) × ((List UInt8) × Unit))) × ((List UInt8) × Unit))) × Int × Unit)) : Option (((List UInt8) × ((List ((List UInt8) × ((List UInt8) × Unit))) × ((List UInt8) × Unit))) × Int × Unit) :=
 z51 N x2 t r_
 (fun x92 => cond x92
 ((z9 N r_ (2 : Int)).bind fun y =>
 k0 y)
 (k0 r_))

def zdw (N : Nat) (x : z2c [(2, .box (.pair .str (.pair (.sl (.pair .str (.pair .str .unit))) (.pair .str .unit)))), (1, .box (.pair .str (.pair (.own (.pair .str (.pair .str .unit))) (.pair .str .unit)))), (1, .box (.pair .str (.pair (.int .i64) .unit)))]) (K : Ex -> List A -> Option (((List UInt8) × ((List ((List UInt8) × ((List UInt8) × Unit))) × ((List UInt8) × Unit))) × Int × Unit)) : Option (((List UInt8) × ((List ((List UInt8) × ((List UInt8) × Unit))) × ((List UInt8) × Unit))) × Int × Unit) :=
 z52 N x.1 x.2.1 x.2.2.1 (fun a2 => (K .normal (mkS [(2, .box (.pair .str (.pair (.sl (.pair .str (.pair .str .unit))) (.pair .str .unit)))), (1, .box (.pair .str (.pair (.own (.pair .str (.pair .str .unit))) (.pair .str .unit)))), (1, .box (.pair .str (.pair (.int .i64) .unit)))] 98 (x.1, x.2.1, a2, ()))))

def zdo (N : Nat) : Hd (((List UInt8) × ((List ((List UInt8) × ((List UInt8) × Unit))) × ((List UInt8) × Unit))) × Int × Unit) := fun st K => (unS [(2, .box (.pair .str (.pair (.sl (.pair .str (.pair .str .unit))) (.pair .str .unit)))), (1, .box (.pair .str (.pair (.own (.pair .str (.pair .str .unit))) (.pair .str .unit)))), (1, .box (.pair .str (.pair (.int .i64) .unit)))] 98 (restr [6, 2, 4] 0 st)).bind fun x => zdw N x K

def zo5 (N : Nat) : Tab (((List UInt8) × ((List ((List UInt8) × ((List UInt8) × Unit))) × ((List UInt8) × Unit))) × Int × Unit) := [([0, 0, 1, 1, 1, 1, 1, 1, 1, 1], zdn N)]

theorem zmc {N : Nat} {c : Ctx} (hb : Base Go.Proofs.Tryd.prog (z15 N) c) : z12 Go.Proofs.Tryd.prog c (zk za [0, 1, 1, 1, 1, 1, 1, 1, 1]) (zdo N) :=
  z1b (s := [(2, .box (.pair .str (.pair (.sl (.pair .str (.pair .str .unit))) (.pair .str .unit)))), (1, .box (.pair .str (.pair (.own (.pair .str (.pair .str .unit))) (.pair .str .unit)))), (1, .box (.pair .str (.pair (.int .i64) .unit)))]) (m := 98) (g := zdw N) [6, 2, 4] (zf hb N (zo5 N) z1d za (TabOk.cons (zmb hb) TabOk.nil) [0, 1, 1, 1, 1, 1, 1, 1, 1] _ rfl) (fun x K => by kernel_rfl)

def z5c (N : Nat) (s : (List UInt8)) : Option (((List UInt8) × ((List ((List UInt8) × ((List UInt8) × Unit))) × ((List UInt8) × Unit))) × Int × Unit) :=
 (zn N (s, ((0 : Int), ())) (4144 : Int)).bind fun y =>
 (z1j N y.2.1 (64 : Int)).bind fun y1 =>
 z80 N (([] : List UInt8), (([] : List ((List UInt8) × ((List UInt8) × Unit))), (([] : List UInt8), ()))) (y.1, (([] : List ((List UInt8) × ((List UInt8) × Unit))), (([] : List UInt8), ()))) y1.2.1 y1.1 (0 : Int)
 (fun t r_ => z7y N (([] : List UInt8), (([] : List ((List UInt8) × ((List UInt8) × Unit))), (([] : List UInt8), ()))) t r_
 (fun r_1 => z52 N (([] : List UInt8), (([] : List ((List UInt8) × ((List UInt8) × Unit))), (([] : List UInt8), ()))) t r_1
 (fun r_2 => cond (r_2.2.1 != (0 : Int))
 (some ((([] : List UInt8), (([] : List ((List UInt8) × ((List UInt8) × Unit))), (([] : List UInt8), ()))), (r_2.2.1, ())))
 (some ((t.1, (t.2.1, (r_2.1, t.2.2.2))), ((0 : Int), ()))))))

def zfm (N : Nat) : Tab (((List UInt8) × ((List ((List UInt8) × ((List UInt8) × Unit))) × ((List UInt8) × Unit))) × Int × Unit) := [([0, 1, 0, 1, 1, 1, 1, 1, 1], zdu N), ([0, 1, 1, 1, 1, 1, 1, 1], zdq N), ([0, 1, 1, 1, 1, 1, 1, 1, 1], zdo N)]

theorem zku (N : Nat) (x : z2c [(0, .v .str)]) : za3 (z15 N) N (zfm N) z1d Go.Proofs.Tryd.f48 (mkS [(0, .v .str)] 0 x) (z4j (.tup [(.pair .str (.pair (.sl (.pair .str (.pair .str .unit))) (.pair .str .unit))), (.int .i64)]) 1) = z5c N x.1 := by kernel_rfl

def zbr (N : Nat) : List A -> Res := z1i [(0, .v .str)] (fun x => z5c N x.1) (zap (.tup [(.pair .str (.pair (.sl (.pair .str (.pair .str .unit))) (.pair .str .unit))), (.int .i64)]) 1)

theorem zoc (N : Nat) : Contract Go.Proofs.Tryd.prog zd 48 (zbr N) :=
  Contract.of (E := z15 N) (H := zfm N) (L := z1d) (N := N) (body := za) (K := (z4j (.tup [(.pair .str (.pair (.sl (.pair .str (.pair .str .unit))) (.pair .str .unit))), (.int .i64)]) 1)) (zmj N) Go.Proofs.Tryd.func48 (by kernel_rfl) (by decide) (fun _ hb => (TabOk.cons (zmi hb) (TabOk.cons (zme hb) (TabOk.cons (zmc hb) TabOk.nil)))) (fun x y h => by rw [zku]; exact h) (z19 (s := (.tup [(.pair .str (.pair (.sl (.pair .str (.pair .str .unit))) (.pair .str .unit))), (.int .i64)])) (m := 1))

def zjb : Code := (Go.Proofs.Tryd.f26.body).getD .skip

def zdk : List (List Nat × List Nat) := [([0], [1, 2, 3]), ([0, 1], [5, 2, 3, 4]), ([0, 0, 1, 1], [15, 5, 2, 3, 4]), ([1, 0, 1, 1], [4, 5, 2, 3]), ([0, 0, 1, 0, 1, 1], [2, 3]), ([1, 0, 1, 0, 1, 1], [2, 3]), ([0, 1, 1, 1], [6, 5, 7, 2, 3]), ([0, 1, 1, 1, 1], [2, 3]), ([1, 1, 1, 1, 1], [2, 3])]

def z7t (N : Nat) : Env := z2x tys zd [(48, zbr N), (47, z4w N), (49, z1e N)] [] [] [] false [] []

theorem zks (N : Nat) : EnvOk Go.Proofs.Tryd.prog (z7t N) := zl mixed z1f (FnsOk.cons (zoc N) (FnsOk.cons (z9r N) (FnsOk.cons (z1x N) (FnsOk.nil)))) (ItsOk.nil)

def z38 (N : Nat) (r_ : ((List UInt8) × (Int × Unit))) : Option (((List UInt8) × ((List ((List UInt8) × ((List UInt8) × Unit))) × ((List UInt8) × Unit))) × ((List UInt8) × (Int × Unit)) × Unit) :=
 (zn N r_ (65536 : Int)).bind fun y =>
 cond (y.2.1.2.1 != (0 : Int))
 (some ((([] : List UInt8), (([] : List ((List UInt8) × ((List UInt8) × Unit))), (([] : List UInt8), ()))), (y.2.1, ())))
 ((z5c N y.1).bind fun y1 =>
 (z9 N y.2.1 y1.2.1).bind fun y2 =>
 some (y1.1, (y2, ())))

def zdj (N : Nat) : Tab (((List UInt8) × ((List ((List UInt8) × ((List UInt8) × Unit))) × ((List UInt8) × Unit))) × ((List UInt8) × (Int × Unit)) × Unit) := []

theorem zja (N : Nat) (x : z2c [(0, .v (.pair .str (.pair (.int .i64) .unit)))]) : za3 (z7t N) N (zdj N) zdk Go.Proofs.Tryd.f26 (mkS [(0, .v (.pair .str (.pair (.int .i64) .unit)))] 0 x) (z4j (.tup [(.pair .str (.pair (.sl (.pair .str (.pair .str .unit))) (.pair .str .unit))), (.pair .str (.pair (.int .i64) .unit))]) 1) = z38 N x.1 := by kernel_rfl

def zad (N : Nat) : List A -> Res := z1i [(0, .v (.pair .str (.pair (.int .i64) .unit)))] (fun x => z38 N x.1) (zap (.tup [(.pair .str (.pair (.sl (.pair .str (.pair .str .unit))) (.pair .str .unit))), (.pair .str (.pair (.int .i64) .unit))]) 1)

theorem zm8 (N : Nat) : Contract Go.Proofs.Tryd.prog zd 26 (zad N) :=
  Contract.of (E := z7t N) (H := zdj N) (L := zdk) (N := N) (body := zjb) (K := (z4j (.tup [(.pair .str (.pair (.sl (.pair .str (.pair .str .unit))) (.pair .str .unit))), (.pair .str (.pair (.int .i64) .unit))]) 1)) (zks N) Go.Proofs.Tryd.func26 (by kernel_rfl) (by decide) (fun _ hb => TabOk.nil) (fun x y h => by rw [zja]; exact h) (z19 (s := (.tup [(.pair .str (.pair (.sl (.pair .str (.pair .str .unit))) (.pair .str .unit))), (.pair .str (.pair (.int .i64) .unit))])) (m := 1))

def zi4 : Code := (Go.Proofs.Tryd.f28.body).getD .skip

def zbu : List (List Nat × List Nat) := [([0], [1, 2]), ([0, 0, 1], [5, 1, 2]), ([1, 0, 1], [1, 2]), ([0, 0, 1, 0, 1], [2]), ([1, 0, 1, 0, 1], [2]), ([0, 1, 1], [2]), ([1, 1, 1], [2])]

def z6s (N : Nat) : Env := z2x tys zd [(49, z1e N)] [] [] [] false [] []

theorem zji (N : Nat) : EnvOk Go.Proofs.Tryd.prog (z6s N) := zl mixed z1f (FnsOk.cons (z1x N) (FnsOk.nil)) (ItsOk.nil)

def z2u (N : Nat) (r_ : ((List UInt8) × (Int × Unit))) : Option ((List UInt8) × (Int × Unit)) :=
 cond (!(r_.1 == ([] : List UInt8)))
 ((z9 N r_ (2 : Int)).bind fun y =>
 some y)
 (some r_)

def zbt (N : Nat) : Tab ((List UInt8) × (Int × Unit)) := []

theorem zi3 (N : Nat) (x : z2c [(0, .v (.pair .str (.pair (.int .i64) .unit)))]) : za3 (z6s N) N (zbt N) zbu Go.Proofs.Tryd.f28 (mkS [(0, .v (.pair .str (.pair (.int .i64) .unit)))] 0 x) (z4j (.v (.pair .str (.pair (.int .i64) .unit))) 1) = z2u N x.1 := by kernel_rfl

def z9w (N : Nat) : List A -> Res := z1i [(0, .v (.pair .str (.pair (.int .i64) .unit)))] (fun x => z2u N x.1) (zap (.v (.pair .str (.pair (.int .i64) .unit))) 1)

theorem zkx (N : Nat) : Contract Go.Proofs.Tryd.prog zd 28 (z9w N) :=
  Contract.of (E := z6s N) (H := zbt N) (L := zbu) (N := N) (body := zi4) (K := (z4j (.v (.pair .str (.pair (.int .i64) .unit))) 1)) (zji N) Go.Proofs.Tryd.func28 (by kernel_rfl) (by decide) (fun _ hb => TabOk.nil) (fun x y h => by rw [zi3]; exact h) (z19 (s := (.v (.pair .str (.pair (.int .i64) .unit)))) (m := 1))

def z61 : Code := (Go.Proofs.Tryd.f13.body).getD .skip

def z9a : List (List Nat × List Nat) := [([0], [0, 2]), ([0, 0, 1], [14, 2, 0]), ([1, 0, 1], [0, 2]), ([0, 0, 1, 0, 1], [2, 3]), ([1, 0, 1, 0, 1], [2, 3]), ([0, 1, 1], [0, 4, 2]), ([0, 1, 1, 1], [5, 4, 6, 2]), ([0, 1, 1, 1, 1], [6, 4, 2]), ([0, 1, 1, 1, 1, 1], [7, 8, 4, 2]), ([0, 0, 1, 1, 1, 1, 1, 1], [9, 7, 8, 4, 2]), ([0, 1, 0, 1, 1, 1, 1, 1, 1], [9, 7, 8, 4, 2]), ([0, 0, 0, 0, 1, 0, 1, 1, 1, 1, 1, 1], [32, 8, 4, 9, 7, 2]), ([1, 0, 0, 0, 1, 0, 1, 1, 1, 1, 1, 1], [8, 4, 9, 7, 2]), ([1, 1, 0, 0, 0, 1, 0, 1, 1, 1, 1, 1, 1], [8, 2, 4]), ([0, 0, 0, 1, 0, 0, 1, 0, 1, 1, 1, 1, 1, 1], [4, 10, 11, 8, 9, 7, 2]), ([0, 1, 0, 0, 1, 0, 0, 1, 0, 1, 1, 1, 1, 1, 1], [11, 8, 9, 7, 4, 2]), ([1, 1, 0, 0, 1, 0, 0, 1, 0, 1, 1, 1, 1, 1, 1], [9, 7, 8, 4, 2]), ([0, 1, 0, 0, 1, 0, 1, 1, 1, 1, 1, 1], [9, 7, 8, 4, 2]), ([1, 1, 0, 0, 1, 0, 1, 1, 1, 1, 1, 1], [9, 7, 8, 4, 2]), ([1, 0, 1, 1, 1, 1, 1, 1], [8, 2, 4]), ([0, 1, 1, 1, 1, 1, 1, 1], [8, 2, 4]), ([0, 0, 1, 1, 1, 1, 1, 1, 1, 1], [51, 8, 2, 4]), ([1, 0, 1, 1, 1, 1, 1, 1, 1, 1], [4, 2]), ([0, 0, 1, 0, 1, 1, 1, 1, 1, 1, 1, 1], [2, 3]), ([1, 0, 1, 0, 1, 1, 1, 1, 1, 1, 1, 1], [2, 3]), ([0, 1, 1, 1, 1, 1, 1, 1, 1, 1], [2, 3]), ([1, 1, 1, 1, 1, 1, 1, 1, 1, 1], [2, 3])]

def z5o (N : Nat) : Env := z2x tys zd [(28, z9w N), (26, zad N), (27, z3c N)] [] [] [] false [(4, (.pair (.pair .str (.pair (.sl (.pair .str (.pair .str .unit))) (.pair .str .unit))) (.pair (.own (.pair .str (.pair (.sl (.pair .str (.pair .str .unit))) (.pair .str .unit)))) .unit)))] []

theorem zma (N : Nat) : EnvOk Go.Proofs.Tryd.prog (z5o N) := zl mixed z1f (FnsOk.cons (zkx N) (FnsOk.cons (zm8 N) (FnsOk.cons (z65 N) (FnsOk.nil)))) (ItsOk.nil)

def z7u (N : Nat) (x2 : (((List UInt8) × ((List ((List UInt8) × ((List UInt8) × Unit))) × ((List UInt8) × Unit))) × ((List ((List UInt8) × ((List ((List UInt8) × ((List UInt8) × Unit))) × ((List UInt8) × Unit)))) × Unit))) (n : Int) (b : (((List UInt8) × ((List ((List UInt8) × ((List UInt8) × Unit))) × ((List UInt8) × Unit))) × ((List ((List UInt8) × ((List ((List UInt8) × ((List UInt8) × Unit))) × ((List UInt8) × Unit)))) × Unit))) (x8 : ((List UInt8) × (Int × Unit))) (i : Int) (rec : (((List UInt8) × ((List ((List UInt8) × ((List UInt8) × Unit))) × ((List UInt8) × Unit))) × ((List ((List UInt8) × ((List ((List UInt8) × ((List UInt8) × Unit))) × ((List UInt8) × Unit)))) × Unit)) -> ((List UInt8) × (Int × Unit)) -> Int -> Option ((((List UInt8) × ((List ((List UInt8) × ((List UInt8) × Unit))) × ((List UInt8) × Unit))) × ((List ((List UInt8) × ((List ((List UInt8) × ((List UInt8) × Unit))) × ((List UInt8) × Unit)))) × Unit)) × Int × Unit)) (k0 : (((List UInt8) × ((List ((List UInt8) × ((List UInt8) × Unit))) × ((List UInt8) × Unit))) × ((List ((List UInt8) × ((List ((List UInt8) × ((List UInt8) × Unit))) × ((List UInt8) × Unit)))) × Unit)) -> ((List UInt8) × (Int × Unit)) -> Option ((((List UInt8) × ((List ((List UInt8) × ((List UInt8) × Unit))) × ((List UInt8) × Unit))) × ((List ((List UInt8) × ((List ((List UInt8) × ((List UInt8) × Unit))) × ((List UInt8) × Unit)))) × Unit)) × Int × Unit)) : Option ((((List UInt8) × ((List ((List UInt8) × ((List UInt8) × Unit))) × ((List UInt8) × Unit))) × ((List ((List UInt8) × ((List ((List UInt8) × ((List UInt8) × Unit))) × ((List UInt8) × Unit)))) × Unit)) × Int × Unit) :=
 cond (decide (i < (Go.IntKind.wrap Go.IntKind.i64 n)))
 ((z38 N x8).bind fun y =>
 cond (decide ((((List.length b.2.1) + 1) * 56) <= 70368744177664))
 (rec (b.1, ((b.2.1 ++ ([y.1] : List ((List UInt8) × ((List ((List UInt8) × ((List UInt8) × Unit))) × ((List UInt8) × Unit))))), b.2.2)) y.2.1 (Go.IntKind.wrap Go.IntKind.i64 (i + (1 : Int))))
 (none))
 (k0 b x8)

def z7v (N : Nat) (x2 : (((List UInt8) × ((List ((List UInt8) × ((List UInt8) × Unit))) × ((List UInt8) × Unit))) × ((List ((List UInt8) × ((List ((List UInt8) × ((List UInt8) × Unit))) × ((List UInt8) × Unit)))) × Unit))) (b : (((List UInt8) × ((List ((List UInt8) × ((List UInt8) × Unit))) × ((List UInt8) × Unit))) × ((List ((List UInt8) × ((List ((List UInt8) × ((List UInt8) × Unit))) × ((List UInt8) × Unit)))) × Unit))) (n : Int) (x8 : ((List UInt8) × (Int × Unit))) (i : Int) (k0 : (((List UInt8) × ((List ((List UInt8) × ((List UInt8) × Unit))) × ((List UInt8) × Unit))) × ((List ((List UInt8) × ((List ((List UInt8) × ((List UInt8) × Unit))) × ((List UInt8) × Unit)))) × Unit)) -> ((List UInt8) × (Int × Unit)) -> Option ((((List UInt8) × ((List ((List UInt8) × ((List UInt8) × Unit))) × ((List UInt8) × Unit))) × ((List ((List UInt8) × ((List ((List UInt8) × ((List UInt8) × Unit))) × ((List UInt8) × Unit)))) × Unit)) × Int × Unit)) : Option ((((List UInt8) × ((List ((List UInt8) × ((List UInt8) × Unit))) × ((List UInt8) × Unit))) × ((List ((List UInt8) × ((List ((List UInt8) × ((List UInt8) × Unit))) × ((List UInt8) × Unit)))) × Unit)) × Int × Unit) :=
 iter (fun (v : ((((List UInt8) × ((List ((List UInt8) × ((List UInt8) × Unit))) × ((List UInt8) × Unit))) × ((List ((List UInt8) × ((List ((List UInt8) × ((List UInt8) × Unit))) × ((List UInt8) × Unit)))) × Unit)) × ((List UInt8) × (Int × Unit)) × Int)) r => z7u N x2 n v.1 v.2.1 v.2.2 (fun b x8 i => (r (b, x8, i))) k0) N (b, x8, i)

def zdm (N : Nat) (i : ((((List UInt8) × ((List ((List UInt8) × ((List UInt8) × Unit))) × ((List UInt8) × Unit))) × ((List ((List UInt8) × ((List ((List UInt8) × ((List UInt8) × Unit))) × ((List UInt8) × Unit)))) × Unit)) × Int)) (v : ((((List UInt8) × ((List ((List UInt8) × ((List UInt8) × Unit))) × ((List UInt8) × Unit))) × ((List ((List UInt8) × ((List ((List UInt8) × ((List UInt8) × Unit))) × ((List UInt8) × Unit)))) × Unit)) × ((List UInt8) × (Int × Unit)) × Int)) (r : ((((List UInt8) × ((List ((List UInt8) × ((List UInt8) × Unit))) × ((List UInt8) × Unit))) × ((List ((List UInt8) × ((List ((List UInt8) × ((List UInt8) × Unit))) × ((List UInt8) × Unit)))) × Unit)) × ((List UInt8) × (Int × Unit)) × Int) -> Option ((((List UInt8) × ((List ((List UInt8) × ((List UInt8) × Unit))) × ((List UInt8) × Unit))) × ((List ((List UInt8) × ((List ((List UInt8) × ((List UInt8) × Unit))) × ((List UInt8) × Unit)))) × Unit)) × Int × Unit)) (K : Ex -> List A -> Option ((((List UInt8) × ((List ((List UInt8) × ((List UInt8) × Unit))) × ((List UInt8) × Unit))) × ((List ((List UInt8) × ((List ((List UInt8) × ((List UInt8) × Unit))) × ((List UInt8) × Unit)))) × Unit)) × Int × Unit)) : Option ((((List UInt8) × ((List ((List UInt8) × ((List UInt8) × Unit))) × ((List UInt8) × Unit))) × ((List ((List UInt8) × ((List ((List UInt8) × ((List UInt8) × Unit))) × ((List UInt8) × Unit)))) × Unit)) × Int × Unit) :=
 z7u N i.1 i.2 v.1 v.2.1 v.2.2 (fun b x8 i => (r (b, x8, i))) (fun a1 a2 => (K (.exit 0) (mkS [(2, .box (.pair (.pair .str (.pair (.sl (.pair .str (.pair .str .unit))) (.pair .str .unit))) (.pair (.sl (.pair .str (.pair (.sl (.pair .str (.pair .str .unit))) (.pair .str .unit)))) .unit))), (1, .box (.pair (.pair .str (.pair (.sl (.pair .str (.pair .str .unit))) (.pair .str .unit))) (.pair (.own (.pair .str (.pair (.sl (.pair .str (.pair .str .unit))) (.pair .str .unit)))) .unit))), (3, .box (.pair .str (.pair (.int .i64) .unit)))] 47 (i.1, a1, a2, ()))))

def zdl (N : Nat) : Hd ((((List UInt8) × ((List ((List UInt8) × ((List UInt8) × Unit))) × ((List UInt8) × Unit))) × ((List ((List UInt8) × ((List ((List UInt8) × ((List UInt8) × Unit))) × ((List UInt8) × Unit)))) × Unit)) × Int × Unit) := fun st K => (unS [(2, .box (.pair (.pair .str (.pair (.sl (.pair .str (.pair .str .unit))) (.pair .str .unit))) (.pair (.sl (.pair .str (.pair (.sl (.pair .str (.pair .str .unit))) (.pair .str .unit)))) .unit))), (1, .box (.pair (.pair .str (.pair (.sl (.pair .str (.pair .str .unit))) (.pair .str .unit))) (.pair (.own (.pair .str (.pair (.sl (.pair .str (.pair .str .unit))) (.pair .str .unit)))) .unit))), (2, .v (.int .u64)), (0, .box (.pair .str (.pair (.int .i64) .unit))), (0, .v (.int .i64))] 46 (restr [9, 7, 8, 4, 2] 0 st)).bind fun x => iter (fun v r => zdm N ((fun x => (x.1, x.2.2.1)) x) v r K) N ((fun x => (x.2.1, x.2.2.2.1, x.2.2.2.2.1)) x)

def zo2 (N : Nat) : Tab ((((List UInt8) × ((List ((List UInt8) × ((List UInt8) × Unit))) × ((List UInt8) × Unit))) × ((List ((List UInt8) × ((List ((List UInt8) × ((List UInt8) × Unit))) × ((List UInt8) × Unit)))) × Unit)) × Int × Unit) := []

theorem zm9 {N : Nat} {c : Ctx} (hb : Base Go.Proofs.Tryd.prog (z5o N) c) : z12 Go.Proofs.Tryd.prog c (zk z61 [0, 1, 0, 1, 1, 1, 1, 1, 1]) (zdl N) :=
  z6z (s := [(2, .box (.pair (.pair .str (.pair (.sl (.pair .str (.pair .str .unit))) (.pair .str .unit))) (.pair (.sl (.pair .str (.pair (.sl (.pair .str (.pair .str .unit))) (.pair .str .unit)))) .unit))), (1, .box (.pair (.pair .str (.pair (.sl (.pair .str (.pair .str .unit))) (.pair .str .unit))) (.pair (.own (.pair .str (.pair (.sl (.pair .str (.pair .str .unit))) (.pair .str .unit)))) .unit))), (2, .v (.int .u64)), (0, .box (.pair .str (.pair (.int .i64) .unit))), (0, .v (.int .i64))]) (m := 46) (zdm N) [9, 7, 8, 4, 2] N (fun x => (x.1, x.2.2.1)) (fun x => (x.2.1, x.2.2.2.1, x.2.2.2.2.1)) (fun i v => (i.1, v.1, i.2, v.2.1, v.2.2, ())) (fun _ => rfl) (zf hb N (zo2 N) z9a z61 TabOk.nil [0, 0, 1, 0, 1, 1, 1, 1, 1, 1] _ rfl) (fun i v r K => by kernel_rfl)

def z30 (N : Nat) (s : (List UInt8)) : Option ((((List UInt8) × ((List ((List UInt8) × ((List UInt8) × Unit))) × ((List UInt8) × Unit))) × ((List ((List UInt8) × ((List ((List UInt8) × ((List UInt8) × Unit))) × ((List UInt8) × Unit)))) × Unit)) × Int × Unit) :=
 cond (decide ((65536 : Int) < (((List.length s) : Nat) : Int)))
 (some (((([] : List UInt8), (([] : List ((List UInt8) × ((List UInt8) × Unit))), (([] : List UInt8), ()))), (([] : List ((List UInt8) × ((List ((List UInt8) × ((List UInt8) × Unit))) × ((List UInt8) × Unit)))), ())), ((3 : Int), ())))
 ((z38 N (s, ((0 : Int), ()))).bind fun y =>
 (z1j N y.2.1 (8 : Int)).bind fun y1 =>
 z7v N ((([] : List UInt8), (([] : List ((List UInt8) × ((List UInt8) × Unit))), (([] : List UInt8), ()))), (([] : List ((List UInt8) × ((List ((List UInt8) × ((List UInt8) × Unit))) × ((List UInt8) × Unit)))), ())) (y.1, (([] : List ((List UInt8) × ((List ((List UInt8) × ((List UInt8) × Unit))) × ((List UInt8) × Unit)))), ())) y1.1 y1.2.1 (0 : Int)
 (fun b x8 => (z2u N x8).bind fun y2 =>
 cond (y2.2.1 != (0 : Int))
 (some (((([] : List UInt8), (([] : List ((List UInt8) × ((List UInt8) × Unit))), (([] : List UInt8), ()))), (([] : List ((List UInt8) × ((List ((List UInt8) × ((List UInt8) × Unit))) × ((List UInt8) × Unit)))), ())), (y2.2.1, ())))
 (some (((b.1.1, (b.1.2.1, (b.1.2.2.1, b.1.2.2.2))), (b.2.1, b.2.2)), ((0 : Int), ())))))

def zfl (N : Nat) : Tab ((((List UInt8) × ((List ((List UInt8) × ((List UInt8) × Unit))) × ((List UInt8) × Unit))) × ((List ((List UInt8) × ((List ((List UInt8) × ((List UInt8) × Unit))) × ((List UInt8) × Unit)))) × Unit)) × Int × Unit) := [([0, 1, 0, 1, 1, 1, 1, 1, 1], zdl N)]

theorem zkt (N : Nat) (x : z2c [(0, .v .str)]) : za3 (z5o N) N (zfl N) z9a Go.Proofs.Tryd.f13 (mkS [(0, .v .str)] 0 x) (z4j (.tup [(.pair (.pair .str (.pair (.sl (.pair .str (.pair .str .unit))) (.pair .str .unit))) (.pair (.sl (.pair .str (.pair (.sl (.pair .str (.pair .str .unit))) (.pair .str .unit)))) .unit)), (.int .i64)]) 1) = z30 N x.1 := by kernel_rfl

def zbq (N : Nat) : List A -> Res := z1i [(0, .v .str)] (fun x => z30 N x.1) (zap (.tup [(.pair (.pair .str (.pair (.sl (.pair .str (.pair .str .unit))) (.pair .str .unit))) (.pair (.sl (.pair .str (.pair (.sl (.pair .str (.pair .str .unit))) (.pair .str .unit)))) .unit)), (.int .i64)]) 1)

theorem zo3 (N : Nat) : Contract Go.Proofs.Tryd.prog zd 13 (zbq N) :=
  Contract.of (E := z5o N) (H := zfl N) (L := z9a) (N := N) (body := z61) (K := (z4j (.tup [(.pair (.pair .str (.pair (.sl (.pair .str (.pair .str .unit))) (.pair .str .unit))) (.pair (.sl (.pair .str (.pair (.sl (.pair .str (.pair .str .unit))) (.pair .str .unit)))) .unit)), (.int .i64)]) 1)) (zma N) Go.Proofs.Tryd.func13 (by kernel_rfl) (by decide) (fun _ hb => (TabOk.cons (zm9 hb) TabOk.nil)) (fun x y h => by rw [zkt]; exact h) (z19 (s := (.tup [(.pair (.pair .str (.pair (.sl (.pair .str (.pair .str .unit))) (.pair .str .unit))) (.pair (.sl (.pair .str (.pair (.sl (.pair .str (.pair .str .unit))) (.pair .str .unit)))) .unit)), (.int .i64)])) (m := 1))

def z13 : Code := (Go.Proofs.Tryd.f29.body).getD .skip

def z2f : List (List Nat × List Nat) := [([0], [2, 3]), ([0, 0, 1], [26, 2, 3]), ([1, 0, 1], [2, 3]), ([0, 0, 1, 0, 1], [4]), ([1, 0, 1, 0, 1], [4]), ([0, 0, 1, 1], [5, 2, 3]), ([0, 1, 0, 1, 1], [5, 2, 3]), ([0, 0, 0, 0, 1, 0, 1, 1], [31, 2, 5, 3]), ([1, 0, 0, 0, 1, 0, 1, 1], [2, 5, 3]), ([1, 1, 0, 0, 0, 1, 0, 1, 1], []), ([0, 0, 0, 1, 0, 0, 1, 0, 1, 1], [44, 5, 2, 3]), ([1, 0, 0, 1, 0, 0, 1, 0, 1, 1], [5, 2, 3]), ([0, 0, 1, 0, 0, 1, 0, 0, 1, 0, 1, 1], [4]), ([1, 0, 1, 0, 0, 1, 0, 0, 1, 0, 1, 1], [4]), ([0, 1, 0, 0, 1, 0, 1, 1], [5, 2, 3]), ([1, 1, 0, 0, 1, 0, 1, 1], [5, 2, 3]), ([1, 0, 1, 1], []), ([0, 1, 1, 1], [4]), ([1, 1, 1, 1], [4])]

def z1q (N : Nat) : Env := z2x tys zd [] [] [] [] false [] []

theorem zfs (N : Nat) : EnvOk Go.Proofs.Tryd.prog (z1q N) := zl mixed z1f (FnsOk.nil) (ItsOk.nil)

def z4b (N : Nat) (a : ((List UInt8) × ((List ((List UInt8) × ((List UInt8) × Unit))) × ((List UInt8) × Unit)))) (b : ((List UInt8) × ((List ((List UInt8) × ((List UInt8) × Unit))) × ((List UInt8) × Unit)))) (k0 : Bool -> Option Bool) : Option Bool :=
 cond (!(a.1 == b.1))
 (k0 true)
 (cond (!(a.2.2.1 == b.2.2.1))
 (k0 true)
 (k0 ((((List.length a.2.1) : Nat) : Int) != (((List.length b.2.1) : Nat) : Int))))

def z87 (N : Nat) (x : z2c [(2, .box (.pair .str (.pair (.sl (.pair .str (.pair .str .unit))) (.pair .str .unit)))), (0, .box (.pair .str (.pair (.sl (.pair .str (.pair .str .unit))) (.pair .str .unit))))]) (K : Ex -> List A -> Option Bool) : Option Bool :=
 z4b N x.1 x.2.1 (fun a2 => (K .normal (mkS [(2, .box (.pair .str (.pair (.sl (.pair .str (.pair .str .unit))) (.pair .str .unit)))), (0, .box (.pair .str (.pair (.sl (.pair .str (.pair .str .unit))) (.pair .str .unit)))), (22, .v .bool)] 18 (x.1, x.2.1, a2, ()))))

def z84 (N : Nat) : Hd Bool := fun st K => (unS [(2, .box (.pair .str (.pair (.sl (.pair .str (.pair .str .unit))) (.pair .str .unit)))), (0, .box (.pair .str (.pair (.sl (.pair .str (.pair .str .unit))) (.pair .str .unit))))] 41 (restr [2, 3] 0 st)).bind fun x => z87 N x K

def zh3 (N : Nat) : Tab Bool := []

theorem zfq {N : Nat} {c : Ctx} (hb : Base Go.Proofs.Tryd.prog (z1q N) c) : z12 Go.Proofs.Tryd.prog c (zk z13 [0, 0, 1]) (z84 N) :=
  z1b (s := [(2, .box (.pair .str (.pair (.sl (.pair .str (.pair .str .unit))) (.pair .str .unit)))), (0, .box (.pair .str (.pair (.sl (.pair .str (.pair .str .unit))) (.pair .str .unit))))]) (m := 41) (g := z87 N) [2, 3] (zf hb N (zh3 N) z2f z13 TabOk.nil [0, 0, 1] _ rfl) (fun x K => by kernel_rfl)

def z4c (N : Nat) (a : ((List UInt8) × ((List ((List UInt8) × ((List UInt8) × Unit))) × ((List UInt8) × Unit)))) (b : ((List UInt8) × ((List ((List UInt8) × ((List UInt8) × Unit))) × ((List UInt8) × Unit)))) (k0 : Bool -> Option Bool) (k1 : Option Bool) : Option Bool :=
 z4b N a b
 (fun x26 => cond x26
 (k0 false)
 (k1))

def z88 (N : Nat) (x : z2c [(2, .box (.pair .str (.pair (.sl (.pair .str (.pair .str .unit))) (.pair .str .unit)))), (0, .box (.pair .str (.pair (.sl (.pair .str (.pair .str .unit))) (.pair .str .unit))))]) (K : Ex -> List A -> Option Bool) : Option Bool :=
 z4c N x.1 x.2.1 (fun a0 => (K .ret (mkS [(4, .v .bool)] 40 (a0, ())))) (K .normal (mkS [(2, .box (.pair .str (.pair (.sl (.pair .str (.pair .str .unit))) (.pair .str .unit)))), (0, .box (.pair .str (.pair (.sl (.pair .str (.pair .str .unit))) (.pair .str .unit))))] 41 (x.1, x.2.1, ())))

def z85 (N : Nat) : Hd Bool := fun st K => (unS [(2, .box (.pair .str (.pair (.sl (.pair .str (.pair .str .unit))) (.pair .str .unit)))), (0, .box (.pair .str (.pair (.sl (.pair .str (.pair .str .unit))) (.pair .str .unit))))] 41 (restr [2, 3] 0 st)).bind fun x => z88 N x K

def zh4 (N : Nat) : Tab Bool := [([0, 0, 1], z84 N)]

theorem zfr {N : Nat} {c : Ctx} (hb : Base Go.Proofs.Tryd.prog (z1q N) c) : z12 Go.Proofs.Tryd.prog c (zk z13 [0, 1]) (z85 N) :=
  z1b (s := [(2, .box (.pair .str (.pair (.sl (.pair .str (.pair .str .unit))) (.pair .str .unit)))), (0, .box (.pair .str (.pair (.sl (.pair .str (.pair .str .unit))) (.pair .str .unit))))]) (m := 41) (g := z88 N) [2, 3] (zf hb N (zh4 N) z2f z13 (TabOk.cons (zfq hb) TabOk.nil) [0, 1] _ rfl) (fun x K => by kernel_rfl)

def z4a (N : Nat) (a : ((List UInt8) × ((List ((List UInt8) × ((List UInt8) × Unit))) × ((List UInt8) × Unit)))) (b : ((List UInt8) × ((List ((List UInt8) × ((List UInt8) × Unit))) × ((List UInt8) × Unit)))) (i : Int) (rec : Int -> Option Bool) (k0 : Bool -> Option Bool) (k1 : Option Bool) : Option Bool :=
 cond (decide (i < (((List.length a.2.1) : Nat) : Int)))
 (cond (Go.Lift.inR i (List.length a.2.1))
 (cond (Go.Lift.inR i (List.length b.2.1))
 (cond (!(Go.Lift.eqD (Go.Lift.unT (Go.Lift.T.pair Go.Lift.T.str (Go.Lift.T.pair Go.Lift.T.str Go.Lift.T.unit))) (List.getD a.2.1 (Int.toNat i) (([] : List UInt8), (([] : List UInt8), ()))) (List.getD b.2.1 (Int.toNat i) (([] : List UInt8), (([] : List UInt8), ())))))
 (k0 false)
 (rec (Go.IntKind.wrap Go.IntKind.i64 (i + (1 : Int)))))
 (none))
 (none))
 (k1)

def z82 (N : Nat) (a : ((List UInt8) × ((List ((List UInt8) × ((List UInt8) × Unit))) × ((List UInt8) × Unit)))) (b : ((List UInt8) × ((List ((List UInt8) × ((List UInt8) × Unit))) × ((List UInt8) × Unit)))) (i : Int) (k0 : Bool -> Option Bool) (k1 : Option Bool) : Option Bool :=
 iter (fun (v : Int) r => z4a N a b v (fun i => (r i)) k0 k1) N i

def z86 (N : Nat) (i : (((List UInt8) × ((List ((List UInt8) × ((List UInt8) × Unit))) × ((List UInt8) × Unit))) × ((List UInt8) × ((List ((List UInt8) × ((List UInt8) × Unit))) × ((List UInt8) × Unit))))) (v : Int) (r : Int -> Option Bool) (K : Ex -> List A -> Option Bool) : Option Bool :=
 z4a N i.1 i.2 v (fun i => (r i)) (fun a0 => (K .ret (mkS [(4, .v .bool)] 40 (a0, ())))) (K (.exit 0) (mkS [] 45 ()))

def z83 (N : Nat) : Hd Bool := fun st K => (unS [(2, .box (.pair .str (.pair (.sl (.pair .str (.pair .str .unit))) (.pair .str .unit)))), (0, .box (.pair .str (.pair (.sl (.pair .str (.pair .str .unit))) (.pair .str .unit)))), (1, .v (.int .i64))] 39 (restr [5, 2, 3] 0 st)).bind fun x => iter (fun v r => z86 N ((fun x => (x.1, x.2.1)) x) v r K) N ((fun x => x.2.2.1) x)

def zh2 (N : Nat) : Tab Bool := []

theorem zfp {N : Nat} {c : Ctx} (hb : Base Go.Proofs.Tryd.prog (z1q N) c) : z12 Go.Proofs.Tryd.prog c (zk z13 [0, 1, 0, 1, 1]) (z83 N) :=
  z6z (s := [(2, .box (.pair .str (.pair (.sl (.pair .str (.pair .str .unit))) (.pair .str .unit)))), (0, .box (.pair .str (.pair (.sl (.pair .str (.pair .str .unit))) (.pair .str .unit)))), (1, .v (.int .i64))]) (m := 39) (z86 N) [5, 2, 3] N (fun x => (x.1, x.2.1)) (fun x => x.2.2.1) (fun i v => (i.1, i.2, v, ())) (fun _ => rfl) (zf hb N (zh2 N) z2f z13 TabOk.nil [0, 0, 1, 0, 1, 1] _ rfl) (fun i v r K => by kernel_rfl)

def z27 (N : Nat) (a : ((List UInt8) × ((List ((List UInt8) × ((List UInt8) × Unit))) × ((List UInt8) × Unit)))) (b : ((List UInt8) × ((List ((List UInt8) × ((List UInt8) × Unit))) × ((List UInt8) × Unit)))) : Option Bool :=
 z4c N a b
 (fun x4 => some x4)
 (z82 N a b (0 : Int)
 (fun x41 => some x41)
 (some true))

def z8x (N : Nat) : Tab Bool := [([0, 1], z85 N), ([0, 1, 0, 1, 1], z83 N)]

theorem zep (N : Nat) (x : z2c [(0, .v (.pair .str (.pair (.sl (.pair .str (.pair .str .unit))) (.pair .str .unit)))), (0, .v (.pair .str (.pair (.sl (.pair .str (.pair .str .unit))) (.pair .str .unit))))]) : za3 (z1q N) N (z8x N) z2f Go.Proofs.Tryd.f29 (mkS [(0, .v (.pair .str (.pair (.sl (.pair .str (.pair .str .unit))) (.pair .str .unit)))), (0, .v (.pair .str (.pair (.sl (.pair .str (.pair .str .unit))) (.pair .str .unit))))] 0 x) (z4j (.v .bool) 2) = z27 N x.1 x.2.1 := by kernel_rfl

def z77 (N : Nat) : List A -> Res := z1i [(0, .v (.pair .str (.pair (.sl (.pair .str (.pair .str .unit))) (.pair .str .unit)))), (0, .v (.pair .str (.pair (.sl (.pair .str (.pair .str .unit))) (.pair .str .unit))))] (fun x => z27 N x.1 x.2.1) (zap (.v .bool) 2)

theorem zh5 (N : Nat) : Contract Go.Proofs.Tryd.prog zd 29 (z77 N) :=
  Contract.of (E := z1q N) (H := z8x N) (L := z2f) (N := N) (body := z13) (K := (z4j (.v .bool) 2)) (zfs N) Go.Proofs.Tryd.func29 (by kernel_rfl) (by decide) (fun _ hb => (TabOk.cons (zfr hb) (TabOk.cons (zfp hb) TabOk.nil))) (fun x y h => by rw [zep]; exact h) (z19 (s := (.v .bool)) (m := 2))

def zy : Code := (Go.Proofs.Tryd.f14.body).getD .skip

def z25 : List (List Nat × List Nat) := [([0], [2, 3]), ([0, 0, 1], [20, 2, 3]), ([1, 0, 1], [2, 3]), ([0, 0, 1, 0, 1], [4]), ([1, 0, 1, 0, 1], [4]), ([0, 0, 1, 1], [5, 2, 3]), ([0, 1, 0, 1, 1], [5, 2, 3]), ([0, 0, 0, 0, 1, 0, 1, 1], [25, 2, 5, 3]), ([1, 0, 0, 0, 1, 0, 1, 1], [2, 5, 3]), ([1, 1, 0, 0, 0, 1, 0, 1, 1], []), ([0, 0, 0, 1, 0, 0, 1, 0, 1, 1], [39, 5, 2, 3]), ([1, 0, 0, 1, 0, 0, 1, 0, 1, 1], [5, 2, 3]), ([0, 0, 1, 0, 0, 1, 0, 0, 1, 0, 1, 1], [4]), ([1, 0, 1, 0, 0, 1, 0, 0, 1, 0, 1, 1], [4]), ([0, 1, 0, 0, 1, 0, 1, 1], [5, 2, 3]), ([1, 1, 0, 0, 1, 0, 1, 1], [5, 2, 3]), ([1, 0, 1, 1], []), ([0, 1, 1, 1], [4]), ([1, 1, 1, 1], [4])]

def z1k (N : Nat) : Env := z2x tys zd [(29, z77 N)] [] [] [] false [] []

theorem zeu (N : Nat) : EnvOk Go.Proofs.Tryd.prog (z1k N) := zl mixed z1f (FnsOk.cons (zh5 N) (FnsOk.nil)) (ItsOk.nil)

def z3s (N : Nat) (a : (((List UInt8) × ((List ((List UInt8) × ((List UInt8) × Unit))) × ((List UInt8) × Unit))) × ((List ((List UInt8) × ((List ((List UInt8) × ((List UInt8) × Unit))) × ((List UInt8) × Unit)))) × Unit))) (b : (((List UInt8) × ((List ((List UInt8) × ((List UInt8) × Unit))) × ((List UInt8) × Unit))) × ((List ((List UInt8) × ((List ((List UInt8) × ((List UInt8) × Unit))) × ((List UInt8) × Unit)))) × Unit))) (k0 : Bool -> Option Bool) : Option Bool :=
 (z27 N a.1 b.1).bind fun y =>
 cond (!y)
 (k0 true)
 (k0 ((((List.length a.2.1) : Nat) : Int) != (((List.length b.2.1) : Nat) : Int)))

def z7d (N : Nat) (x : z2c [(2, .box (.pair (.pair .str (.pair (.sl (.pair .str (.pair .str .unit))) (.pair .str .unit))) (.pair (.sl (.pair .str (.pair (.sl (.pair .str (.pair .str .unit))) (.pair .str .unit)))) .unit))), (0, .box (.pair (.pair .str (.pair (.sl (.pair .str (.pair .str .unit))) (.pair .str .unit))) (.pair (.sl (.pair .str (.pair (.sl (.pair .str (.pair .str .unit))) (.pair .str .unit)))) .unit)))]) (K : Ex -> List A -> Option Bool) : Option Bool :=
 z3s N x.1 x.2.1 (fun a2 => (K .normal (mkS [(2, .box (.pair (.pair .str (.pair (.sl (.pair .str (.pair .str .unit))) (.pair .str .unit))) (.pair (.sl (.pair .str (.pair (.sl (.pair .str (.pair .str .unit))) (.pair .str .unit)))) .unit))), (0, .box (.pair (.pair .str (.pair (.sl (.pair .str (.pair .str .unit))) (.pair .str .unit))) (.pair (.sl (.pair .str (.pair (.sl (.pair .str (.pair .str .unit))) (.pair .str .unit)))) .unit))), (16, .v .bool)] 19 (x.1, x.2.1, a2, ()))))

def z7a (N : Nat) : Hd Bool := fun st K => (unS [(2, .box (.pair (.pair .str (.pair (.sl (.pair .str (.pair .str .unit))) (.pair .str .unit))) (.pair (.sl (.pair .str (.pair (.sl (.pair .str (.pair .str .unit))) (.pair .str .unit)))) .unit))), (0, .box (.pair (.pair .str (.pair (.sl (.pair .str (.pair .str .unit))) (.pair .str .unit))) (.pair (.sl (.pair .str (.pair (.sl (.pair .str (.pair .str .unit))) (.pair .str .unit)))) .unit)))] 36 (restr [2, 3] 0 st)).bind fun x => z7d N x K

def zfu (N : Nat) : Tab Bool := []

theorem zes {N : Nat} {c : Ctx} (hb : Base Go.Proofs.Tryd.prog (z1k N) c) : z12 Go.Proofs.Tryd.prog c (zk zy [0, 0, 1]) (z7a N) :=
  z1b (s := [(2, .box (.pair (.pair .str (.pair (.sl (.pair .str (.pair .str .unit))) (.pair .str .unit))) (.pair (.sl (.pair .str (.pair (.sl (.pair .str (.pair .str .unit))) (.pair .str .unit)))) .unit))), (0, .box (.pair (.pair .str (.pair (.sl (.pair .str (.pair .str .unit))) (.pair .str .unit))) (.pair (.sl (.pair .str (.pair (.sl (.pair .str (.pair .str .unit))) (.pair .str .unit)))) .unit)))]) (m := 36) (g := z7d N) [2, 3] (zf hb N (zfu N) z25 zy TabOk.nil [0, 0, 1] _ rfl) (fun x K => by kernel_rfl)

def z3t (N : Nat) (a : (((List UInt8) × ((List ((List UInt8) × ((List UInt8) × Unit))) × ((List UInt8) × Unit))) × ((List ((List UInt8) × ((List ((List UInt8) × ((List UInt8) × Unit))) × ((List UInt8) × Unit)))) × Unit))) (b : (((List UInt8) × ((List ((List UInt8) × ((List UInt8) × Unit))) × ((List UInt8) × Unit))) × ((List ((List UInt8) × ((List ((List UInt8) × ((List UInt8) × Unit))) × ((List UInt8) × Unit)))) × Unit))) (k0 : Bool -> Option Bool) (k1 : Option Bool) : Option Bool :=
 z3s N a b
 (fun x20 => cond x20
 (k0 false)
 (k1))

def z7e (N : Nat) (x : z2c [(2, .box (.pair (.pair .str (.pair (.sl (.pair .str (.pair .str .unit))) (.pair .str .unit))) (.pair (.sl (.pair .str (.pair (.sl (.pair .str (.pair .str .unit))) (.pair .str .unit)))) .unit))), (0, .box (.pair (.pair .str (.pair (.sl (.pair .str (.pair .str .unit))) (.pair .str .unit))) (.pair (.sl (.pair .str (.pair (.sl (.pair .str (.pair .str .unit))) (.pair .str .unit)))) .unit)))]) (K : Ex -> List A -> Option Bool) : Option Bool :=
 z3t N x.1 x.2.1 (fun a0 => (K .ret (mkS [(4, .v .bool)] 35 (a0, ())))) (K .normal (mkS [(2, .box (.pair (.pair .str (.pair (.sl (.pair .str (.pair .str .unit))) (.pair .str .unit))) (.pair (.sl (.pair .str (.pair (.sl (.pair .str (.pair .str .unit))) (.pair .str .unit)))) .unit))), (0, .box (.pair (.pair .str (.pair (.sl (.pair .str (.pair .str .unit))) (.pair .str .unit))) (.pair (.sl (.pair .str (.pair (.sl (.pair .str (.pair .str .unit))) (.pair .str .unit)))) .unit)))] 36 (x.1, x.2.1, ())))

def z7b (N : Nat) : Hd Bool := fun st K => (unS [(2, .box (.pair (.pair .str (.pair (.sl (.pair .str (.pair .str .unit))) (.pair .str .unit))) (.pair (.sl (.pair .str (.pair (.sl (.pair .str (.pair .str .unit))) (.pair .str .unit)))) .unit))), (0, .box (.pair (.pair .str (.pair (.sl (.pair .str (.pair .str .unit))) (.pair .str .unit))) (.pair (.sl (.pair .str (.pair (.sl (.pair .str (.pair .str .unit))) (.pair .str .unit)))) .unit)))] 36 (restr [2, 3] 0 st)).bind fun x => z7e N x K

def zfv (N : Nat) : Tab Bool := [([0, 0, 1], z7a N)]

theorem zet {N : Nat} {c : Ctx} (hb : Base Go.Proofs.Tryd.prog (z1k N) c) : z12 Go.Proofs.Tryd.prog c (zk zy [0, 1]) (z7b N) :=
  z1b (s := [(2, .box (.pair (.pair .str (.pair (.sl (.pair .str (.pair .str .unit))) (.pair .str .unit))) (.pair (.sl (.pair .str (.pair (.sl (.pair .str (.pair .str .unit))) (.pair .str .unit)))) .unit))), (0, .box (.pair (.pair .str (.pair (.sl (.pair .str (.pair .str .unit))) (.pair .str .unit))) (.pair (.sl (.pair .str (.pair (.sl (.pair .str (.pair .str .unit))) (.pair .str .unit)))) .unit)))]) (m := 36) (g := z7e N) [2, 3] (zf hb N (zfv N) z25 zy (TabOk.cons (zes hb) TabOk.nil) [0, 1] _ rfl) (fun x K => by kernel_rfl)

def z3r (N : Nat) (a : (((List UInt8) × ((List ((List UInt8) × ((List UInt8) × Unit))) × ((List UInt8) × Unit))) × ((List ((List UInt8) × ((List ((List UInt8) × ((List UInt8) × Unit))) × ((List UInt8) × Unit)))) × Unit))) (b : (((List UInt8) × ((List ((List UInt8) × ((List UInt8) × Unit))) × ((List UInt8) × Unit))) × ((List ((List UInt8) × ((List ((List UInt8) × ((List UInt8) × Unit))) × ((List UInt8) × Unit)))) × Unit))) (i : Int) (rec : Int -> Option Bool) (k0 : Bool -> Option Bool) (k1 : Option Bool) : Option Bool :=
 cond (decide (i < (((List.length a.2.1) : Nat) : Int)))
 (cond (Go.Lift.inR i (List.length a.2.1))
 (cond (Go.Lift.inR i (List.length b.2.1))
 ((z27 N (List.getD a.2.1 (Int.toNat i) (([] : List UInt8), (([] : List ((List UInt8) × ((List UInt8) × Unit))), (([] : List UInt8), ())))) (List.getD b.2.1 (Int.toNat i) (([] : List UInt8), (([] : List ((List UInt8) × ((List UInt8) × Unit))), (([] : List UInt8), ()))))).bind fun y =>
 cond (!y)
 (k0 false)
 (rec (Go.IntKind.wrap Go.IntKind.i64 (i + (1 : Int)))))
 (none))
 (none))
 (k1)

def z78 (N : Nat) (a : (((List UInt8) × ((List ((List UInt8) × ((List UInt8) × Unit))) × ((List UInt8) × Unit))) × ((List ((List UInt8) × ((List ((List UInt8) × ((List UInt8) × Unit))) × ((List UInt8) × Unit)))) × Unit))) (b : (((List UInt8) × ((List ((List UInt8) × ((List UInt8) × Unit))) × ((List UInt8) × Unit))) × ((List ((List UInt8) × ((List ((List UInt8) × ((List UInt8) × Unit))) × ((List UInt8) × Unit)))) × Unit))) (i : Int) (k0 : Bool -> Option Bool) (k1 : Option Bool) : Option Bool :=
 iter (fun (v : Int) r => z3r N a b v (fun i => (r i)) k0 k1) N i

def z7c (N : Nat) (i : ((((List UInt8) × ((List ((List UInt8) × ((List UInt8) × Unit))) × ((List UInt8) × Unit))) × ((List ((List UInt8) × ((List ((List UInt8) × ((List UInt8) × Unit))) × ((List UInt8) × Unit)))) × Unit)) × (((List UInt8) × ((List ((List UInt8) × ((List UInt8) × Unit))) × ((List UInt8) × Unit))) × ((List ((List UInt8) × ((List ((List UInt8) × ((List UInt8) × Unit))) × ((List UInt8) × Unit)))) × Unit)))) (v : Int) (r : Int -> Option Bool) (K : Ex -> List A -> Option Bool) : Option Bool :=
 z3r N i.1 i.2 v (fun i => (r i)) (fun a0 => (K .ret (mkS [(4, .v .bool)] 35 (a0, ())))) (K (.exit 0) (mkS [] 40 ()))

def z79 (N : Nat) : Hd Bool := fun st K => (unS [(2, .box (.pair (.pair .str (.pair (.sl (.pair .str (.pair .str .unit))) (.pair .str .unit))) (.pair (.sl (.pair .str (.pair (.sl (.pair .str (.pair .str .unit))) (.pair .str .unit)))) .unit))), (0, .box (.pair (.pair .str (.pair (.sl (.pair .str (.pair .str .unit))) (.pair .str .unit))) (.pair (.sl (.pair .str (.pair (.sl (.pair .str (.pair .str .unit))) (.pair .str .unit)))) .unit))), (1, .v (.int .i64))] 34 (restr [5, 2, 3] 0 st)).bind fun x => iter (fun v r => z7c N ((fun x => (x.1, x.2.1)) x) v r K) N ((fun x => x.2.2.1) x)

def zft (N : Nat) : Tab Bool := []

theorem zer {N : Nat} {c : Ctx} (hb : Base Go.Proofs.Tryd.prog (z1k N) c) : z12 Go.Proofs.Tryd.prog c (zk zy [0, 1, 0, 1, 1]) (z79 N) :=
  z6z (s := [(2, .box (.pair (.pair .str (.pair (.sl (.pair .str (.pair .str .unit))) (.pair .str .unit))) (.pair (.sl (.pair .str (.pair (.sl (.pair .str (.pair .str .unit))) (.pair .str .unit)))) .unit))), (0, .box (.pair (.pair .str (.pair (.sl (.pair .str (.pair .str .unit))) (.pair .str .unit))) (.pair (.sl (.pair .str (.pair (.sl (.pair .str (.pair .str .unit))) (.pair .str .unit)))) .unit))), (1, .v (.int .i64))]) (m := 34) (z7c N) [5, 2, 3] N (fun x => (x.1, x.2.1)) (fun x => x.2.2.1) (fun i v => (i.1, i.2, v, ())) (fun _ => rfl) (zf hb N (zft N) z25 zy TabOk.nil [0, 0, 1, 0, 1, 1] _ rfl) (fun i v r K => by kernel_rfl)

def z18 (N : Nat) (a : (((List UInt8) × ((List ((List UInt8) × ((List UInt8) × Unit))) × ((List UInt8) × Unit))) × ((List ((List UInt8) × ((List ((List UInt8) × ((List UInt8) × Unit))) × ((List UInt8) × Unit)))) × Unit))) (b : (((List UInt8) × ((List ((List UInt8) × ((List UInt8) × Unit))) × ((List UInt8) × Unit))) × ((List ((List UInt8) × ((List ((List UInt8) × ((List UInt8) × Unit))) × ((List UInt8) × Unit)))) × Unit))) : Option Bool :=
 z3t N a b
 (fun x4 => some x4)
 (z78 N a b (0 : Int)
 (fun x41 => some x41)
 (some true))

def z89 (N : Nat) : Tab Bool := [([0, 1], z7b N), ([0, 1, 0, 1, 1], z79 N)]

theorem zd3 (N : Nat) (x : z2c [(0, .v (.pair (.pair .str (.pair (.sl (.pair .str (.pair .str .unit))) (.pair .str .unit))) (.pair (.sl (.pair .str (.pair (.sl (.pair .str (.pair .str .unit))) (.pair .str .unit)))) .unit))), (0, .v (.pair (.pair .str (.pair (.sl (.pair .str (.pair .str .unit))) (.pair .str .unit))) (.pair (.sl (.pair .str (.pair (.sl (.pair .str (.pair .str .unit))) (.pair .str .unit)))) .unit)))]) : za3 (z1k N) N (z89 N) z25 Go.Proofs.Tryd.f14 (mkS [(0, .v (.pair (.pair .str (.pair (.sl (.pair .str (.pair .str .unit))) (.pair .str .unit))) (.pair (.sl (.pair .str (.pair (.sl (.pair .str (.pair .str .unit))) (.pair .str .unit)))) .unit))), (0, .v (.pair (.pair .str (.pair (.sl (.pair .str (.pair .str .unit))) (.pair .str .unit))) (.pair (.sl (.pair .str (.pair (.sl (.pair .str (.pair .str .unit))) (.pair .str .unit)))) .unit)))] 0 x) (z4j (.v .bool) 2) = z18 N x.1 x.2.1 := by kernel_rfl

def z3h (N : Nat) : List A -> Res := z1i [(0, .v (.pair (.pair .str (.pair (.sl (.pair .str (.pair .str .unit))) (.pair .str .unit))) (.pair (.sl (.pair .str (.pair (.sl (.pair .str (.pair .str .unit))) (.pair .str .unit)))) .unit))), (0, .v (.pair (.pair .str (.pair (.sl (.pair .str (.pair .str .unit))) (.pair .str .unit))) (.pair (.sl (.pair .str (.pair (.sl (.pair .str (.pair .str .unit))) (.pair .str .unit)))) .unit)))] (fun x => z18 N x.1 x.2.1) (zap (.v .bool) 2)

theorem z7f (N : Nat) : Contract Go.Proofs.Tryd.prog zd 14 (z3h N) :=
  Contract.of (E := z1k N) (H := z89 N) (L := z25) (N := N) (body := zy) (K := (z4j (.v .bool) 2)) (zeu N) Go.Proofs.Tryd.func14 (by kernel_rfl) (by decide) (fun _ hb => (TabOk.cons (zet hb) (TabOk.cons (zer hb) TabOk.nil))) (fun x y h => by rw [zd3]; exact h) (z19 (s := (.v .bool)) (m := 2))

def glob : Nat -> Option Dat := lk [(0, ⟨.opq, Value.iface 123 (.agg #[.pointer (some ⟨1, 70, none⟩)])⟩)]

open Go.RowKit Go.Extern.Stop Go.Stop Go.Extern

theorem z1d6 (t : Value) (w : World) :
    Calls Tryd.prog 68 #[.nilIface, t] w fun e w' => e = .returned (.bool false) /\ w' = w := by
  go_enter Tryd.func68, Tryd.ntmps68
  go_wp2
  go_ret
  exact ⟨rfl, rfl⟩

theorem z10i (t : Addr) (w : World) : (ReflectliteValue.unpack (.iface 106 (.pointer (some t)))).run Tryd.prog w
    = .ok (.agg #[.pointer (some ⟨1, 106, none⟩), .pointer (some ⟨w.heap.size, 0, none⟩), .int .u64 150]) (w.alloc (.cells #[.pointer (some t)] 106)) := by kernel_rfl

theorem z19p (a : Addr) (w : World) : (ReflectliteValue.methodAny (ReflectliteValue.valueError "reflectlite.Value.Type" 0) (fun t _ _ _ => ReflectliteType.toType t) #[.agg #[.pointer (some ⟨1, 106, none⟩), .pointer (some a), .int .u64 150]]).run Tryd.prog w
    = .ok (.iface 123 (.agg #[.pointer (some ⟨1, 106, none⟩)])) w := by kernel_rfl

theorem zwy (h : Value) (w : World) : (Go.method 263 123 (.agg #[h]) "Kind").run Tryd.prog w = .ok (95, h) w := by kernel_rfl

theorem z19q (w : World) : ((ReflectliteType.abiMethod fun t => (fun a : Nat => Value.int IntKind.u8 (a : Int)) <$> Rtype.kind t) #[.pointer (some ⟨1, 106, none⟩)]).run Tryd.prog w = .ok (.int .u8 22) w := by kernel_rfl

theorem z19r (w : World) : ((ReflectliteType.abiMethod fun t => (fun a : Nat => Value.int IntKind.u8 (a : Int)) <$> Rtype.kind t) #[.pointer (some ⟨1, 104, none⟩)]).run Tryd.prog w = .ok (.int .u8 25) w := by kernel_rfl

theorem z1ak (z : Sem Value) (f : TypeId -> Addr -> Nat -> Nat -> Sem Value) (v : Value) :
    ReflectliteValue.method z f #[v] = (do match <- ReflectliteValue.parts v with | none => z | some (t, a, fl) => f t a fl (fl % 32)) := rfl

theorem zz2 (a : Addr) (w : World) : (ReflectliteValue.parts (.agg #[.pointer (some ⟨1, 106, none⟩), .pointer (some a), .int .u64 150])).run Tryd.prog w = .ok (some (106, a, 150)) w := by kernel_rfl

theorem z17j (a p : Addr) (W : World) (ha : W.cell? a = some (.pointer (some p))) :
    (ReflectliteValue.method (ReflectliteValue.valueError "reflectlite.Value.IsNil" 0) ReflectliteValue.isNil #[.agg #[.pointer (some ⟨1, 106, none⟩), .pointer (some a), .int .u64 150]]).run Tryd.prog W = .ok (.bool false) W := by
  rw [z1ak]
  simp only [Sem.run_bind, zz2, Result.andThen]
  simp [ReflectliteValue.isNil, loadVar, isAgg, underlying, Tryd.underlying106, ha, Result.andThen]

theorem zwz (h : Value) (w : World) : (Go.method 263 123 (.agg #[h]) "Elem").run Tryd.prog w = .ok (106, .agg #[h]) w := by kernel_rfl

theorem zn8 (h : Value) (w : World) : (Go.method 263 123 (.agg #[h]) "Implements").run Tryd.prog w = .ok (107, .agg #[h]) w := by kernel_rfl

theorem zkb (h : Value) (w : World) : (Go.method 263 123 (.agg #[h]) "AssignableTo").run Tryd.prog w = .ok (104, .agg #[h]) w := by kernel_rfl

theorem z19t (w : World) : (ReflectliteType.method ReflectliteType.elem #[.agg #[.pointer (some ⟨1, 106, none⟩)]]).run Tryd.prog w = .ok (.iface 123 (.agg #[.pointer (some ⟨1, 104, none⟩)])) w := by kernel_rfl

theorem z1ca (w : World) : (ReflectliteType.relation "Implements" ReflectliteType.implements_ #[.agg #[.pointer (some ⟨1, 104, none⟩)], .iface 123 (.agg #[.pointer (some ⟨1, 70, none⟩)])]).run Tryd.prog w = .ok (.bool true) w := by kernel_rfl

theorem z17g (v : Value) (w : World) : (ReflectliteType.typeOf #[.iface 104 v]).run Tryd.prog w = .ok (.iface 123 (.agg #[.pointer (some ⟨1, 104, none⟩)])) w := by kernel_rfl

theorem zx0 (w : World) : (ReflectliteType.relation "AssignableTo" ReflectliteType.assignableTo #[.agg #[.pointer (some ⟨1, 104, none⟩)], .iface 123 (.agg #[.pointer (some ⟨1, 104, none⟩)])]).run Tryd.prog w = .ok (.bool true) w := by kernel_rfl

theorem z10j (c : Int) (w : World) : (ReflectliteValue.unpack (.iface 104 (.agg #[.int .i64 c]))).run Tryd.prog w
    = .ok (.agg #[.pointer (some ⟨1, 104, none⟩), .pointer (some ⟨w.heap.size, 0, none⟩), .int .u64 153]) (w.alloc (.cells #[.int .i64 c] 104)) := by kernel_rfl

theorem z17k (w : World) : (Rtype.elem? 106).run Tryd.prog w = .ok (some 104) w := by kernel_rfl

theorem as_mk (p : Addr) (w : World) : (ReflectliteValue.mk 104 p ReflectliteValue.flagAddr).run Tryd.prog w = .ok (.agg #[.pointer (some ⟨1, 104, none⟩), .pointer (some p), .int .u64 409]) w := by kernel_rfl

theorem z19s (a p : Addr) (W : World) (ha : W.cell? a = some (.pointer (some p))) :
    (ReflectliteValue.method (ReflectliteValue.valueError "reflectlite.Value.Elem" 0) ReflectliteValue.elem #[.agg #[.pointer (some ⟨1, 106, none⟩), .pointer (some a), .int .u64 150]]).run Tryd.prog W
      = .ok (.agg #[.pointer (some ⟨1, 104, none⟩), .pointer (some p), .int .u64 409]) W := by
  rw [z1ak]
  simp only [Sem.run_bind, zz2, Result.andThen]
  simp [ReflectliteValue.elem, loadVar, isAgg, underlying, Tryd.underlying106, ha, Result.andThen, z17k, as_mk]

theorem z1d5 (v x : Value) : ReflectliteValue.set #[v, x] = (do
    let (some (dst, a, fl), some (src, b, _)) := (<- ReflectliteValue.parts v, <- ReflectliteValue.parts x)
      | unsupported (.noEntry "extern/(internal/reflectlite.Value).Set.zeroValue")
    if fl / ReflectliteValue.flagAddr % 2 == 0 then unsupported (.noEntry "extern/(internal/reflectlite.Value).Set.unaddressable")
    let val <- loadVar src b
    if <- Rtype.directlyAssignable dst src then storeVar dst a val
    else if <- Rtype.implements dst src then
      if (<- Rtype.kind src) == 20 then
        match val with
        | .nilIface => unsupported (.noEntry "extern/reflectlite: a nil value of one interface type handed on as a value of another")
        | _ => storeVar dst a val
      else storeVar dst a (.iface src val)
    else panicString ("reflectlite.Set: value of type " ++ (<- Rtype.spelt src) ++ " is not assignable to type " ++ (<- Rtype.spelt dst))
    pure (.tuple #[])) := rfl

theorem z17i (a : Addr) (w : World) : (ReflectliteValue.parts (.agg #[.pointer (some ⟨1, 104, none⟩), .pointer (some a), .int .u64 409])).run Tryd.prog w = .ok (some (104, a, 409)) w := by kernel_rfl

theorem z17h (a : Addr) (w : World) : (ReflectliteValue.parts (.agg #[.pointer (some ⟨1, 104, none⟩), .pointer (some a), .int .u64 153])).run Tryd.prog w = .ok (some (104, a, 153)) w := by kernel_rfl

theorem z17l (w : World) : (Rtype.directlyAssignable 104 104).run Tryd.prog w = .ok true w := by kernel_rfl

theorem z1d4 (ta b : Addr) (c : Int) (old : Value) (W : World) (hb : W.cell? b = some (.int .i64 c)) (ht : W.cell? ta = some old) (hf : W.frozen? ta = false) :
    (ReflectliteValue.set #[.agg #[.pointer (some ⟨1, 104, none⟩), .pointer (some ta), .int .u64 409], .agg #[.pointer (some ⟨1, 104, none⟩), .pointer (some b), .int .u64 153]]).run Tryd.prog W
      = .ok (.tuple #[]) (W.setCell ta (.int .i64 c)) := by
  have lc : (loadCells b 1).run Tryd.prog W = .ok #[.int .i64 c] W := by
    simp [loadCells, loadCellsFrom, hb, Result.andThen, Addr.add]
  rw [z1d5]
  simp only [Sem.run_bind, z17i, z17h, Result.andThen]
  simp [ReflectliteValue.flagAddr, loadVar, isAgg, underlying, Tryd.underlying104, lc, Result.andThen, z17l, storeVar, Value.cells, storeCells, Addr.add]
  rw [run_store Tryd.prog W ta _ _ (by rfl)]
  simp [ht, hf]

set_option maxHeartbeats 4000000 in
theorem z1d7 (c : Int) (t : Addr) (old : Value) (w : World) (hg : w.cell? ⟨0, 0, none⟩ = some (.iface 123 (.agg #[.pointer (some ⟨1, 70, none⟩)]))) (ht0 : w.cell? t = some old) (hf0 : w.frozen? t = false) :
    Calls Tryd.prog 68 #[.iface 104 (.agg #[.int .i64 c]), .iface 106 (.pointer (some t))] w fun ev w' => ev = .returned (.bool true) /\ w' = ((((w.alloc (.cells #[.pointer (some t)] 106)).alloc (.cells #[.pointer (some ⟨1, 106, none⟩), .pointer (some ⟨w.heap.size, 0, none⟩), .int .u64 150] 113)).alloc (.cells #[.pointer (some ⟨1, 106, none⟩), .pointer (some ⟨w.heap.size, 0, none⟩), .int .u64 150] 113)).alloc (.cells #[.int .i64 c] 104)).setCell t (.int .i64 c) := by
  have h6 := @run_callFunc_extern Tryd.prog 74 _ (fun args => ReflectliteValue.unpack (args.getD 0 (.tuple #[]))) Tryd.func74 (by kernel_rfl) (by kernel_rfl) (by kernel_rfl) (by kernel_rfl)
  have h7 := @run_callFunc_extern Tryd.prog 75 _ (ReflectliteValue.methodAny (ReflectliteValue.valueError "reflectlite.Value.Type" 0) (fun t _ _ _ => ReflectliteType.toType t)) Tryd.func75 (by kernel_rfl) (by kernel_rfl) (by kernel_rfl) (by kernel_rfl)
  have h8 := @run_callFunc_extern Tryd.prog 76 _ (ReflectliteValue.method (ReflectliteValue.valueError "reflectlite.Value.IsNil" 0) ReflectliteValue.isNil) Tryd.func76 (by kernel_rfl) (by kernel_rfl) (by kernel_rfl) (by kernel_rfl)
  have h27 := @run_callFunc_extern Tryd.prog 95 _ (ReflectliteType.abiMethod fun t => do pure (.int .u8 (<- Rtype.kind t))) Tryd.func95 (by kernel_rfl) (by kernel_rfl) (by kernel_rfl) (by kernel_rfl)
  have h37 := @run_callFunc_extern Tryd.prog 106 _ (ReflectliteType.method ReflectliteType.elem) Tryd.func106 (by kernel_rfl) (by kernel_rfl) (by kernel_rfl) (by kernel_rfl)
  have h38 := @run_callFunc_extern Tryd.prog 107 _ (ReflectliteType.relation "Implements" ReflectliteType.implements_) Tryd.func107 (by kernel_rfl) (by kernel_rfl) (by kernel_rfl) (by kernel_rfl)
  have h10 := @run_callFunc_extern Tryd.prog 78 _ ReflectliteType.typeOf Tryd.func78 (by kernel_rfl) (by kernel_rfl) (by kernel_rfl) (by kernel_rfl)
  have h35 := @run_callFunc_extern Tryd.prog 104 _ (ReflectliteType.relation "AssignableTo" ReflectliteType.assignableTo) Tryd.func104 (by kernel_rfl) (by kernel_rfl) (by kernel_rfl) (by kernel_rfl)
  have h11 := @run_callFunc_extern Tryd.prog 79 _ (ReflectliteValue.method (ReflectliteValue.valueError "reflectlite.Value.Elem" 0) ReflectliteValue.elem) Tryd.func79 (by kernel_rfl) (by kernel_rfl) (by kernel_rfl) (by kernel_rfl)
  have h12 := @run_callFunc_extern Tryd.prog 80 _ ReflectliteValue.set Tryd.func80 (by kernel_rfl) (by kernel_rfl) (by kernel_rfl) (by kernel_rfl)
  have tO := z17g
  have mA := zkb
  have a25 := zx0
  have v25 := z10j
  have f6 := z10i
  have f7 := z19p
  have mK := zwy
  have mE := zwz
  have mI := zn8
  have k27 := z19q
  have k25 := z19r
  have e27 := z19t
  have i25 := z1ca
  have n8 := z17j ⟨w.heap.size, 0, none⟩ t ((w.alloc (.cells #[.pointer (some t)] 106)).alloc (.cells #[.pointer (some ⟨1, 106, none⟩), .pointer (some ⟨w.heap.size, 0, none⟩), .int .u64 150] 113)) (by simp)
  have hlt : 0 < w.heap.size := by
    rcases Nat.eq_zero_or_pos w.heap.size with h0 | h
    . simp [World.cell?, h0] at hg
    . exact h
  have hg2 : ((w.alloc (.cells #[.pointer (some t)] 106)).alloc (.cells #[.pointer (some ⟨1, 106, none⟩), .pointer (some ⟨w.heap.size, 0, none⟩), .int .u64 150] 113)).cell? ⟨0, 0, none⟩ = some (.iface 123 (.agg #[.pointer (some ⟨1, 70, none⟩)])) := by
    rw [World.cell?_alloc_lt _ _ ⟨0, 0, none⟩ (by simp), World.cell?_alloc_lt _ _ ⟨0, 0, none⟩ hlt]; exact hg
  have htl : t.block < w.heap.size := by
    rcases Nat.lt_or_ge t.block w.heap.size with h | h
    . exact h
    . simp [World.cell?, Array.getElem?_eq_none h] at ht0
  have el := z19s ⟨w.heap.size, 0, none⟩ t (((w.alloc (.cells #[.pointer (some t)] 106)).alloc (.cells #[.pointer (some ⟨1, 106, none⟩), .pointer (some ⟨w.heap.size, 0, none⟩), .int .u64 150] 113)).alloc (.cells #[.pointer (some ⟨1, 106, none⟩), .pointer (some ⟨w.heap.size, 0, none⟩), .int .u64 150] 113)) (by rw [World.cell?_alloc_lt _ _ ⟨w.heap.size, 0, none⟩ (by simp; omega)]; simp)
  have st := z1d4 t ⟨w.heap.size + 1 + 1 + 1, 0, none⟩ c old ((((w.alloc (.cells #[.pointer (some t)] 106)).alloc (.cells #[.pointer (some ⟨1, 106, none⟩), .pointer (some ⟨w.heap.size, 0, none⟩), .int .u64 150] 113)).alloc (.cells #[.pointer (some ⟨1, 106, none⟩), .pointer (some ⟨w.heap.size, 0, none⟩), .int .u64 150] 113)).alloc (.cells #[.int .i64 c] 104))
    (by rw [World.cell?_alloc_at _ _ _ _ (by simp)]; rfl)
    (by rw [World.cell?_alloc_lt _ _ t (by simp; omega), World.cell?_alloc_lt _ _ t (by simp; omega), World.cell?_alloc_lt _ _ t (by simp; omega), World.cell?_alloc_lt _ _ t htl]; exact ht0)
    (by rw [World.frozen?_alloc_old _ _ t (by simp; omega), World.frozen?_alloc_old _ _ t (by simp; omega), World.frozen?_alloc_old _ _ t (by simp; omega), World.frozen?_alloc_old _ _ t (Nat.ne_of_lt htl)]; exact hf0)
  go_enter Tryd.func68, Tryd.ntmps68
  go_wp2
  refine wp_loop_rounds 1 ?_
  rw [rounds_succ]
  go_wp2
  go_ret
  exact ⟨rfl, rfl⟩

theorem z13r (w : World) : Calls Tryd.prog 56 #[.nilIface] w fun e w' => e = .returned (.int .i64 0) /\ w' = w.alloc (.cells #[.int .i64 0] 104) := by
  go_enter Tryd.func56, Tryd.ntmps56
  go_wp2_with (first | (go_at_call 68; refine (z1d6 _ _).mono ?_; rintro e w' ⟨rfl, rfl⟩))
  go_ret
  exact ⟨rfl, rfl⟩

def asW (w : World) (c : Int) : World := (((((w.alloc (.cells #[.int .i64 0] 104)).alloc (.cells #[.pointer (some ⟨w.heap.size, 0, none⟩)] 106)).alloc (.cells #[.pointer (some ⟨1, 106, none⟩), .pointer (some ⟨w.heap.size + 1, 0, none⟩), .int .u64 150] 113)).alloc (.cells #[.pointer (some ⟨1, 106, none⟩), .pointer (some ⟨w.heap.size + 1, 0, none⟩), .int .u64 150] 113)).alloc (.cells #[.int .i64 c] 104)).setCell ⟨w.heap.size, 0, none⟩ (.int .i64 c)

theorem z1cb (c : Int) (w : World) (hg : w.cell? ⟨0, 0, none⟩ = some (.iface 123 (.agg #[.pointer (some ⟨1, 70, none⟩)]))) : Calls Tryd.prog 68 #[.iface 104 (.agg #[.int .i64 c]), .iface 106 (.pointer (some ⟨w.heap.size, 0, none⟩))] (w.alloc (.cells #[.int .i64 0] 104)) fun e w' => e = .returned (.bool true) /\ w' = asW w c := by
  have hlt : 0 < w.heap.size := by
    rcases Nat.eq_zero_or_pos w.heap.size with h0 | h
    . simp [World.cell?, h0] at hg
    . exact h
  have h1 : (w.alloc (.cells #[.int .i64 0] 104)).cell? ⟨0, 0, none⟩ = some (.iface 123 (.agg #[.pointer (some ⟨1, 70, none⟩)])) := by
    rw [World.cell?_alloc_lt _ _ ⟨0, 0, none⟩ hlt]; exact hg
  have hs : (w.alloc (.cells #[.int .i64 0] 104)).heap.size = w.heap.size + 1 := by simp
  refine (z1d7 c ⟨w.heap.size, 0, none⟩ (.int .i64 0) (w.alloc (.cells #[.int .i64 0] 104)) h1 (by simp) (by simp)).mono fun e w' ⟨h2, h3⟩ => ⟨h2, ?_⟩
  rw [h3, hs]; rfl

theorem z19v (w : World) (c : Int) : (asW w c).cell? ⟨w.heap.size, 0, none⟩ = some (.int .i64 c) := by
  have h : (((((w.alloc (.cells #[.int .i64 0] 104)).alloc (.cells #[.pointer (some ⟨w.heap.size, 0, none⟩)] 106)).alloc (.cells #[.pointer (some ⟨1, 106, none⟩), .pointer (some ⟨w.heap.size + 1, 0, none⟩), .int .u64 150] 113)).alloc (.cells #[.pointer (some ⟨1, 106, none⟩), .pointer (some ⟨w.heap.size + 1, 0, none⟩), .int .u64 150] 113)).alloc (.cells #[.int .i64 c] 104)).heap[w.heap.size]? = some (.cells #[.int .i64 0] 104 (0, 0)) := by
    simp only [World.alloc, Array.getElem?_push, Array.size_push]
    rw [if_neg (by omega), if_neg (by omega), if_neg (by omega), if_neg (by omega), if_pos trivial]
  unfold asW
  simp only [World.setCell, World.cell?]
  rw [Array.getElem?_modify, if_pos rfl, h]
  rfl

theorem z13s (c : Int) (w : World) (hg : w.cell? ⟨0, 0, none⟩ = some (.iface 123 (.agg #[.pointer (some ⟨1, 70, none⟩)]))) : Calls Tryd.prog 56 #[.iface 104 (.agg #[.int .i64 c])] w fun e w' => e = .returned (.int .i64 c) /\ w' = asW w c := by
  have hc := z19v w c
  go_enter Tryd.func56, Tryd.ntmps56
  go_wp2_with (first | (go_at_call 68; refine (z1cb c w hg).mono ?_; rintro e w' ⟨rfl, rfl⟩))
  go_ret
  exact ⟨rfl, rfl⟩

theorem z19u (w : World) (c : Int) : w.heap.size <= (asW w c).heap.size /\ (∀ k, k < w.heap.size -> (asW w c).heap[k]? = w.heap[k]?) /\ (asW w c).tape = w.tape /\ (asW w c).os = w.os /\ (asW w c).output = w.output := by
  unfold asW
  refine ⟨by simp [World.setCell]; omega, fun k hk => ?_, rfl, rfl, rfl⟩
  simp only [World.setCell, World.alloc, Array.getElem?_modify, Array.getElem?_push, Array.size_push]
  rw [if_neg (by omega), if_neg (by omega), if_neg (by omega), if_neg (by omega), if_neg (by omega), if_neg (by omega)]

def errP (v : Value) : Option Int := match v with
  | .nilIface => some 0
  | .iface t (.agg cs) => match cs.toList with
    | [.int .i64 c] => cond (Nat.beq t 104) (some c) none
    | _ => none
  | _ => none

def eV (c : Int) : Value := .iface 104 (.agg #[.int .i64 c])

theorem z194 {v : Value} {c : Int} (h : errP v = some c) : (v = .nilIface /\ c = 0) \/ v = .iface 104 (.agg #[.int .i64 c]) := by
  unfold errP at h
  split at h
  . exact .inl ⟨rfl, (Option.some.inj h).symm⟩
  . rename_i t cs
    split at h
    . rename_i c' hc
      cases ht : Nat.beq t 104 with
      | false => rw [ht] at h; cases h
      | true =>
        rw [ht] at h
        have e1 := Nat.eq_of_beq_eq_true ht
        have e2 : c' = c := Option.some.inj h
        refine .inr ?_
        rw [e1, <- e2]
        congr 2
        apply Array.toList_inj.1
        rw [hc]
    . cases h
  . cases h

theorem zth {w w' : World} {S : Hp} {args : List A} {vals : List Value} {ob : Nat -> List Nat} {rA : A} {rV : Value} {outs : List A} (hS : Lift.Sub S (hp w))
    (hb : ∀ y ∈ args, z9y y = false) (hob : ∀ i, ob i = []) (hw : w.heap.size <= w'.heap.size /\ (∀ k, k < w.heap.size -> w'.heap[k]? = w.heap[k]?) /\ w'.tape = w.tape /\ w'.os = w.os /\ w'.output = w.output) (hr : ∀ S', ARel (hp w') S' (fun _ => undef) rA rV []) (hrr : rA.refs = []) : Lift.Ends w S args vals ob rA outs (.returned rV) w' := by
  obtain ⟨h1, h2, h3, h4, h5⟩ := hw
  refine ⟨rV, S, [], ob, rfl, ⟨h1, fun k hk _ => h2 k hk, h3, h4, h5⟩, Lift.Sub.refl S, fun k q hq => ?_, fun k hk => .inl hk, ⟨hr S, hrr⟩, (fun k hk => by cases hk), .nil, ?_, ?_, ?_, ?_, fun _ h => h⟩
  . have := hS k q hq
    simp only [hp] at this ⊢
    rw [h2 k (Array.getElem?_eq_some_iff.1 this).1]; exact this
  . intro i y hy hbx
    have := hb y (List.mem_of_getElem? hy)
    rw [hbx] at this; cases this
  . intro i k hk
    rw [hob i] at hk; cases hk
  . intro i j k hi
    rw [hob i] at hi; cases hi
  . intro i
    rw [hob i]; exact .nil

theorem zuk {w : World} {S : Hp} (hS : Lift.Sub S (hp w)) (hg : GlobOk glob S) : w.cell? ⟨0, 0, none⟩ = some (.iface 123 (.agg #[.pointer (some ⟨1, 70, none⟩)])) := by
  have h := hg 0 ⟨.opq, .iface 123 (.agg #[.pointer (some ⟨1, 70, none⟩)])⟩ rfl
  obtain ⟨b, off, c1, e, ⟨all, E, fr, c0, c2, h1, h2, h3⟩, h4, _⟩ := VR.ptr_inv h
  have e0 : (some (⟨0, 0, none⟩ : Addr)) = some ⟨b, off, none⟩ := Value.pointer.inj e
  have e1 := Option.some.inj e0
  have eb : b = 0 := (congrArg Addr.block e1).symm
  have eo : off = 0 := (congrArg Addr.off e1).symm
  subst eb eo
  have hw : w.heap[0]? = some (.cells all E fr) := hS 0 _ h1
  simp only [World.cell?, hw]
  have hc0 : c0 = [] := List.length_eq_zero_iff.1 h3
  have : all.toList[0]? = some (.iface 123 (.agg #[.pointer (some ⟨1, 70, none⟩)])) := by
    rw [h2, hc0, h4]; rfl
  simpa using this

def zdc (N : Nat) (v : Value) : Option Int := errP v

def za9 (N : Nat) : List A -> Res := z1i [(0, .v .opq)] (fun x => zdc N x.1) (zap (.v (.int .i64)) 1)

theorem zit (N : Nat) : Contract Tryd.prog glob 56 (za9 N) := by
  refine Contract.hand ⟨_, Tryd.func56, by kernel_rfl, by decide⟩ ?_
  rintro w S vals ob ⟨v, ⟨⟩⟩ y har hS hg hy
  have hy' : errP v = some y := hy
  obtain ⟨⟨u1, e1, r1⟩, _⟩ := har.rel 0 _ rfl
  have hob : ∀ i, ob i = [] := by
    intro i
    match i with
    | 0 => exact r1.2
    | i + 1 => exact har.out _ (by simp [mkS, zct])
  have hv : vals = [u1] := by
    match vals, har.len, e1 with
    | [a], _, h1 => simp at h1; rw [h1]
  subst hv
  have hu := VR.opq_inv r1.1
  subst hu
  have hbx : ∀ y ∈ (mkS [(0, .v .opq)] 0 ((u1, ()) : z2c [(0, .v .opq)])), z9y y = false := by
    intro y hy
    have hy : y ∈ [A.v .opq u1] := hy
    rw [List.mem_singleton.1 hy]; rfl
  rcases z194 hy' with ⟨rfl, rfl⟩ | rfl
  . refine (z13r w).mono fun e w' ⟨h1, h2⟩ => ?_
    subst h1 h2
    exact zth hS hbx hob ⟨by simp, fun k hk => by simp only [World.alloc, Array.getElem?_push]; rw [if_neg (by omega)], rfl, rfl, rfl⟩ (fun S' => ⟨VR.int, rfl⟩) rfl
  . refine (z13s y w (zuk hS hg)).mono fun e w' ⟨h1, h2⟩ => ?_
    subst h1 h2
    exact zth hS hbx hob (z19u w y) (fun S' => ⟨VR.int, rfl⟩) rfl

def zu7 : Code := (Go.Proofs.Tryd.f51.body).getD .skip

def zs2 : List (List Nat × List Nat) := [([0], [1]), ([0, 0, 1], [4, 1]), ([0, 1, 0, 1], [9, 4, 1]), ([1, 1, 0, 1], [1]), ([0, 0, 1, 1, 0, 1], [2, 3]), ([1, 0, 1, 1, 0, 1], [2, 3]), ([0, 1, 1], [2, 3]), ([1, 1, 1], [2, 3])]

def zm2 (N : Nat) : Env := z2x tys glob [(56, za9 N), (58, zei N), (66, ziu N)] [] [] [] false [] []

theorem zvw (N : Nat) : EnvOk Go.Proofs.Tryd.prog (zm2 N) := zl mixed z1f (FnsOk.cons (zit N) (FnsOk.cons ((Contract.up (znq N) glob)) (FnsOk.cons ((Contract.up (zu2 N) glob)) (FnsOk.nil)))) (ItsOk.nil)

def zfc (N : Nat) (t : ((List UInt8) × ((List ((List UInt8) × ((List UInt8) × Unit))) × ((List UInt8) × Unit)))) : Option ((List UInt8) × Int × Unit) :=
 (zbl N t).bind fun y =>
 (zdc N y).bind fun y1 =>
 cond (y1 != (0 : Int))
 (some (([] : List UInt8), (y1, ())))
 ((zbb N t).bind fun y2 =>
 cond (decide (((List.length y2) + (List.length t.2.2.1)) <= 9223372036854775807))
 (some ((y2 ++ t.2.2.1), ((0 : Int), ())))
 (none))

def zs1 (N : Nat) : Tab ((List UInt8) × Int × Unit) := []

theorem zu6 (N : Nat) (x : z2c [(0, .v (.pair .str (.pair (.sl (.pair .str (.pair .str .unit))) (.pair .str .unit))))]) : za3 (zm2 N) N (zs1 N) zs2 Go.Proofs.Tryd.f51 (mkS [(0, .v (.pair .str (.pair (.sl (.pair .str (.pair .str .unit))) (.pair .str .unit))))] 0 x) (z4j (.tup [.str, (.int .i64)]) 1) = zfc N x.1 := by kernel_rfl

def zvv (N : Nat) : List A -> Res := z1i [(0, .v (.pair .str (.pair (.sl (.pair .str (.pair .str .unit))) (.pair .str .unit))))] (fun x => zfc N x.1) (zap (.tup [.str, (.int .i64)]) 1)

theorem zx7 (N : Nat) : Contract Go.Proofs.Tryd.prog glob 51 (zvv N) :=
  Contract.of (E := zm2 N) (H := zs1 N) (L := zs2) (N := N) (body := zu7) (K := (z4j (.tup [.str, (.int .i64)]) 1)) (zvw N) Go.Proofs.Tryd.func51 (by kernel_rfl) (by decide) (fun _ hb => TabOk.nil) (fun x y h => by rw [zu6]; exact h) (z19 (s := (.tup [.str, (.int .i64)])) (m := 1))

def zs0 : Code := (Go.Proofs.Tryd.f36.body).getD .skip

def zq6 : List (List Nat × List Nat) := [([0], [1]), ([0, 0, 1], [6, 1]), ([1, 0, 1], [1]), ([0, 0, 1, 0, 1], [2]), ([1, 0, 1, 0, 1], [2]), ([0, 1, 1], [2]), ([1, 1, 1], [2])]

def ziw (N : Nat) : Env := z2x tys glob [(56, za9 N), (58, zei N), (57, z6r N)] [] [] [] false [] []

theorem zu5 (N : Nat) : EnvOk Go.Proofs.Tryd.prog (ziw N) := zl mixed z1f (FnsOk.cons (zit N) (FnsOk.cons ((Contract.up (znq N) glob)) (FnsOk.cons ((Contract.up (zdf N) glob)) (FnsOk.nil)))) (ItsOk.nil)

def zfb (N : Nat) (t : ((List UInt8) × ((List ((List UInt8) × ((List UInt8) × Unit))) × ((List UInt8) × Unit)))) : Option Int :=
 (z3p N t).bind fun y =>
 (zdc N y).bind fun y1 =>
 cond (y1 != (0 : Int))
 (some (0 : Int))
 ((zbb N t).bind fun y2 =>
 some (Go.IntKind.wrap Go.IntKind.i64 ((((List.length y2) : Nat) : Int) + (32 : Int))))

def zq5 (N : Nat) : Tab Int := []

theorem zrz (N : Nat) (x : z2c [(0, .v (.pair .str (.pair (.sl (.pair .str (.pair .str .unit))) (.pair .str .unit))))]) : za3 (ziw N) N (zq5 N) zq6 Go.Proofs.Tryd.f36 (mkS [(0, .v (.pair .str (.pair (.sl (.pair .str (.pair .str .unit))) (.pair .str .unit))))] 0 x) (z4j (.v (.int .i64)) 1) = zfb N x.1 := by kernel_rfl

def zlo (N : Nat) : List A -> Res := z1i [(0, .v (.pair .str (.pair (.sl (.pair .str (.pair .str .unit))) (.pair .str .unit))))] (fun x => zfb N x.1) (zap (.v (.int .i64)) 1)

theorem zvu (N : Nat) : Contract Go.Proofs.Tryd.prog glob 36 (zlo N) :=
  Contract.of (E := ziw N) (H := zq5 N) (L := zq6) (N := N) (body := zs0) (K := (z4j (.v (.int .i64)) 1)) (zu5 N) Go.Proofs.Tryd.func36 (by kernel_rfl) (by decide) (fun _ hb => TabOk.nil) (fun x y h => by rw [zrz]; exact h) (z19 (s := (.v (.int .i64))) (m := 1))

def zou : Code := (Go.Proofs.Tryd.f19.body).getD .skip

def zk6 : List (List Nat × List Nat) := [([0], [1]), ([0, 1], [3]), ([0, 0, 1, 1], [7, 3]), ([1, 0, 1, 1], [3]), ([0, 0, 1, 0, 1, 1], [2]), ([1, 0, 1, 0, 1, 1], [2]), ([0, 1, 1, 1], [2]), ([1, 1, 1, 1], [2])]

def zcu (N : Nat) : Env := z2x tys glob [(36, zlo N), (20, zb5 N)] [] [] [] false [] []

theorem zq2 (N : Nat) : EnvOk Go.Proofs.Tryd.prog (zcu N) := zl mixed z1f (FnsOk.cons (zvu N) (FnsOk.cons ((Contract.up (zeb N) glob)) (FnsOk.nil))) (ItsOk.nil)

def z5u (N : Nat) (t : ((List UInt8) × ((List ((List UInt8) × ((List UInt8) × Unit))) × ((List UInt8) × Unit)))) : Option Int :=
 (zfb N t).bind fun y =>
 cond (y == (0 : Int))
 (some (0 : Int))
 ((z8p N (Go.IntKind.wrap Go.IntKind.u64 y)).bind fun y1 =>
 some (Go.IntKind.wrap Go.IntKind.i64 ((((List.length y1) : Nat) : Int) + y)))

def zk5 (N : Nat) : Tab Int := []

theorem zot (N : Nat) (x : z2c [(0, .v (.pair .str (.pair (.sl (.pair .str (.pair .str .unit))) (.pair .str .unit))))]) : za3 (zcu N) N (zk5 N) zk6 Go.Proofs.Tryd.f19 (mkS [(0, .v (.pair .str (.pair (.sl (.pair .str (.pair .str .unit))) (.pair .str .unit))))] 0 x) (z4j (.v (.int .i64)) 1) = z5u N x.1 := by kernel_rfl

def zgd (N : Nat) : List A -> Res := z1i [(0, .v (.pair .str (.pair (.sl (.pair .str (.pair .str .unit))) (.pair .str .unit))))] (fun x => z5u N x.1) (zap (.v (.int .i64)) 1)

theorem zr7 (N : Nat) : Contract Go.Proofs.Tryd.prog glob 19 (zgd N) :=
  Contract.of (E := zcu N) (H := zk5 N) (L := zk6) (N := N) (body := zou) (K := (z4j (.v (.int .i64)) 1)) (zq2 N) Go.Proofs.Tryd.func19 (by kernel_rfl) (by decide) (fun _ hb => TabOk.nil) (fun x y h => by rw [zot]; exact h) (z19 (s := (.v (.int .i64))) (m := 1))

def zac : Code := (Go.Proofs.Tryd.f10.body).getD .skip

def zhs : List (List Nat × List Nat) := [([0], [1]), ([0, 0, 1], [10, 1]), ([1, 0, 1], [1]), ([0, 0, 1, 0, 1], [2]), ([1, 0, 1, 0, 1], [2]), ([0, 1, 1], [3, 1]), ([0, 0, 1, 1, 1], [15, 3, 1]), ([1, 0, 1, 1, 1], [3, 1]), ([0, 0, 1, 0, 1, 1, 1], [2]), ([1, 0, 1, 0, 1, 1, 1], [2]), ([0, 1, 1, 1, 1], [1, 3]), ([0, 0, 1, 1, 1, 1, 1], [27, 26, 25, 3]), ([0, 1, 0, 1, 1, 1, 1, 1], [27, 26, 25, 3]), ([0, 0, 0, 1, 0, 1, 1, 1, 1, 1], [28, 25, 27, 3, 26]), ([0, 1, 0, 0, 1, 0, 1, 1, 1, 1, 1], [25, 27, 3, 26]), ([1, 0, 1, 0, 0, 1, 0, 1, 1, 1, 1, 1], [3]), ([0, 0, 0, 1, 1, 0, 0, 1, 0, 1, 1, 1, 1, 1], [5, 3, 27, 26, 25]), ([0, 1, 0, 0, 1, 1, 0, 0, 1, 0, 1, 1, 1, 1, 1], [6, 3, 27, 26, 25]), ([0, 0, 1, 1, 0, 0, 1, 1, 0, 0, 1, 0, 1, 1, 1, 1, 1], [34, 3, 6, 27, 26, 25]), ([1, 0, 1, 1, 0, 0, 1, 1, 0, 0, 1, 0, 1, 1, 1, 1, 1], [3, 6, 27, 26, 25]), ([0, 0, 1, 0, 1, 1, 0, 0, 1, 1, 0, 0, 1, 0, 1, 1, 1, 1, 1], [2]), ([1, 0, 1, 0, 1, 1, 0, 0, 1, 1, 0, 0, 1, 0, 1, 1, 1, 1, 1], [2]), ([1, 1, 1, 0, 0, 1, 1, 0, 0, 1, 0, 1, 1, 1, 1, 1], [27, 26, 25, 3]), ([0, 1, 1, 0, 0, 1, 0, 1, 1, 1, 1, 1], [27, 26, 25, 3]), ([1, 1, 1, 0, 0, 1, 0, 1, 1, 1, 1, 1], [27, 26, 25, 3]), ([1, 0, 1, 1, 1, 1, 1], [3]), ([0, 1, 1, 1, 1, 1, 1], [2]), ([1, 1, 1, 1, 1, 1, 1], [2])]

def zb7 (N : Nat) : Env := z2x tys glob [(19, zgd N), (20, zb5 N)] [] [] [] false [] []

theorem ztk (N : Nat) : EnvOk Go.Proofs.Tryd.prog (zb7 N) := zl mixed z1f (FnsOk.cons (zr7 N) (FnsOk.cons ((Contract.up (zeb N) glob)) (FnsOk.nil))) (ItsOk.nil)

def zf2 (N : Nat) (x25 : (List ((List UInt8) × ((List ((List UInt8) × ((List UInt8) × Unit))) × ((List UInt8) × Unit))))) (x26 : Int) (total : Int) (x27 : Int) (rec : Int -> Int -> Option Int) (k0 : Int -> Option Int) (k1 : Int -> Option Int) : Option Int :=
 cond (decide (x27 < x26))
 (cond (Go.Lift.inR x27 (List.length x25))
 ((z5u N (List.getD x25 (Int.toNat x27) (([] : List UInt8), (([] : List ((List UInt8) × ((List UInt8) × Unit))), (([] : List UInt8), ()))))).bind fun y =>
 cond (y == (0 : Int))
 (k0 (0 : Int))
 (rec (Go.IntKind.wrap Go.IntKind.i64 (total + y)) (Go.IntKind.wrap Go.IntKind.i64 (x27 + (1 : Int)))))
 (none))
 (k1 total)

def zf3 (N : Nat) (total : Int) (x25 : (List ((List UInt8) × ((List ((List UInt8) × ((List UInt8) × Unit))) × ((List UInt8) × Unit))))) (x26 : Int) (x27 : Int) (k0 : Int -> Option Int) (k1 : Int -> Option Int) : Option Int :=
 iter (fun (v : (Int × Int)) r => zf2 N x25 x26 v.1 v.2 (fun total x27 => (r (total, x27))) k0 k1) N (total, x27)

def zlw (N : Nat) (i : ((List ((List UInt8) × ((List ((List UInt8) × ((List UInt8) × Unit))) × ((List UInt8) × Unit)))) × Int)) (v : (Int × Int)) (r : (Int × Int) -> Option Int) (K : Ex -> List A -> Option Int) : Option Int :=
 zf2 N i.1 i.2 v.1 v.2 (fun total x27 => (r (total, x27))) (fun a0 => (K .ret (mkS [(2, .v (.int .i64))] 37 (a0, ())))) (fun a0 => (K (.exit 0) (mkS [(3, .v (.int .i64))] 36 (a0, ()))))

def zlv (N : Nat) : Hd Int := fun st K => (unS [(3, .v (.int .i64)), (21, .v (.sl (.pair .str (.pair (.sl (.pair .str (.pair .str .unit))) (.pair .str .unit))))), (0, .v (.int .i64)), (0, .v (.int .i64))] 12 (restr [27, 26, 25, 3] 0 st)).bind fun x => iter (fun v r => zlw N ((fun x => (x.2.1, x.2.2.1)) x) v r K) N ((fun x => (x.1, x.2.2.2.1)) x)

def zuo (N : Nat) : Tab Int := []

theorem ztj {N : Nat} {c : Ctx} (hb : Base Go.Proofs.Tryd.prog (zb7 N) c) : z12 Go.Proofs.Tryd.prog c (zk zac [0, 1, 0, 1, 1, 1, 1, 1]) (zlv N) :=
  z6z (s := [(3, .v (.int .i64)), (21, .v (.sl (.pair .str (.pair (.sl (.pair .str (.pair .str .unit))) (.pair .str .unit))))), (0, .v (.int .i64)), (0, .v (.int .i64))]) (m := 12) (zlw N) [27, 26, 25, 3] N (fun x => (x.2.1, x.2.2.1)) (fun x => (x.1, x.2.2.2.1)) (fun i v => (v.1, i.1, i.2, v.2, ())) (fun _ => rfl) (zf hb N (zuo N) zhs zac TabOk.nil [0, 0, 1, 0, 1, 1, 1, 1, 1] _ rfl) (fun i v r K => by kernel_rfl)

def zcw (N : Nat) (b : (((List UInt8) × ((List ((List UInt8) × ((List UInt8) × Unit))) × ((List UInt8) × Unit))) × ((List ((List UInt8) × ((List ((List UInt8) × ((List UInt8) × Unit))) × ((List UInt8) × Unit)))) × Unit))) : Option Int :=
 cond (decide ((8 : Int) < (((List.length b.2.1) : Nat) : Int)))
 (some (0 : Int))
 ((z5u N b.1).bind fun y =>
 cond (y == (0 : Int))
 (some (0 : Int))
 ((z8p N (Go.IntKind.wrap Go.IntKind.u64 (((List.length b.2.1) : Nat) : Int))).bind fun y1 =>
 zf3 N (Go.IntKind.wrap Go.IntKind.i64 (y + (((List.length y1) : Nat) : Int))) b.2.1 (((List.length b.2.1) : Nat) : Int) (0 : Int)
 (fun x2 => some x2)
 (fun total => some total)))

def zow (N : Nat) : Tab Int := [([0, 1, 0, 1, 1, 1, 1, 1], zlv N)]

theorem zr8 (N : Nat) (x : z2c [(0, .v (.pair (.pair .str (.pair (.sl (.pair .str (.pair .str .unit))) (.pair .str .unit))) (.pair (.sl (.pair .str (.pair (.sl (.pair .str (.pair .str .unit))) (.pair .str .unit)))) .unit)))]) : za3 (zb7 N) N (zow N) zhs Go.Proofs.Tryd.f10 (mkS [(0, .v (.pair (.pair .str (.pair (.sl (.pair .str (.pair .str .unit))) (.pair .str .unit))) (.pair (.sl (.pair .str (.pair (.sl (.pair .str (.pair .str .unit))) (.pair .str .unit)))) .unit)))] 0 x) (z4j (.v (.int .i64)) 1) = zcw N x.1 := by kernel_rfl

def zk7 (N : Nat) : List A -> Res := z1i [(0, .v (.pair (.pair .str (.pair (.sl (.pair .str (.pair .str .unit))) (.pair .str .unit))) (.pair (.sl (.pair .str (.pair (.sl (.pair .str (.pair .str .unit))) (.pair .str .unit)))) .unit)))] (fun x => zcw N x.1) (zap (.v (.int .i64)) 1)

theorem zup (N : Nat) : Contract Go.Proofs.Tryd.prog glob 10 (zk7 N) :=
  Contract.of (E := zb7 N) (H := zow N) (L := zhs) (N := N) (body := zac) (K := (z4j (.v (.int .i64)) 1)) (ztk N) Go.Proofs.Tryd.func10 (by kernel_rfl) (by decide) (fun _ hb => (TabOk.cons (ztj hb) TabOk.nil)) (fun x y h => by rw [zr8]; exact h) (z19 (s := (.v (.int .i64))) (m := 1))

end
end Go.Proofs.YtaackaafmidjkaaDoorLg

set_option linter.all false
set_option maxRecDepth 100000
namespace Go.Lift
noncomputable section


def BSt (t : T) (w0 : World) (S0 : Hp) (ob0 : List Nat) (bf : Nat) (w : World) (x : t.den) (L : List (Nat × Array Value × Nat)) : Prop :=
 ∃ S o, WF w0 (fun k => k ∈ ob0) w /\ Sub S0 S /\ Sub S (hp w) /\ (∀ k, S k ≠ none -> S0 k ≠ none \/ k ∈ ob0 \/ w0.heap.size <= k) /\ ARel (hp w) S (fun _ => undef) (.box t x) (.pointer (some ⟨bf, 0, none⟩)) o /\ o.Nodup ∧
 (∀ k ∈ o, S k = none /\ (k ∈ ob0 \/ w0.heap.size <= k)) /\ ∀ p ∈ L, S p.1 = none /\ p.1 ∉ o /\ w0.heap.size <= p.1 /\ w.heap[p.1]? = some (.cells p.2.1 p.2.2 (0, 0))

variable {P : Program} {glob : Nat -> Option Dat} {t : T} {w0 w : World} {S0 : Hp} {ob0 : List Nat} {bf : Nat} {x : t.den} {L : List (Nat × Array Value × Nat)}

theorem BSt.lt (h : BSt t w0 S0 ob0 bf w x L) : ∀ p ∈ L, p.1 < w.heap.size := by
  obtain ⟨S, o, _, _, _, _, _, _, _, hL⟩ := h
  exact fun p hp => (Array.getElem?_eq_some_iff.1 (hL p hp).2.2.2).1

theorem BSt.drew (h : BSt t w0 S0 ob0 bf w x L) : BSt t w0 S0 ob0 bf w.drew x L := by
  obtain ⟨S, o, k1, k2⟩ := h
  exact ⟨S, o, ⟨k1.size, k1.same, k1.tape, k1.os, k1.output⟩, k2⟩

theorem BSt.cell (h : BSt t w0 S0 ob0 bf w x L) {p : Nat} {cs : Array Value} {E i : Nat} {v : Value} (hm : (p, cs, E) ∈ L) (hi : cs[i]? = some v) : w.cell? ⟨p, i, none⟩ = some v := by
  obtain ⟨S, o, _, _, _, _, _, _, _, hL⟩ := h
  have := (hL _ hm).2.2.2
  simp only at this
  simp [World.cell?, this, hi]

theorem BSt.plain {f : FuncId} {g : List A -> Res} (ct : Contract P glob f g) (hg : ∀ S, GlobOk glob S) (h : BSt t w0 S0 ob0 bf w x L) {args : List A} {vals : List Value}
    (hrel : ∀ S, Sub S (hp w) -> ArgsRel (hp w) S args vals (fun _ => [])) {y : (g args).X} (hy : (g args).val = some y) :
    Calls P f vals.toArray w fun e w' => ∃ v S' o', e = .returned v /\ ARel (hp w') S' (fun _ => undef) ((g args).out y).1 v o' /\ BSt t w0 S0 ob0 bf w' x L := by
  have h' := h
  obtain ⟨S, o, h1, h2, h3, h4, h5, h6, h7, hL⟩ := h'
  refine ((ct.2 w S args vals _ (hrel S h3) h3 (hg S) y hy)).mono ?_
  rintro e w' ⟨v, S', q, ob', rfl, hwf, hSS, hSw, hnew, ⟨hr, _⟩, _⟩
  refine ⟨v, S', q, rfl, hr, ?_⟩
  have hwf' : WF w (fun _ => False) w' := ⟨hwf.size, fun k hk _ => hwf.same k hk (by rintro ⟨i, hi⟩; cases hi), hwf.tape, hwf.os, hwf.output⟩
  have hlt : ∀ k ∈ o, k < w.heap.size := fun k hk => by
    obtain ⟨ob, hob⟩ := h5.obj k hk
    exact (Array.getElem?_eq_some_iff.1 hob.1).1
  have hnw : ∀ k, k < w.heap.size -> S' k ≠ none -> S k ≠ none := fun k hk hs => by
    rcases hnew k hs with h | ⟨i, hi⟩ | h
    . exact h
    . cases hi
    . omega
  refine ⟨S', o, h1.trans hwf' (fun _ h => h.elim), h2.trans hSS, hSw, fun k hk => ?_, ?_, h6, fun k hk => ⟨?_, (h7 k hk).2⟩, fun p hp => ?_⟩
  . rcases hnew k hk with h | ⟨i, hi⟩ | h
    . exact h4 k h
    . cases hi
    . exact .inr (.inr (Nat.le_trans h1.size h))
  . obtain ⟨b, cs, E, fr, bs, rfl, e1, e2, e3, e4⟩ := h5
    refine ⟨b, cs, E, fr, bs, rfl, e1, ?_, e3, e4.mono hSS _ _ _ _ (fun k hk => hwf'.same k (hlt k (by simp [hk])) (fun h => h))⟩
    have := hwf'.same b (hlt b (by simp)) (fun h => h)
    simp only [hp] at e2 ⊢
    rw [this]; exact e2
  . cases hs : S' k with
    | none => rfl
    | some q => exact absurd (h7 k hk).1 (hnw k (hlt k hk) (by rw [hs]; simp))
  . obtain ⟨p1, p2, p3, p4⟩ := hL p hp
    have hl := (Array.getElem?_eq_some_iff.1 p4).1
    refine ⟨?_, p2, p3, ?_⟩
    . cases hs : S' p.1 with
      | none => rfl
      | some q => exact absurd p1 (hnw _ hl (by rw [hs]; simp))
    . rw [hwf'.same p.1 hl (fun h => h)]; exact p4

theorem z12a {S : Hp} {v : Value} {o : List Nat} {args : List A} {vals : List Value} (h5 : ARel (hp w) S (fun _ => undef) (.box t x) v o) (h6 : o.Nodup) (h7 : ∀ k ∈ o, S k = none) (hr0 : ArgsRel (hp w) S args vals (fun _ => [])) :
    ArgsRel (hp w) S (.box t x :: args) (v :: vals) (fun i => if i = 0 then o else []) := by
  refine ⟨by simp [hr0.len], fun i q hq => ?_, fun i hi => ?_, fun i j b hi hj => ?_, fun i => ?_, fun i b hb => ?_⟩
  . cases i with
    | zero =>
      simp at hq; subst hq
      exact ⟨⟨_, rfl, by simpa using h5⟩, rfl⟩
    | succ i =>
      obtain ⟨⟨v, hv, ha⟩, hrf⟩ := hr0.rel i q (by simpa using hq)
      exact ⟨⟨v, by simpa using hv, by simpa using ha⟩, hrf⟩
  . rw [if_neg (by intro e; subst e; simp at hi)]
  . by_cases hi0 : i = 0 <;> by_cases hj0 : j = 0 <;> simp_all
  . by_cases hi0 : i = 0 <;> simp [hi0, h6]
  . by_cases hi0 : i = 0
    . rw [if_pos hi0] at hb; exact h7 b hb
    . rw [if_neg hi0] at hb; cases hb

theorem BSt.alloc (h : BSt t w0 S0 ob0 bf w x L) (cs : Array Value) (E : Nat) : BSt t w0 S0 ob0 bf (w.alloc (.cells cs E)) x ((w.heap.size, cs, E) :: L) := by
  have hlt := h.lt
  obtain ⟨S, o, h1, h2, h3, h4, h5, h6, h7, hL⟩ := h
  have hh : (w.alloc (.cells cs E)).heap = w.heap.push (.cells cs E (0, 0)) := rfl
  have hk : ∀ k, k < w.heap.size -> (w.alloc (.cells cs E)).heap[k]? = w.heap[k]? := fun k hk => by
    rw [hh, Array.getElem?_push, if_neg (by omega)]
  have hol : ∀ k ∈ o, k < w.heap.size := fun k hk => by
    obtain ⟨ob, hob⟩ := h5.obj k hk
    exact (Array.getElem?_eq_some_iff.1 hob.1).1
  refine ⟨S, o, ⟨by rw [hh, Array.size_push]; have := h1.size; omega, fun k h1' h2' => by rw [hk k (by have := h1.size; omega)]; exact h1.same k h1' h2', h1.tape, h1.os, h1.output⟩, h2, fun k q ho => ?_, h4, ?_, h6, h7, fun p hpm => ?_⟩
  . have := h3 k q ho
    simp only [hp] at this ⊢
    rw [hk k (Array.getElem?_eq_some_iff.1 this).1]
    exact this
  . obtain ⟨b, c1, E', fr, bs, rfl, e1, e2, e3, e4⟩ := h5
    refine ⟨b, c1, E', fr, bs, rfl, e1, ?_, e3, e4.mono (Sub.refl _) _ _ _ _ (fun k hkm => hk k (hol k (by simp [hkm])))⟩
    simp only [hp] at e2 ⊢
    rw [hk b (hol b (by simp))]; exact e2
  . rcases List.mem_cons.1 hpm with rfl | hpm
    . refine ⟨?_, fun hm => absurd (hol _ hm) (by simp), h1.size, ?_⟩
      . cases hs : S w.heap.size with
        | none => rfl
        | some q =>
          have := h3 _ _ hs
          simp only [hp] at this
          have := (Array.getElem?_eq_some_iff.1 this).1
          omega
      . simp only
        rw [hh, Array.getElem?_push, if_pos rfl]
    . obtain ⟨p1, p2, p3, p4⟩ := hL p hpm
      exact ⟨p1, p2, p3, by rw [hk p.1 (hlt p hpm)]; exact p4⟩

theorem BSt.put {p : Nat} {cs : Array Value} {E : Nat} (h : BSt t w0 S0 ob0 bf w x ((p, cs, E) :: L)) (hd : ∀ q ∈ L, q.1 ≠ p) {w' : World} {cs' : Array Value} (hw : w' = z14 w p (.cells cs' E (0, 0))) : BSt t w0 S0 ob0 bf w' x ((p, cs', E) :: L) := by
  obtain ⟨S, o, h1, h2, h3, h4, h5, h6, h7, hL⟩ := h
  obtain ⟨q1, q2, q3, q4⟩ := hL (p, cs, E) (List.mem_cons_self ..)
  simp only at q1 q2 q3 q4
  have hne : ∀ k, k ≠ p -> w'.heap[k]? = w.heap[k]? := fun k hk => by
    have := zh (w := w) (o := .cells cs' E (0, 0)) hk
    rw [hw]; exact this
  have hsz : w'.heap.size = w.heap.size := by rw [hw]; simp [z14]
  refine ⟨S, o, ⟨by rw [hsz]; exact h1.size, fun k h1' h2' => by rw [hne k (by omega)]; exact h1.same k h1' h2', by rw [hw]; exact h1.tape, by rw [hw]; exact h1.os, by rw [hw]; exact h1.output⟩, h2, fun k q ho => ?_, h4, ?_, h6, h7, fun u hu => ?_⟩
  . have hk : k ≠ p := fun e => by rw [e, q1] at ho; cases ho
    have := h3 k q ho
    simp only [hp] at this ⊢
    rw [hne k hk]
    exact this
  . obtain ⟨b, c1, E', fr, bs, rfl, e1, e2, e3, e4⟩ := h5
    refine ⟨b, c1, E', fr, bs, rfl, e1, ?_, e3, e4.mono (Sub.refl _) _ _ _ _ (fun k hkm => hne k (fun e => q2 (by simp [<- e, hkm])))⟩
    simp only [hp] at e2 ⊢
    rw [hne b (fun e => q2 (by simp [<- e]))]; exact e2
  . rcases List.mem_cons.1 hu with rfl | hu
    . refine ⟨q1, q2, q3, ?_⟩
      rw [hw]
      exact z1z q4
    . obtain ⟨p1, p2, p3, p4⟩ := hL u (List.mem_cons_of_mem _ hu)
      exact ⟨p1, p2, p3, by rw [hne u.1 (hd u hu)]; exact p4⟩

theorem BSt.setCell {p : Nat} {cs : Array Value} {E : Nat} (h : BSt t w0 S0 ob0 bf w x ((p, cs, E) :: L)) (hd : ∀ q ∈ L, q.1 ≠ p) (i : Nat) (v : Value) :
    BSt t w0 S0 ob0 bf (w.setCell ⟨p, i, none⟩ v) x ((p, cs.setIfInBounds i v, E) :: L) := by
  have hb : hp w p = some (.cells cs E (0, 0)) := by
    obtain ⟨S, o, _, _, _, _, _, _, _, hL⟩ := h
    exact (hL _ (List.mem_cons_self ..)).2.2.2
  exact h.put hd (zpc v hb)

theorem BSt.start {args : List A} {vals : List Value} {ob : Nat -> List Nat} (har : ArgsRel (hp w) S0 (.box t x :: args) vals ob) (hS : Sub S0 (hp w)) :
    ∃ bf vs, vals = .pointer (some ⟨bf, 0, none⟩) :: vs /\ ob 0 ≠ [] /\ BSt t w S0 (ob 0) bf w x [] := by
  obtain ⟨⟨v, hv, hr⟩, _⟩ := har.rel 0 _ rfl
  have hr' := hr
  obtain ⟨b, cs, E, fr, bs, hob, rfl, _⟩ := hr'
  cases vals with
  | nil => cases hv
  | cons v vs =>
    cases hv
    exact ⟨b, vs, rfl, by rw [hob]; simp, S0, ob 0, WF.refl _ _, Sub.refl _, hS, fun _ h => .inl h, hr, har.nd 0, fun k hk => ⟨har.hid 0 k hk, .inl hk⟩, fun p hp => by cases hp⟩

end
end Go.Lift
