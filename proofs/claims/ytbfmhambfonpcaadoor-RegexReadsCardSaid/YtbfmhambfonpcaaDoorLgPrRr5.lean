import Derived.Test.YtbfmhambfonpcaaDoorLgPrRr3
import Derived.Test.YtbfmhambfonpcaaDoorLgPn
import Derived.Test.YtbfmhambfonpcaaDoorLgPrRr4
import Derived.WalkKit
import Derived.Tactics
import Derived.Tactics2
import Derived.Defers
import Derived.Lib.Hide
import Derived.Below
import Derived.Recover
import Derived.Orders
import Derived.WalkSmall
import Derived.LoopN
import Derived.Test.YtbfmhambfonpcaaDoorChecked
import Derived.KernelRfl
set_option linter.all false
set_option maxRecDepth 100000
namespace Go.Proofs.YtbfmhambfonpcaaDoorLg
noncomputable section
open Go Go.Lift

abbrev PrsT : T := .pair .str TT6

theorem fail_walk {w : World} {v : Value} {e at_ : Int} :
    Calls Tryd.prog 20 #[v, .int .i64 e, .int .i64 at_] w fun r w' => r = .panicked [{ v := .iface 36 (.agg #[.int .i64 e, .int .i64 at_]), recovered := false }] /\ w' = w := by
  go_enter Tryd.func20, Tryd.ntmps20
  go_wp2
  exact ⟨rfl, rfl, rfl⟩

def zo (N : Nat) : List A -> PnRes := zh1 [(0, .box TT4), (0, .v (.int .i64)), (0, .v (.int .i64))] (fun x => some ((x.2.1, (x.2.2.1, ())) : Int × (Int × Unit))) (fun z => ⟨.pair (.int .i64) (.pair (.int .i64) .unit), z⟩)

theorem zz (N : Nat) : ContractP Tryd.prog glob 20 36 (zo N) := by
  refine ContractP.hand ⟨_, Tryd.func20, by kernel_rfl, by decide⟩ ?_
  intro w S vals ob x y har hS hg hy
  obtain ⟨x, n, m, u⟩ := x
  cases u
  obtain ⟨⟨v0, hv0, hA0⟩, _⟩ := har.rel 0 _ rfl
  obtain ⟨⟨v1, hv1, hA1⟩, _⟩ := har.rel 1 _ rfl
  obtain ⟨⟨v2, hv2, hA2⟩, _⟩ := har.rel 2 _ rfl
  have hlen := har.len
  have hvals : vals = [v0, v1, v2] := by
    match vals, hlen with
    | [a, b, c], _ => cases hv0; cases hv1; cases hv2; rfl
  have e1 := VR.int_inv hA1.1
  have e2 := VR.int_inv hA2.1
  subst e1
  subst e2
  subst hvals
  cases hy
  refine fail_walk.mono ?_
  rintro r w' ⟨rfl, rfl⟩
  exact ⟨rfl, WF.refl _ _, hS⟩

def zuq : Code := (Tryd.f56.body).getD .skip

def L_62 : List (List Nat × List Nat) := [([0], [0]), ([0, 0, 1], [12, 0]), ([1, 0, 1], [0]), ([0, 1, 0, 1], [0]), ([0, 1, 1], [2, 0]), ([1, 1, 1], [2, 0])]

def E_62 (N : Nat) : Env := z27 tys glob [] [] [] [0] false [] []

theorem z1m9 (N : Nat) : EnvOk Tryd.prog (E_62 N) := zi mixed z16 (FnsOk.nil) (ItsOk.nil)

def z4g (N : Nat) : PnT := pnT [(20, 36, zo N)]

theorem z9f (N : Nat) : PnOk Tryd.prog glob (z4g N) := PnOk.cons (zz N) (PnOk.nil)

def z5v (N : Nat) (p : DT5) (k0 : (Int × (Int × Unit)) -> Option (Int × (Int × Unit))) (k1 : Option (Int × (Int × Unit))) : Option (Int × (Int × Unit)) :=
 cond (p.2.1 == (((List.length p.1) : Nat) : Int))
 (k0 ((1 : Int), (p.2.1, ())))
 (k1)

def z1ju (N : Nat) (x : z1a [(0, .box TT4)]) (K : ExP -> List A -> Option (Int × (Int × Unit))) : Option (Int × (Int × Unit)) :=
 z5v N x.1 (fun a0 => (K (.pan 36) (mkS [(0, .v TT6)] 0 (a0, ())))) (K .normal (mkS [(0, .box TT4)] 27 (x.1, ())))

def z1go (N : Nat) : HdP (Int × (Int × Unit)) := fun st K => (unS [(0, .box TT4)] 27 (restr [0] 0 st)).bind fun x => z1ju N x K

def t1_62 (N : Nat) : zcr (Int × (Int × Unit)) := []

theorem z1d7 {N : Nat} {c : Ctx} (hb : Base Tryd.prog (E_62 N) c) (hP : PnOk Tryd.prog glob (z4g N)) : z22 Tryd.prog c (zf zuq [0, 1]) (z1go N) :=
  z25 (s := [(0, .box TT4)]) (m := 27) (g := z1ju N) [0] (z1n hb hP N (t1_62 N) L_62 zuq TabOkP.nil [0, 1] _ rfl) (fun x K => by kernel_rfl)

def z1j (N : Nat) (p : DT5) : Option (Int × (Int × Unit)) :=
 z5v N p
 (fun p1 => some p1)
 (cond (inR p.2.1 (List.length p.1))
 (none)
 (none))

def t_62 (N : Nat) : zcr (Int × (Int × Unit)) := [([0, 1], z1go N)]

theorem z16m (N : Nat) (x : z1a [(0, .box TT4)]) : zh3 (E_62 N) (z4g N) N (t_62 N) L_62 Tryd.f56 36 TT6 (mkS [(0, .box TT4)] 0 x) (fun z => some z) = z1j N x.1 := by kernel_rfl

def z1w (N : Nat) : List A -> PnRes := zh1 [(0, .box TT4)] (fun x => z1j N x.1) (fun z => ⟨TT6, z⟩)

theorem z2v (N : Nat) : ContractP Tryd.prog glob 56 36 (z1w N) :=
  ContractP.of (E := E_62 N) (Pn := z4g N) (H := t_62 N) (L := L_62) (N := N) (body := zuq) (t := TT6) (z1m9 N) (z9f N) Tryd.func56 (by kernel_rfl) (by decide) (fun _ hb => (TabOkP.cons (z1d7 hb (z9f N)) TabOkP.nil)) (fun x y h => by rw [z16m]; exact h)

def zup : Code := (Tryd.f46.body).getD .skip

def L_63 : List (List Nat × List Nat) := [([0, 0], [7, 0]), ([1, 0], [0]), ([0, 1, 0], [0]), ([1], [0])]

def E_63 (N : Nat) : Env := z27 tys glob [(56, z14 N)] [] [] [0] false [] []

theorem z1m8 (N : Nat) : EnvOk Tryd.prog (E_63 N) := zi mixed z16 (FnsOk.cons (z1f N) (FnsOk.nil)) (ItsOk.nil)

def z4h (N : Nat) : PnT := pnT [(56, 36, z1w N), (20, 36, zo N)]

theorem z9g (N : Nat) : PnOk Tryd.prog glob (z4h N) := PnOk.cons (z2v N) (PnOk.cons (zz N) (PnOk.nil))

def z5w (N : Nat) (p : DT5) (b : Int) (k0 : (Int × (Int × Unit)) -> Option (Int × (Int × Unit))) (k1 : DT5 -> Option (Int × (Int × Unit))) : Option (Int × (Int × Unit)) :=
 orP ((z1j N p)) (fun z => k0 z)
 ((z17 N p).bind fun y =>
 cond (y.1 != b)
 (k0 ((2 : Int), (y.2.1.2.1, ())))
 (k1 y.2.1))

def z1jt (N : Nat) (x : z1a zoh) (K : ExP -> List A -> Option (Int × (Int × Unit))) : Option (Int × (Int × Unit)) :=
 z5w N x.1 x.2.1 (fun a0 => (K (.pan 36) (mkS [(0, .v TT6)] 0 (a0, ())))) (fun a0 => (K .normal (mkS [(0, .box TT4)] 20 (a0, ()))))

def z1gn (N : Nat) : HdP (Int × (Int × Unit)) := fun st K => (unS zoh 19 (restr [0, 1] 0 st)).bind fun x => z1jt N x K

def t1_63 (N : Nat) : zcr (Int × (Int × Unit)) := []

theorem z1d6 {N : Nat} {c : Ctx} (hb : Base Tryd.prog (E_63 N) c) (hP : PnOk Tryd.prog glob (z4h N)) : z22 Tryd.prog c (zf zup [0]) (z1gn N) :=
  z25 (s := zoh) (m := 19) (g := z1jt N) [0, 1] (z1n hb hP N (t1_63 N) L_63 zup TabOkP.nil [0] _ rfl) (fun x K => by kernel_rfl)

def z1c (N : Nat) (p : DT5) (b : Int) : Option (Int × (Int × Unit)) :=
 z5w N p b
 (fun p1 => some p1)
 (fun p2 => none)

def t_63 (N : Nat) : zcr (Int × (Int × Unit)) := [([0], z1gn N)]

theorem z16l (N : Nat) (x : z1a zoh) : zh3 (E_63 N) (z4h N) N (t_63 N) L_63 Tryd.f46 36 TT6 (mkS zoh 0 x) (fun z => some z) = z1c N x.1 x.2.1 := by kernel_rfl

def z2j (N : Nat) : List A -> PnRes := zh1 zoh (fun x => z1c N x.1 x.2.1) (fun z => ⟨TT6, z⟩)

theorem z42 (N : Nat) : ContractP Tryd.prog glob 46 36 (z2j N) :=
  ContractP.of (E := E_63 N) (Pn := z4h N) (H := t_63 N) (L := L_63) (N := N) (body := zup) (t := TT6) (z1m8 N) (z9g N) Tryd.func46 (by kernel_rfl) (by decide) (fun _ hb => (TabOkP.cons (z1d6 hb (z9g N)) TabOkP.nil)) (fun x y h => by rw [z16l]; exact h)

def zbr : Code := (Tryd.f45.body).getD .skip

def z150 : List (List Nat × List Nat) := [([0], [0]), ([0, 1], [0, 3]), ([0, 0, 1, 1], [12, 0, 3]), ([1, 0, 1, 1], [0, 3]), ([0, 1, 0, 1, 1], [0, 3]), ([0, 1, 1, 1], [0, 4, 3]), ([0, 0, 1, 1, 1, 1], [0, 4, 3]), (z11u, [37, 4, 0, 3]), (z11t, [4, 0, 3]), (z1le, [0, 3, 4]), ([0, 0, 1, 0, 0, 0, 1, 1, 1, 1], [0, 4, 3]), ([1, 0, 1, 0, 0, 0, 1, 1, 1, 1], [0, 4, 3]), (z11s, [0, 4, 3]), ([0, 1, 1, 1, 1], [0, 3, 4]), (zkf, [75, 0, 3, 4]), (zyg, [4, 0, 3]), (zyk, [4, 0, 3]), (zyh, [80, 0, 3, 4]), (z19b, [4, 0]), (z1ll, [4, 0]), (z11y, [2, 0]), (z13l, [2, 0])]

def z13n (N : Nat) : Env := z27 tys glob [(56, z14 N), (60, z7w N)] [] [] [0] false [] []

theorem z1m7 (N : Nat) : EnvOk Tryd.prog (z13n N) := zi mixed z16 (FnsOk.cons (z1f N) (FnsOk.cons (zbv N) (FnsOk.nil))) (ItsOk.nil)

def z1d (N : Nat) : PnT := pnT [(56, 36, z1w N), (20, 36, zo N)]

theorem z41 (N : Nat) : PnOk Tryd.prog glob (z1d N) := PnOk.cons (z2v N) (PnOk.cons (zz N) (PnOk.nil))

def z6n (N : Nat) (p : DT5) (from_ : Int) (k0 : (Int × (Int × Unit)) -> Option (Int × (Int × Unit))) (k1 : DT5 -> Option (Int × (Int × Unit))) : Option (Int × (Int × Unit)) :=
 orP ((z1j N p)) (fun z => k0 z)
 ((z17 N p).bind fun y =>
 (z5m N y.1).bind fun y1 =>
 cond (!y1)
 (k0 ((2 : Int), (from_, ())))
 (k1 y.2.1))

def z1js (N : Nat) (x : z1a z14t) (K : ExP -> List A -> Option (Int × (Int × Unit))) : Option (Int × (Int × Unit)) :=
 z6n N x.1 x.2.1 (fun a0 => (K (.pan 36) (mkS [(0, .v TT6)] 0 (a0, ())))) (fun a0 => (K .normal (mkS z14t 81 (a0, x.2.1, ()))))

def z1gm (N : Nat) : HdP (Int × (Int × Unit)) := fun st K => (unS z14t 81 (restr [0, 3] 0 st)).bind fun x => z1js N x K

def t1_64 (N : Nat) : zcr (Int × (Int × Unit)) := []

theorem z1d5 {N : Nat} {c : Ctx} (hb : Base Tryd.prog (z13n N) c) (hP : PnOk Tryd.prog glob (z1d N)) : z22 Tryd.prog c (zf zbr [0, 1, 1]) (z1gm N) :=
  z25 (s := z14t) (m := 81) (g := z1js N) [0, 3] (z1n hb hP N (t1_64 N) z150 zbr TabOkP.nil [0, 1, 1] _ rfl) (fun x K => by kernel_rfl)

def z4f (N : Nat) (p : DT5) (from_ : Int) (n : Int) (k0 : Option (Int × (Int × Unit))) (k1 : Option (Int × (Int × Unit))) : Option (Int × (Int × Unit)) :=
 cond (decide (p.2.1 < (((List.length p.1) : Nat) : Int)))
 (cond (inR p.2.1 (List.length p.1))
 ((z5m N (((UInt8.toNat (List.getD p.1 (Int.toNat p.2.1) (0 : UInt8))) : Nat) : Int)).bind fun y =>
 cond y
 (k0)
 (k1))
 (none))
 (k1)

def z1i3 (N : Nat) (x : z1a SQ0) (K : ExP -> List A -> Option (Int × (Int × Unit))) : Option (Int × (Int × Unit)) :=
 z4f N x.1 x.2.1 x.2.2.1 (K .normal (mkS SQ0 80 (x.1, x.2.1, x.2.2.1, ()))) (K (.exit 0) (mkS SQ0 80 (x.1, x.2.1, x.2.2.1, ())))

def z1ex (N : Nat) : HdP (Int × (Int × Unit)) := fun st K => (unS SQ0 80 (restr [0, 4, 3] 0 st)).bind fun x => z1i3 N x K

def t4_64 (N : Nat) : zcr (Int × (Int × Unit)) := []

theorem z1bg {N : Nat} {c : Ctx} (hb : Base Tryd.prog (z13n N) c) (hP : PnOk Tryd.prog glob (z1d N)) : z22 Tryd.prog c (zf zbr zyj) (z1ex N) :=
  z25 (s := SQ0) (m := 80) (g := z1i3 N) [0, 4, 3] (z1n hb hP N (t4_64 N) z150 zbr TabOkP.nil zyj _ rfl) (fun x K => by kernel_rfl)

def z1s (N : Nat) (from_ : Int) (p : DT5) (n : Int) (rec : DT5 -> Int -> Option (Int × (Int × Unit))) (k0 : DT5 -> Int -> Option (Int × (Int × Unit))) : Option (Int × (Int × Unit)) :=
 z4f N p from_ n
 (cond (inR p.2.1 (List.length p.1))
 (rec (p.1, ((IntKind.wrap IntKind.i64 (p.2.1 + (1 : Int))), p.2.2)) (if ((17 : Int) < (IntKind.wrap IntKind.i64 ((IntKind.wrap IntKind.i64 ((10 : Int) * n)) + (IntKind.wrap IntKind.i64 (IntKind.wrap IntKind.u8 ((((UInt8.toNat (List.getD p.1 (Int.toNat p.2.1) (0 : UInt8))) : Nat) : Int) - (48 : Int))))))) then (17 : Int) else (IntKind.wrap IntKind.i64 ((IntKind.wrap IntKind.i64 ((10 : Int) * n)) + (IntKind.wrap IntKind.i64 (IntKind.wrap IntKind.u8 ((((UInt8.toNat (List.getD p.1 (Int.toNat p.2.1) (0 : UInt8))) : Nat) : Int) - (48 : Int))))))))
 (none))
 (k0 p n)

def zat (N : Nat) (p : DT5) (from_ : Int) (n : Int) (k0 : DT5 -> Int -> Option (Int × (Int × Unit))) : Option (Int × (Int × Unit)) :=
 iter (fun (v : (DT5 × Int)) r => z1s N from_ v.1 v.2 (fun p n => (r (p, n))) k0) N (p, n)

def z1ic (N : Nat) (i : Int) (v : (DT5 × Int)) (r : (DT5 × Int) -> Option (Int × (Int × Unit))) (K : ExP -> List A -> Option (Int × (Int × Unit))) : Option (Int × (Int × Unit)) :=
 z1s N i v.1 v.2 (fun p n => (r (p, n))) (fun a0 a2 => (K (.exit 0) (mkS SQ0 80 (a0, i, a2, ()))))

def z1f6 (N : Nat) : HdP (Int × (Int × Unit)) := fun st K => (unS SQ0 80 (restr [0, 4, 3] 0 st)).bind fun x => iter (fun v r => z1ic N ((fun x => x.2.1) x) v r K) N ((fun x => (x.1, x.2.2.1)) x)

def t3_64 (N : Nat) : zcr (Int × (Int × Unit)) := [(zyj, z1ex N)]

theorem z1bp {N : Nat} {c : Ctx} (hb : Base Tryd.prog (z13n N) c) (hP : PnOk Tryd.prog glob (z1d N)) : z22 Tryd.prog c (zf zbr [0, 0, 1, 1, 1, 1]) (z1f6 N) :=
  zm5 (s := SQ0) (m := 80) (z1ic N) [0, 4, 3] N (fun x => x.2.1) (fun x => (x.1, x.2.2.1)) (fun i v => (v.1, i, v.2, ())) (fun _ => rfl) (z1n hb hP N (t3_64 N) z150 zbr (TabOkP.cons (z1bg hb hP) TabOkP.nil) [0, 0, 0, 1, 1, 1, 1] _ rfl) (fun i v r K => by kernel_rfl)

def z6m (N : Nat) (p : DT5) (from_ : Int) (n : Int) (k0 : DT5 -> Int -> Option (Int × (Int × Unit))) : Option (Int × (Int × Unit)) :=
 zat N p from_ n
 (fun p1 n1 => k0 p1 n1)

def z1iu (N : Nat) (x : z1a SQ0) (K : ExP -> List A -> Option (Int × (Int × Unit))) : Option (Int × (Int × Unit)) :=
 z6m N x.1 x.2.1 x.2.2.1 (fun a0 a2 => (K .normal (mkS SQ0 80 (a0, x.2.1, a2, ()))))

def z1fo (N : Nat) : HdP (Int × (Int × Unit)) := fun st K => (unS SQ0 80 (restr [0, 4, 3] 0 st)).bind fun x => z1iu N x K

def t2_64 (N : Nat) : zcr (Int × (Int × Unit)) := [([0, 0, 1, 1, 1, 1], z1f6 N)]

theorem z1c7 {N : Nat} {c : Ctx} (hb : Base Tryd.prog (z13n N) c) (hP : PnOk Tryd.prog glob (z1d N)) : z22 Tryd.prog c (zf zbr [0, 1, 1, 1, 1]) (z1fo N) :=
  z25 (s := SQ0) (m := 80) (g := z1iu N) [0, 4, 3] (z1n hb hP N (t2_64 N) z150 zbr (TabOkP.cons (z1bp hb hP) TabOkP.nil) [0, 1, 1, 1, 1] _ rfl) (fun x K => by kernel_rfl)

def z6k (N : Nat) (p : DT5) (from_ : Int) (n : Int) (k0 : Bool -> Option (Int × (Int × Unit))) : Option (Int × (Int × Unit)) :=
 cond (inR from_ (List.length p.1))
 (cond ((((UInt8.toNat (List.getD p.1 (Int.toNat from_) (0 : UInt8))) : Nat) : Int) == (48 : Int))
 (k0 (decide ((IntKind.wrap IntKind.i64 (from_ + (1 : Int))) < p.2.1)))
 (k0 false))
 (none)

def z1hv (N : Nat) (x : z1a SQ0) (K : ExP -> List A -> Option (Int × (Int × Unit))) : Option (Int × (Int × Unit)) :=
 z6k N x.1 x.2.1 x.2.2.1 (fun a3 => (K .normal (mkS [(0, .box TT4), (2, .v (.int .i64)), (0, .v (.int .i64)), (70, .v .bool)] 9 (x.1, x.2.1, x.2.2.1, a3, ()))))

def z1ep (N : Nat) : HdP (Int × (Int × Unit)) := fun st K => (unS SQ0 80 (restr [0, 3, 4] 0 st)).bind fun x => z1hv N x K

def t6_64 (N : Nat) : zcr (Int × (Int × Unit)) := []

theorem z1b8 {N : Nat} {c : Ctx} (hb : Base Tryd.prog (z13n N) c) (hP : PnOk Tryd.prog glob (z1d N)) : z22 Tryd.prog c (zf zbr zkf) (z1ep N) :=
  z25 (s := SQ0) (m := 80) (g := z1hv N) [0, 3, 4] (z1n hb hP N (t6_64 N) z150 zbr TabOkP.nil zkf _ rfl) (fun x K => by kernel_rfl)

def z6l (N : Nat) (p : DT5) (from_ : Int) (n : Int) (k0 : (Int × (Int × Unit)) -> Option (Int × (Int × Unit))) (k1 : Option (Int × (Int × Unit))) : Option (Int × (Int × Unit)) :=
 z6k N p from_ n
 (fun x75 => cond x75
 (k0 ((2 : Int), (from_, ())))
 (k1))

def z1hy (N : Nat) (x : z1a SQ0) (K : ExP -> List A -> Option (Int × (Int × Unit))) : Option (Int × (Int × Unit)) :=
 z6l N x.1 x.2.1 x.2.2.1 (fun a0 => (K (.pan 36) (mkS [(0, .v TT6)] 0 (a0, ())))) (K .normal (mkS SQ0 80 (x.1, x.2.1, x.2.2.1, ())))

def z1es (N : Nat) : HdP (Int × (Int × Unit)) := fun st K => (unS SQ0 80 (restr [0, 3, 4] 0 st)).bind fun x => z1hy N x K

def t5_64 (N : Nat) : zcr (Int × (Int × Unit)) := [(zkf, z1ep N)]

theorem z1bb {N : Nat} {c : Ctx} (hb : Base Tryd.prog (z13n N) c) (hP : PnOk Tryd.prog glob (z1d N)) : z22 Tryd.prog c (zf zbr [0, 1, 1, 1, 1, 1]) (z1es N) :=
  z25 (s := SQ0) (m := 80) (g := z1hy N) [0, 3, 4] (z1n hb hP N (t5_64 N) z150 zbr (TabOkP.cons (z1b8 hb hP) TabOkP.nil) [0, 1, 1, 1, 1, 1] _ rfl) (fun x K => by kernel_rfl)

def z3a (N : Nat) (p : DT5) : Option (Int × (Int × Unit)) :=
 z6n N p p.2.1
 (fun p1 => some p1)
 (fun p2 => z6m N p2 p.2.1 (0 : Int)
 (fun p3 n => z6l N p3 p.2.1 n
 (fun p4 => some p4)
 (cond (decide ((16 : Int) < n))
 (some ((3 : Int), (p.2.1, ())))
 (none))))

def t_64 (N : Nat) : zcr (Int × (Int × Unit)) := [([0, 1, 1], z1gm N), ([0, 1, 1, 1, 1], z1fo N), ([0, 1, 1, 1, 1, 1], z1es N)]

theorem z16k (N : Nat) (x : z1a [(0, .box TT4)]) : zh3 (z13n N) (z1d N) N (t_64 N) z150 Tryd.f45 36 TT6 (mkS [(0, .box TT4)] 0 x) (fun z => some z) = z3a N x.1 := by kernel_rfl

def zah (N : Nat) : List A -> PnRes := zh1 [(0, .box TT4)] (fun x => z3a N x.1) (fun z => ⟨TT6, z⟩)

theorem zfo (N : Nat) : ContractP Tryd.prog glob 45 36 (zah N) :=
  ContractP.of (E := z13n N) (Pn := z1d N) (H := t_64 N) (L := z150) (N := N) (body := zbr) (t := TT6) (z1m7 N) (z41 N) Tryd.func45 (by kernel_rfl) (by decide) (fun _ hb => (TabOkP.cons (z1d5 hb (z41 N)) (TabOkP.cons (z1c7 hb (z41 N)) (TabOkP.cons (z1bb hb (z41 N)) TabOkP.nil)))) (fun x y h => by rw [z16k]; exact h)

def znq : Code := (Tryd.f58.body).getD .skip

def L_65 : List (List Nat × List Nat) := [([0], [0, 1]), ([0, 1], [0, 5, 1]), ([0, 1, 1], [5, 0, 1]), ([0, 0, 1, 1, 1], [16, 5, 0, 1]), ([1, 0, 1, 1, 1], [5, 0, 1]), (z13j, [4, 0]), (z14x, [4, 0]), ([0, 0, 1, 1, 1, 1], [24, 0, 1, 5]), ([1, 0, 1, 1, 1, 1], [5, 0]), ([0, 1, 0, 1, 1, 1, 1], [5, 0]), ([0, 1, 1, 1, 1, 1], [4, 0]), ([1, 1, 1, 1, 1, 1], [4, 0])]

def z1ns (N : Nat) : Env := z27 tys glob [(56, z14 N), (60, z7w N)] [] [] [0] false [] []

theorem z1m6 (N : Nat) : EnvOk Tryd.prog (z1ns N) := zi mixed z16 (FnsOk.cons (z1f N) (FnsOk.cons (zbv N) (FnsOk.nil))) (ItsOk.nil)

def z3m (N : Nat) : PnT := pnT [(56, 36, z1w N), (20, 36, zo N)]

theorem zaj (N : Nat) : PnOk Tryd.prog glob (z3m N) := PnOk.cons (z2v N) (PnOk.cons (zz N) (PnOk.nil))

def z6o (N : Nat) (p : DT5) (from_ : Int) (b : Int) (k0 : Bool -> Option (Int × (Int × Unit))) : Option (Int × (Int × Unit)) :=
 cond (decide (b < (97 : Int)))
 (k0 true)
 (k0 (decide ((102 : Int) < b)))

def z1it (N : Nat) (x : z1a zyp) (K : ExP -> List A -> Option (Int × (Int × Unit))) : Option (Int × (Int × Unit)) :=
 z6o N x.1 x.2.1 x.2.2.1 (fun a3 => (K .normal (mkS [(0, .box TT4), (0, .v (.int .i64)), (3, .v (.int .u8)), (18, .v .bool)] 6 (x.1, x.2.1, x.2.2.1, a3, ()))))

def z1fn (N : Nat) : HdP (Int × (Int × Unit)) := fun st K => (unS zyp 25 (restr [5, 0, 1] 0 st)).bind fun x => z1it N x K

def t2_65 (N : Nat) : zcr (Int × (Int × Unit)) := []

theorem z1c6 {N : Nat} {c : Ctx} (hb : Base Tryd.prog (z1ns N) c) (hP : PnOk Tryd.prog glob (z3m N)) : z22 Tryd.prog c (zf znq [0, 0, 1, 1, 1, 1]) (z1fn N) :=
  z25 (s := zyp) (m := 25) (g := z1it N) [5, 0, 1] (z1n hb hP N (t2_65 N) L_65 znq TabOkP.nil [0, 0, 1, 1, 1, 1] _ rfl) (fun x K => by kernel_rfl)

def z6p (N : Nat) (p : DT5) (from_ : Int) (b : Int) (k0 : (Int × (Int × Unit)) -> Option (Int × (Int × Unit))) (k1 : Option (Int × (Int × Unit))) : Option (Int × (Int × Unit)) :=
 z6o N p from_ b
 (fun x24 => cond x24
 (k0 ((2 : Int), (from_, ())))
 (k1))

def z1jr (N : Nat) (x : z1a zyp) (K : ExP -> List A -> Option (Int × (Int × Unit))) : Option (Int × (Int × Unit)) :=
 z6p N x.1 x.2.1 x.2.2.1 (fun a0 => (K (.pan 36) (mkS [(0, .v TT6)] 0 (a0, ())))) (K .normal (mkS [(0, .box TT4), (4, .v (.int .u8))] 25 (x.1, x.2.2.1, ())))

def z1gl (N : Nat) : HdP (Int × (Int × Unit)) := fun st K => (unS zyp 25 (restr [5, 0, 1] 0 st)).bind fun x => z1jr N x K

def t1_65 (N : Nat) : zcr (Int × (Int × Unit)) := [([0, 0, 1, 1, 1, 1], z1fn N)]

theorem z1d4 {N : Nat} {c : Ctx} (hb : Base Tryd.prog (z1ns N) c) (hP : PnOk Tryd.prog glob (z3m N)) : z22 Tryd.prog c (zf znq [0, 1, 1, 1, 1]) (z1gl N) :=
  z25 (s := zyp) (m := 25) (g := z1jr N) [5, 0, 1] (z1n hb hP N (t1_65 N) L_65 znq (TabOkP.cons (z1c6 hb hP) TabOkP.nil) [0, 1, 1, 1, 1] _ rfl) (fun x K => by kernel_rfl)

def z3b (N : Nat) (p : DT5) (from_ : Int) : Option (Int × (Int × Unit)) :=
 orP ((z1j N p)) (fun z => some z)
 ((z17 N p).bind fun y =>
 (z5m N y.1).bind fun y1 =>
 cond y1
 (none)
 (z6p N (y.2.1.1, ((IntKind.wrap IntKind.i64 (y.2.1.2.1 + (1 : Int))), y.2.1.2.2)) from_ y.1
 (fun p1 => some p1)
 (none)))

def t_65 (N : Nat) : zcr (Int × (Int × Unit)) := [([0, 1, 1, 1, 1], z1gl N)]

theorem z16j (N : Nat) (x : z1a z19w) : zh3 (z1ns N) (z3m N) N (t_65 N) L_65 Tryd.f58 36 TT6 (mkS z19w 0 x) (fun z => some z) = z3b N x.1 x.2.1 := by kernel_rfl

def zai (N : Nat) : List A -> PnRes := zh1 z19w (fun x => z3b N x.1 x.2.1) (fun z => ⟨TT6, z⟩)

theorem zfp (N : Nat) : ContractP Tryd.prog glob 58 36 (zai N) :=
  ContractP.of (E := z1ns N) (Pn := z3m N) (H := t_65 N) (L := L_65) (N := N) (body := znq) (t := TT6) (z1m6 N) (zaj N) Tryd.func58 (by kernel_rfl) (by decide) (fun _ hb => (TabOkP.cons (z1d4 hb (zaj N)) TabOkP.nil)) (fun x y h => by rw [z16j]; exact h)

def zuo : Code := (Tryd.f43.body).getD .skip

def L_66 : List (List Nat × List Nat) := [([0], [0, 2]), ([0, 1], [0, 2, 4]), ([0, 1, 1], [0, 2, 4]), ([0, 1, 1, 1], [0, 5, 2, 4]), ([0, 1, 1, 1, 1], [5, 2, 0, 4]), ([0, 0, 0, 1, 1, 1, 1, 1], [22, 2, 0, 5, 4]), ([1, 0, 0, 1, 1, 1, 1, 1], [5, 2, 0]), ([0, 1, 1, 0, 0, 1, 1, 1, 1, 1], [26, 2, 0, 5, 4]), ([1, 1, 1, 0, 0, 1, 1, 1, 1, 1], [5, 2, 0]), ([0, 1, 1, 1, 1, 0, 0, 1, 1, 1, 1, 1], [30, 0, 4, 2, 5]), ([1, 1, 1, 1, 1, 0, 0, 1, 1, 1, 1, 1], [5, 2, 0]), ([0, 1, 1, 1, 1, 1, 1, 0, 0, 1, 1, 1, 1, 1], [42, 0, 4, 5, 2]), ([1, 1, 1, 1, 1, 1, 1, 0, 0, 1, 1, 1, 1, 1], [5, 2, 0]), ([0, 1, 1, 1, 1, 1, 1, 1, 0, 0, 1, 1, 1, 1, 1], [5, 2, 0]), ([0, 0, 1, 1, 1, 1, 1, 0, 0, 1, 1, 1, 1, 1], [6, 0, 4, 2]), ([1, 0, 1, 1, 1, 1, 1, 0, 0, 1, 1, 1, 1, 1], [5, 2, 0]), ([0, 0, 1, 1, 1, 0, 0, 1, 1, 1, 1, 1], [2, 3, 0]), ([1, 0, 1, 1, 1, 0, 0, 1, 1, 1, 1, 1], [2, 3, 0]), ([0, 0, 1, 0, 0, 1, 1, 1, 1, 1], [2, 3, 0]), ([1, 0, 1, 0, 0, 1, 1, 1, 1, 1], [2, 3, 0]), ([0, 1, 1, 1, 1, 1], [5, 2, 0]), (zr7, [2, 3, 0]), (zve, [2, 3, 0])]

def E_66 (N : Nat) : Env := z27 tys glob [(41, z3u N), (44, z3v N), (46, z1k N), (56, z14 N), (57, zbo N), (58, z8z N)] [] [] [0] false [] []

theorem z1m5 (N : Nat) : EnvOk Tryd.prog (E_66 N) := zi mixed z16 (FnsOk.cons (z5g N) (FnsOk.cons (z5q N) (FnsOk.cons (z20 N) (FnsOk.cons (z1f N) (FnsOk.cons (zgc N) (FnsOk.cons (zdb N) (FnsOk.nil))))))) (ItsOk.nil)

def z3s (N : Nat) : PnT := pnT [(58, 36, zai N), (46, 36, z2j N), (56, 36, z1w N), (20, 36, zo N)]

theorem z7t (N : Nat) : PnOk Tryd.prog glob (z3s N) := PnOk.cons (zfp N) (PnOk.cons (z42 N) (PnOk.cons (z2v N) (PnOk.cons (zz N) (PnOk.nil))))

def z53 (N : Nat) (p : DT5) (set_ : (List Int)) (from_ : Int) (b : Int) (k0 : (List Int) -> Bool -> Option (Int × (Int × Unit))) (k1 : (Int × (Int × Unit)) -> Option (Int × (Int × Unit))) (k2 : DT5 -> Int -> Option (Int × (Int × Unit))) : Option (Int × (Int × Unit)) :=
 cond (b == (100 : Int))
 ((z2h N (48 : Int) (57 : Int)).bind fun y =>
 k0 y true)
 (cond (b == (119 : Int))
 ((z8i N ((48 : UInt8) :: (49 : UInt8) :: (50 : UInt8) :: (51 : UInt8) :: (52 : UInt8) :: (53 : UInt8) :: (54 : UInt8) :: (55 : UInt8) :: (56 : UInt8) :: (57 : UInt8) :: (65 : UInt8) :: (66 : UInt8) :: (67 : UInt8) :: (68 : UInt8) :: (69 : UInt8) :: (70 : UInt8) :: (71 : UInt8) :: (72 : UInt8) :: (73 : UInt8) :: (74 : UInt8) :: (75 : UInt8) :: (76 : UInt8) :: (77 : UInt8) :: (78 : UInt8) :: (79 : UInt8) :: (80 : UInt8) :: (81 : UInt8) :: (82 : UInt8) :: (83 : UInt8) :: (84 : UInt8) :: (85 : UInt8) :: (86 : UInt8) :: (87 : UInt8) :: (88 : UInt8) :: (89 : UInt8) :: (90 : UInt8) :: (95 : UInt8) :: (97 : UInt8) :: (98 : UInt8) :: (99 : UInt8) :: (100 : UInt8) :: (101 : UInt8) :: (102 : UInt8) :: (103 : UInt8) :: (104 : UInt8) :: (105 : UInt8) :: (106 : UInt8) :: (107 : UInt8) :: (108 : UInt8) :: (109 : UInt8) :: (110 : UInt8) :: (111 : UInt8) :: (112 : UInt8) :: (113 : UInt8) :: (114 : UInt8) :: (115 : UInt8) :: (116 : UInt8) :: (117 : UInt8) :: (118 : UInt8) :: (119 : UInt8) :: (120 : UInt8) :: (121 : UInt8) :: (122 : UInt8) :: ([] : List UInt8))).bind fun y1 =>
 k0 y1 true)
 (cond (b == (120 : Int))
 (orP ((z3b N p from_)) (fun z => k1 z)
 ((z3i N p from_).bind fun y2 =>
 orP ((z3b N y2.2.1 from_)) (fun z1 => k1 z1)
 ((z3i N y2.2.1 from_).bind fun y3 =>
 k2 y3.2.1 (bitsOp Go.BinOp.or IntKind.u8 (shlI IntKind.u8 y2.1 (4 : Int)) y3.1))))
 (cond (decide ((Go.Lib.indexByte ([(92 : UInt8), (46 : UInt8), (91 : UInt8), (93 : UInt8), (40 : UInt8), (41 : UInt8), (123 : UInt8), (125 : UInt8), (124 : UInt8), (42 : UInt8), (43 : UInt8), (63 : UInt8), (45 : UInt8), (94 : UInt8)] : List UInt8) (Nat.toUInt8 (Int.toNat b))) < (0 : Int)))
 (k1 ((2 : Int), (from_, ())))
 (k2 p b))))

def z1jq (N : Nat) (x : z1a z1a5) (K : ExP -> List A -> Option (Int × (Int × Unit))) : Option (Int × (Int × Unit)) :=
 z53 N x.1 x.2.1 x.2.2.1 x.2.2.2.1 (fun a1 a2 => (K .ret (mkS SQ57 48 (x.1, a1, a2, ())))) (fun a0 => (K (.pan 36) (mkS [(0, .v TT6)] 0 (a0, ())))) (fun a0 a2 => (K .normal (mkS [(0, .box TT4), (1, .box (.arr 4 (.int .u64))), (2, .v (.int .u8))] 46 (a0, x.2.1, a2, ()))))

def z1gk (N : Nat) : HdP (Int × (Int × Unit)) := fun st K => (unS z1a5 46 (restr [5, 2, 0, 4] 0 st)).bind fun x => z1jq N x K

def t1_66 (N : Nat) : zcr (Int × (Int × Unit)) := []

theorem z1d3 {N : Nat} {c : Ctx} (hb : Base Tryd.prog (E_66 N) c) (hP : PnOk Tryd.prog glob (z3s N)) : z22 Tryd.prog c (zf zuo [0, 1, 1, 1, 1, 1]) (z1gk N) :=
  z25 (s := z1a5) (m := 46) (g := z1jq N) [5, 2, 0, 4] (z1n hb hP N (t1_66 N) L_66 zuo TabOkP.nil [0, 1, 1, 1, 1, 1] _ rfl) (fun x K => by kernel_rfl)

def z28 (N : Nat) (p : DT5) : Option (Int × (Int × Unit)) :=
 orP ((z1c N p (92 : Int))) (fun z => some z)
 ((zy N p (92 : Int)).bind fun y =>
 orP ((z1j N y.2.1)) (fun z1 => some z1)
 ((z17 N y.2.1).bind fun y1 =>
 z53 N (y1.2.1.1, ((IntKind.wrap IntKind.i64 (y1.2.1.2.1 + (1 : Int))), y1.2.1.2.2)) ([(0 : Int), (0 : Int), (0 : Int), (0 : Int)] : List Int) p.2.1 y1.1
 (fun set_ class_ => none)
 (fun p1 => some p1)
 (fun p2 b => (z2h N b b).bind fun y2 =>
 none)))

def t_66 (N : Nat) : zcr (Int × (Int × Unit)) := [([0, 1, 1, 1, 1, 1], z1gk N)]

theorem z16i (N : Nat) (x : z1a [(0, .box TT4)]) : zh3 (E_66 N) (z3s N) N (t_66 N) L_66 Tryd.f43 36 TT6 (mkS [(0, .box TT4)] 0 x) (fun z => some z) = z28 N x.1 := by kernel_rfl

def z4t (N : Nat) : List A -> PnRes := zh1 [(0, .box TT4)] (fun x => z28 N x.1) (fun z => ⟨TT6, z⟩)

theorem z8n (N : Nat) : ContractP Tryd.prog glob 43 36 (z4t N) :=
  ContractP.of (E := E_66 N) (Pn := z3s N) (H := t_66 N) (L := L_66) (N := N) (body := zuo) (t := TT6) (z1m5 N) (z7t N) Tryd.func43 (by kernel_rfl) (by decide) (fun _ hb => (TabOkP.cons (z1d3 hb (z7t N)) TabOkP.nil)) (fun x y h => by rw [z16i]; exact h)

def znp : Code := (Tryd.f68.body).getD .skip

def L_67 : List (List Nat × List Nat) := [([0], [0, 2]), ([0, 1], [4, 0, 2]), ([0, 0, 1, 1], [7, 0, 2, 4]), ([0, 0, 1, 0, 1, 1], [8, 0, 2, 7, 4]), ([1, 0, 1, 0, 1, 1], [0, 4, 2]), (z1aa, [14, 0, 4, 2, 7]), ([1, 0, 1, 1, 0, 1, 0, 1, 1], [14, 0, 4, 2]), ([0, 1, 1, 0, 1, 1, 0, 1, 0, 1, 1], [14, 0, 4, 2, 7]), ([1, 1, 1, 0, 1, 1, 0, 1, 0, 1, 1], [14, 0, 4, 2]), ([0, 1, 1, 1, 1, 0, 1, 1, 0, 1, 0, 1, 1], [14, 0, 4, 2, 7]), ([1, 1, 1, 1, 1, 0, 1, 1, 0, 1, 0, 1, 1], [14, 0, 4, 2]), ([1, 1, 1, 1, 1, 1, 0, 1, 1, 0, 1, 0, 1, 1], [14, 0, 4, 2]), ([1, 1, 1, 0, 1, 0, 1, 1], [0, 4, 2]), ([0, 1, 1, 1, 0, 1, 0, 1, 1], [0, 4, 2]), ([0, 0, 1, 0, 1, 0, 1, 1], [2, 3, 0]), ([1, 0, 1, 0, 1, 0, 1, 1], [2, 3, 0]), ([1, 0, 1, 1], [0, 4, 2]), ([0, 1, 1, 1], [4, 2, 0]), ([0, 1, 1, 1, 1], [2, 3, 0]), ([1, 1, 1, 1, 1], [2, 3, 0])]

def z1nr (N : Nat) : Env := z27 tys glob [(41, z3u N), (43, z35 N), (56, z14 N)] [] [] [0] false [] []

theorem z1m4 (N : Nat) : EnvOk Tryd.prog (z1nr N) := zi mixed z16 (FnsOk.cons (z5g N) (FnsOk.cons (z4z N) (FnsOk.cons (z1f N) (FnsOk.nil)))) (ItsOk.nil)

def z34 (N : Nat) : PnT := pnT [(43, 36, z4t N), (56, 36, z1w N), (20, 36, zo N)]

theorem z9e (N : Nat) : PnOk Tryd.prog glob (z34 N) := PnOk.cons (z8n N) (PnOk.cons (z2v N) (PnOk.cons (zz N) (PnOk.nil)))

def z5t (N : Nat) (p : DT5) (set_ : (List Int)) (b : Int) (x7 : Int) (k0 : Bool -> Option (Int × (Int × Unit))) : Option (Int × (Int × Unit)) :=
 cond (x7 == (91 : Int))
 (k0 (x7 == (91 : Int)))
 (cond (x7 == (93 : Int))
 (k0 (x7 == (93 : Int)))
 (cond (x7 == (45 : Int))
 (k0 (x7 == (45 : Int)))
 (k0 (x7 == (94 : Int)))))

def z1is (N : Nat) (x : z1a z1a4) (K : ExP -> List A -> Option (Int × (Int × Unit))) : Option (Int × (Int × Unit)) :=
 z5t N x.1 x.2.1 x.2.2.1 x.2.2.2.1 (fun a3 => (K .normal (mkS [(0, .box TT4), (1, .box (.arr 4 (.int .u64))), (1, .v (.int .u8)), (9, .v .bool)] 20 (x.1, x.2.1, x.2.2.1, a3, ()))))

def z1fm (N : Nat) : HdP (Int × (Int × Unit)) := fun st K => (unS z1a4 27 (restr [7, 0, 4, 2] 0 st)).bind fun x => z1is N x K

def t2_67 (N : Nat) : zcr (Int × (Int × Unit)) := []

theorem z1c5 {N : Nat} {c : Ctx} (hb : Base Tryd.prog (z1nr N) c) (hP : PnOk Tryd.prog glob (z34 N)) : z22 Tryd.prog c (zf znp z13k) (z1fm N) :=
  z25 (s := z1a4) (m := 27) (g := z1is N) [7, 0, 4, 2] (z1n hb hP N (t2_67 N) L_67 znp TabOkP.nil z13k _ rfl) (fun x K => by kernel_rfl)

def z5u (N : Nat) (p : DT5) (set_ : (List Int)) (b : Int) (k0 : (Int × (Int × Unit)) -> Option (Int × (Int × Unit))) (k1 : DT5 -> (List Int) -> Bool -> Option (Int × (Int × Unit))) (k2 : Option (Int × (Int × Unit))) : Option (Int × (Int × Unit)) :=
 cond (b == (92 : Int))
 (orP ((z28 N p)) (fun z => k0 z)
 ((z24 N p).bind fun y =>
 k1 y.2.1 y.1.1 y.1.2.1))
 (z5t N p set_ b b
 (fun x14 => cond x14
 (k0 ((2 : Int), (p.2.1, ())))
 (k2)))

def z1jp (N : Nat) (x : z1a z14v) (K : ExP -> List A -> Option (Int × (Int × Unit))) : Option (Int × (Int × Unit)) :=
 z5u N x.1 x.2.1 x.2.2.1 (fun a0 => (K (.pan 36) (mkS [(0, .v TT6)] 0 (a0, ())))) (fun a0 a1 a2 => (K .ret (mkS SQ57 31 (a0, a1, a2, ())))) (K .normal (mkS z14v 30 (x.1, x.2.1, x.2.2.1, ())))

def z1gj (N : Nat) : HdP (Int × (Int × Unit)) := fun st K => (unS z14v 30 (restr [4, 0, 2] 0 st)).bind fun x => z1jp N x K

def t1_67 (N : Nat) : zcr (Int × (Int × Unit)) := [(z13k, z1fm N)]

theorem z1d2 {N : Nat} {c : Ctx} (hb : Base Tryd.prog (z1nr N) c) (hP : PnOk Tryd.prog glob (z34 N)) : z22 Tryd.prog c (zf znp [0, 1, 1]) (z1gj N) :=
  z25 (s := z14v) (m := 30) (g := z1jp N) [4, 0, 2] (z1n hb hP N (t1_67 N) L_67 znp (TabOkP.cons (z1c5 hb hP) TabOkP.nil) [0, 1, 1] _ rfl) (fun x K => by kernel_rfl)

def z2t (N : Nat) (p : DT5) : Option (Int × (Int × Unit)) :=
 orP ((z1j N p)) (fun z => some z)
 ((z17 N p).bind fun y =>
 z5u N y.2.1 ([(0 : Int), (0 : Int), (0 : Int), (0 : Int)] : List Int) y.1
 (fun p1 => some p1)
 (fun p2 set_ class_ => none)
 ((z2h N y.1 y.1).bind fun y1 =>
 none))

def t_67 (N : Nat) : zcr (Int × (Int × Unit)) := [([0, 1, 1], z1gj N)]

theorem z16h (N : Nat) (x : z1a [(0, .box TT4)]) : zh3 (z1nr N) (z34 N) N (t_67 N) L_67 Tryd.f68 36 TT6 (mkS [(0, .box TT4)] 0 x) (fun z => some z) = z2t N x.1 := by kernel_rfl

def z9d (N : Nat) : List A -> PnRes := zh1 [(0, .box TT4)] (fun x => z2t N x.1) (fun z => ⟨TT6, z⟩)

theorem zf1 (N : Nat) : ContractP Tryd.prog glob 68 36 (z9d N) :=
  ContractP.of (E := z1nr N) (Pn := z34 N) (H := t_67 N) (L := L_67) (N := N) (body := znp) (t := TT6) (z1m4 N) (z9e N) Tryd.func68 (by kernel_rfl) (by decide) (fun _ hb => (TabOkP.cons (z1d2 hb (z9e N)) TabOkP.nil)) (fun x y h => by rw [z16h]; exact h)

def zg4 : Code := (Tryd.f53.body).getD .skip

def z1ag : List (List Nat × List Nat) := [([0], [0, 2]), ([0, 1], [4, 0, 3, 2]), ([0, 0, 1, 1], [17, 3, 2, 0]), ([1, 0, 1, 1], [0, 3, 2]), ([0, 0, 1, 0, 1, 1], [2, 0]), ([1, 0, 1, 0, 1, 1], [2, 0]), ([0, 1, 1, 1], [0, 3, 5, 2]), ([0, 1, 1, 1, 1], [4, 6, 3, 0, 5, 2]), (zkf, [35, 0, 5, 3, 6, 2]), (zyg, [3, 6, 2, 0]), (zyk, [3, 6, 2, 0]), (zr7, [2, 0]), (zve, [2, 0])]

def z19h (N : Nat) : Env := z27 tys glob [(26, z1i N), (41, z3u N), (68, z7p N), (69, zbq N)] [] [] [0] false [] []

theorem z1m3 (N : Nat) : EnvOk Tryd.prog (z19h N) := zi mixed z16 (FnsOk.cons (z1z N) (FnsOk.cons (z5g N) (FnsOk.cons (zci N) (FnsOk.cons (zgf N) (FnsOk.nil))))) (ItsOk.nil)

def z1t (N : Nat) : PnT := pnT [(68, 36, z9d N), (20, 36, zo N)]

theorem z5j (N : Nat) : PnOk Tryd.prog glob (z1t N) := PnOk.cons (zf1 N) (PnOk.cons (zz N) (PnOk.nil))

def z5z (N : Nat) (p : DT5) (x2 : (List Int)) (first : (List Int)) (class_ : Bool) (k0 : DT5 -> Bool -> Option (Int × (Int × Unit))) : Option (Int × (Int × Unit)) :=
 cond class_
 (k0 p true)
 ((zw N p (45 : Int)).bind fun y =>
 k0 y.2.1 (!y.1))

def z1ir (N : Nat) (x : z1a SQ6) (K : ExP -> List A -> Option (Int × (Int × Unit))) : Option (Int × (Int × Unit)) :=
 z5z N x.1 x.2.1 x.2.2.1 x.2.2.2.1 (fun a0 a3 => (K .normal (mkS SQ79 28 (a0, x.2.1, x.2.2.1, a3, ()))))

def z1fl (N : Nat) : HdP (Int × (Int × Unit)) := fun st K => (unS SQ6 41 (restr [4, 0, 3, 2] 0 st)).bind fun x => z1ir N x K

def t2_68 (N : Nat) : zcr (Int × (Int × Unit)) := []

theorem z1c4 {N : Nat} {c : Ctx} (hb : Base Tryd.prog (z19h N) c) (hP : PnOk Tryd.prog glob (z1t N)) : z22 Tryd.prog c (zf zg4 [0, 0, 1, 1]) (z1fl N) :=
  z25 (s := SQ6) (m := 41) (g := z1ir N) [4, 0, 3, 2] (z1n hb hP N (t2_68 N) z1ag zg4 TabOkP.nil [0, 0, 1, 1] _ rfl) (fun x K => by kernel_rfl)

def z60 (N : Nat) (p : DT5) (x2 : (List Int)) (first : (List Int)) (class_ : Bool) (k0 : DT5 -> Option (Int × (Int × Unit))) (k1 : DT5 -> Option (Int × (Int × Unit))) : Option (Int × (Int × Unit)) :=
 z5z N p x2 first class_
 (fun p1 x17 => cond x17
 (k0 p1)
 (k1 p1))

def z1jo (N : Nat) (x : z1a SQ6) (K : ExP -> List A -> Option (Int × (Int × Unit))) : Option (Int × (Int × Unit)) :=
 z60 N x.1 x.2.1 x.2.2.1 x.2.2.2.1 (fun a0 => (K .ret (mkS [(0, .box TT4), (1, .box (.arr 4 (.int .u64)))] 43 (a0, x.2.2.1, ())))) (fun a0 => (K .normal (mkS [(0, .box TT4), (1, .box (.arr 4 (.int .u64))), (0, .box (.arr 4 (.int .u64)))] 42 (a0, x.2.1, x.2.2.1, ()))))

def z1gi (N : Nat) : HdP (Int × (Int × Unit)) := fun st K => (unS SQ6 41 (restr [4, 0, 3, 2] 0 st)).bind fun x => z1jo N x K

def t1_68 (N : Nat) : zcr (Int × (Int × Unit)) := [([0, 0, 1, 1], z1fl N)]

theorem z1d1 {N : Nat} {c : Ctx} (hb : Base Tryd.prog (z19h N) c) (hP : PnOk Tryd.prog glob (z1t N)) : z22 Tryd.prog c (zf zg4 [0, 1, 1]) (z1gi N) :=
  z25 (s := SQ6) (m := 41) (g := z1jo N) [4, 0, 3, 2] (z1n hb hP N (t1_68 N) z1ag zg4 (TabOkP.cons (z1c4 hb hP) TabOkP.nil) [0, 1, 1] _ rfl) (fun x K => by kernel_rfl)

def z5x (N : Nat) (p : DT5) (x2 : (List Int)) (first : (List Int)) (class_ : Bool) (from_ : Int) (last : (List Int)) (k0 : Bool -> Option (Int × (Int × Unit))) : Option (Int × (Int × Unit)) :=
 cond class_
 (k0 true)
 ((z29 N last).bind fun y =>
 (z29 N first).bind fun y1 =>
 k0 (decide (y < y1)))

def z1i2 (N : Nat) (x : z1a SQ3) (K : ExP -> List A -> Option (Int × (Int × Unit))) : Option (Int × (Int × Unit)) :=
 z5x N x.1 x.2.1 x.2.2.1 x.2.2.2.1 x.2.2.2.2.1 x.2.2.2.2.2.1 (fun a5 => (K .normal (mkS SQ46 10 (x.1, x.2.1, x.2.2.1, x.2.2.2.2.1, x.2.2.2.2.2.1, a5, ()))))

def z1ew (N : Nat) : HdP (Int × (Int × Unit)) := fun st K => (unS SQ3 39 (restr [4, 6, 3, 0, 5, 2] 0 st)).bind fun x => z1i2 N x K

def t4_68 (N : Nat) : zcr (Int × (Int × Unit)) := []

theorem z1bf {N : Nat} {c : Ctx} (hb : Base Tryd.prog (z19h N) c) (hP : PnOk Tryd.prog glob (z1t N)) : z22 Tryd.prog c (zf zg4 zkf) (z1ew N) :=
  z25 (s := SQ3) (m := 39) (g := z1i2 N) [4, 6, 3, 0, 5, 2] (z1n hb hP N (t4_68 N) z1ag zg4 TabOkP.nil zkf _ rfl) (fun x K => by kernel_rfl)

def z5y (N : Nat) (p : DT5) (x2 : (List Int)) (first : (List Int)) (class_ : Bool) (from_ : Int) (last : (List Int)) (k0 : (Int × (Int × Unit)) -> Option (Int × (Int × Unit))) (k1 : Option (Int × (Int × Unit))) : Option (Int × (Int × Unit)) :=
 z5x N p x2 first class_ from_ last
 (fun x35 => cond x35
 (k0 ((2 : Int), (from_, ())))
 (k1))

def z1ib (N : Nat) (x : z1a SQ3) (K : ExP -> List A -> Option (Int × (Int × Unit))) : Option (Int × (Int × Unit)) :=
 z5y N x.1 x.2.1 x.2.2.1 x.2.2.2.1 x.2.2.2.2.1 x.2.2.2.2.2.1 (fun a0 => (K (.pan 36) (mkS [(0, .v TT6)] 0 (a0, ())))) (K .normal (mkS SQ71 39 (x.1, x.2.1, x.2.2.1, x.2.2.2.2.2.1, ())))

def z1f5 (N : Nat) : HdP (Int × (Int × Unit)) := fun st K => (unS SQ3 39 (restr [4, 6, 3, 0, 5, 2] 0 st)).bind fun x => z1ib N x K

def t3_68 (N : Nat) : zcr (Int × (Int × Unit)) := [(zkf, z1ew N)]

theorem z1bo {N : Nat} {c : Ctx} (hb : Base Tryd.prog (z19h N) c) (hP : PnOk Tryd.prog glob (z1t N)) : z22 Tryd.prog c (zf zg4 [0, 1, 1, 1, 1, 1]) (z1f5 N) :=
  z25 (s := SQ3) (m := 39) (g := z1ib N) [4, 6, 3, 0, 5, 2] (z1n hb hP N (t3_68 N) z1ag zg4 (TabOkP.cons (z1bf hb hP) TabOkP.nil) [0, 1, 1, 1, 1, 1] _ rfl) (fun x K => by kernel_rfl)

def z2w (N : Nat) (p : DT5) : Option (Int × (Int × Unit)) :=
 orP ((z2t N p)) (fun z => some z)
 ((z2u N p).bind fun y =>
 z60 N y.2.1 ([(0 : Int), (0 : Int), (0 : Int), (0 : Int)] : List Int) y.1.1 y.1.2.1
 (fun p1 => none)
 (fun p2 => orP ((z2t N p2)) (fun z1 => some z1)
 ((z2u N p2).bind fun y1 =>
 z5y N y1.2.1 ([(0 : Int), (0 : Int), (0 : Int), (0 : Int)] : List Int) y.1.1 y1.1.2.1 p2.2.1 y1.1.1
 (fun p3 => some p3)
 ((z29 N y.1.1).bind fun y2 =>
 (z29 N y1.1.1).bind fun y3 =>
 (z2h N (IntKind.wrap IntKind.u8 y2) (IntKind.wrap IntKind.u8 y3)).bind fun y4 =>
 none))))

def t_68 (N : Nat) : zcr (Int × (Int × Unit)) := [([0, 1, 1], z1gi N), ([0, 1, 1, 1, 1, 1], z1f5 N)]

theorem z16g (N : Nat) (x : z1a [(0, .box TT4)]) : zh3 (z19h N) (z1t N) N (t_68 N) z1ag Tryd.f53 36 TT6 (mkS [(0, .box TT4)] 0 x) (fun z => some z) = z2w N x.1 := by kernel_rfl

def z9h (N : Nat) : List A -> PnRes := zh1 [(0, .box TT4)] (fun x => z2w N x.1) (fun z => ⟨TT6, z⟩)

theorem zf2 (N : Nat) : ContractP Tryd.prog glob 53 36 (z9h N) :=
  ContractP.of (E := z19h N) (Pn := z1t N) (H := t_68 N) (L := z1ag) (N := N) (body := zg4) (t := TT6) (z1m3 N) (z5j N) Tryd.func53 (by kernel_rfl) (by decide) (fun _ hb => (TabOkP.cons (z1d1 hb (z5j N)) (TabOkP.cons (z1bo hb (z5j N)) TabOkP.nil))) (fun x y h => by rw [z16g]; exact h)

def zun : Code := (Tryd.f42.body).getD .skip

def L_69 : List (List Nat × List Nat) := [([0], [0, 2]), ([0, 1], [0, 2]), ([0, 1, 1], [0, 3, 2]), ([0, 1, 1, 1], [0, 4, 3, 2]), ([0, 0, 1, 1, 1, 1], [0, 4, 3, 2]), (z11u, [13, 4, 0, 3, 2]), (z11t, [4, 0, 3, 2]), (z1le, [3, 4, 2, 0]), ([0, 1, 0, 0, 0, 1, 1, 1, 1], [0, 4, 3, 2]), (z11s, [0, 4, 3, 2]), ([0, 1, 1, 1, 1], [3, 4, 2, 0]), (zkf, [18, 4, 2, 0]), (zyg, [4, 2, 0]), (z19c, [2, 0]), (PQ92, [2, 0]), (zr7, [2, 0]), (zve, [2, 0])]

def E_69 (N : Nat) : Env := z27 tys glob [(26, z1i N), (46, z1k N), (53, z7r N), (54, zer N), (55, zdz N)] [] [] [0] false [] []

theorem z1m2 (N : Nat) : EnvOk Tryd.prog (E_69 N) := zi mixed z16 (FnsOk.cons (z1z N) (FnsOk.cons (z20 N) (FnsOk.cons (zcj N) (FnsOk.cons (zk7 N) (FnsOk.cons (zie N) (FnsOk.nil)))))) (ItsOk.nil)

def z37 (N : Nat) : PnT := pnT [(53, 36, z9h N), (46, 36, z2j N)]

theorem z72 (N : Nat) : PnOk Tryd.prog glob (z37 N) := PnOk.cons (zf2 N) (PnOk.cons (z42 N) (PnOk.nil))

def z32 (N : Nat) (x2 : (List Int)) (not_ : Bool) (p : DT5) (set_ : (List Int)) (rec : DT5 -> (List Int) -> Option (Int × (Int × Unit))) (k0 : (Int × (Int × Unit)) -> Option (Int × (Int × Unit))) (k1 : DT5 -> (List Int) -> Option (Int × (Int × Unit))) : Option (Int × (Int × Unit)) :=
 (zw N p (93 : Int)).bind fun y =>
 cond (!y.1)
 (orP ((z2w N y.2.1)) (fun z => k0 z)
 ((z2x N y.2.1).bind fun y1 =>
 (zbp N set_ y1.1).bind fun y2 =>
 rec y1.2.1 y2))
 (k1 y.2.1 set_)

def z7g (N : Nat) (p : DT5) (x2 : (List Int)) (not_ : Bool) (set_ : (List Int)) (k0 : (Int × (Int × Unit)) -> Option (Int × (Int × Unit))) (k1 : DT5 -> (List Int) -> Option (Int × (Int × Unit))) : Option (Int × (Int × Unit)) :=
 iter (fun (v : (DT5 × (List Int))) r => z32 N x2 not_ v.1 v.2 (fun p set_ => (r (p, set_))) k0 k1) N (p, set_)

def z1jn (N : Nat) (i : ((List Int) × Bool)) (v : (DT5 × (List Int))) (r : (DT5 × (List Int)) -> Option (Int × (Int × Unit))) (K : ExP -> List A -> Option (Int × (Int × Unit))) : Option (Int × (Int × Unit)) :=
 z32 N i.1 i.2 v.1 v.2 (fun p set_ => (r (p, set_))) (fun a0 => (K (.pan 36) (mkS [(0, .v TT6)] 0 (a0, ())))) (fun a0 a3 => (K (.exit 0) (mkS z1a7 17 (a0, i.1, i.2, a3, ()))))

def z1gh (N : Nat) : HdP (Int × (Int × Unit)) := fun st K => (unS z1a7 17 (restr [0, 4, 3, 2] 0 st)).bind fun x => iter (fun v r => z1jn N ((fun x => (x.2.1, x.2.2.1)) x) v r K) N ((fun x => (x.1, x.2.2.2.1)) x)

def t1_69 (N : Nat) : zcr (Int × (Int × Unit)) := []

theorem z1d0 {N : Nat} {c : Ctx} (hb : Base Tryd.prog (E_69 N) c) (hP : PnOk Tryd.prog glob (z37 N)) : z22 Tryd.prog c (zf zun [0, 0, 1, 1, 1, 1]) (z1gh N) :=
  zm5 (s := z1a7) (m := 17) (z1jn N) [0, 4, 3, 2] N (fun x => (x.2.1, x.2.2.1)) (fun x => (x.1, x.2.2.2.1)) (fun i v => (v.1, i.1, i.2, v.2, ())) (fun _ => rfl) (z1n hb hP N (t1_69 N) L_69 zun TabOkP.nil [0, 0, 0, 1, 1, 1, 1] _ rfl) (fun i v r K => by kernel_rfl)

def z2k (N : Nat) (p : DT5) : Option (Int × (Int × Unit)) :=
 orP ((z1c N p (91 : Int))) (fun z => some z)
 ((zy N p (91 : Int)).bind fun y =>
 (zw N y.2.1 (94 : Int)).bind fun y1 =>
 orP ((z2w N y1.2.1)) (fun z1 => some z1)
 ((z2x N y1.2.1).bind fun y2 =>
 z7g N y2.2.1 ([(0 : Int), (0 : Int), (0 : Int), (0 : Int)] : List Int) y1.1 y2.1
 (fun p1 => some p1)
 (fun p2 set_ => cond y1.1
 ((zae N set_).bind fun y3 =>
 none)
 (none))))

def t_69 (N : Nat) : zcr (Int × (Int × Unit)) := [([0, 0, 1, 1, 1, 1], z1gh N)]

theorem z16f (N : Nat) (x : z1a [(0, .box TT4)]) : zh3 (E_69 N) (z37 N) N (t_69 N) L_69 Tryd.f42 36 TT6 (mkS [(0, .box TT4)] 0 x) (fun z => some z) = z2k N x.1 := by kernel_rfl

def z71 (N : Nat) : List A -> PnRes := zh1 [(0, .box TT4)] (fun x => z2k N x.1) (fun z => ⟨TT6, z⟩)

theorem zcs (N : Nat) : ContractP Tryd.prog glob 42 36 (z71 N) :=
  ContractP.of (E := E_69 N) (Pn := z37 N) (H := t_69 N) (L := L_69) (N := N) (body := zun) (t := TT6) (z1m2 N) (z72 N) Tryd.func42 (by kernel_rfl) (by decide) (fun _ hb => (TabOkP.cons (z1d0 hb (z72 N)) TabOkP.nil)) (fun x y h => by rw [z16f]; exact h)

def zno : Code := (Tryd.f35.body).getD .skip

def L_70 : List (List Nat × List Nat) := [([0], [0]), ([0, 1], [0, 4]), ([0, 1, 1], [2, 0, 4]), ([0, 1, 1, 1], [0, 2, 3, 4]), ([0, 0, 1, 1, 1, 1], [13, 0, 2, 3, 4]), ([1, 0, 1, 1, 1, 1], [3, 2, 0, 4]), ([0, 0, 0, 1, 0, 1, 1, 1, 1], [15, 2, 0]), ([1, 0, 0, 1, 0, 1, 1, 1, 1], [0, 2]), ([0, 0, 1, 0, 0, 1, 0, 1, 1, 1, 1], [2, 3, 0]), ([1, 0, 1, 0, 0, 1, 0, 1, 1, 1, 1], [2, 3, 0]), ([0, 1, 0, 1, 0, 1, 1, 1, 1], [0, 2, 4]), ([1, 1, 0, 1, 0, 1, 1, 1, 1], [3, 2, 0, 4]), (zkf, [26, 0, 4, 2, 3]), (zyg, [0, 2, 3]), (zyk, [0, 2, 3]), (zr7, [2, 3, 0]), (z11y, [2, 3, 0]), (z13l, [2, 3, 0])]

def z1nq (N : Nat) : Env := z27 tys glob [(26, z1i N), (45, z8s N), (46, z1k N)] [] [] [0] false [] []

theorem z1m1 (N : Nat) : EnvOk Tryd.prog (z1nq N) := zi mixed z16 (FnsOk.cons (z1z N) (FnsOk.cons (zda N) (FnsOk.cons (z20 N) (FnsOk.nil)))) (ItsOk.nil)

def z2l (N : Nat) : PnT := pnT [(45, 36, zah N), (46, 36, z2j N), (20, 36, zo N)]

theorem z4v (N : Nat) : PnOk Tryd.prog glob (z2l N) := PnOk.cons (zfo N) (PnOk.cons (z42 N) (PnOk.cons (zz N) (PnOk.nil)))

def z54 (N : Nat) (p : DT5) (low : Int) (high : Int) (from_ : Int) (k0 : DT5 -> Int -> Option (Int × (Int × Unit))) (k1 : (Int × (Int × Unit)) -> Option (Int × (Int × Unit))) (k2 : DT5 -> Int -> Int -> Option (Int × (Int × Unit))) : Option (Int × (Int × Unit)) :=
 (zw N p (44 : Int)).bind fun y =>
 cond y.1
 ((zw N y.2.1 (125 : Int)).bind fun y1 =>
 cond y1.1
 (k0 y1.2.1 (-(1 : Int)))
 (orP ((z3a N y1.2.1)) (fun z => k1 z)
 ((z3h N y1.2.1).bind fun y2 =>
 k2 y2.2.1 y2.1 y1.2.1.2.1)))
 (k2 y.2.1 high from_)

def z1jm (N : Nat) (x : z1a SQ8) (K : ExP -> List A -> Option (Int × (Int × Unit))) : Option (Int × (Int × Unit)) :=
 z54 N x.1 x.2.1 x.2.2.1 x.2.2.2.1 (fun a0 a2 => (K .ret (mkS SQ67 30 (a0, x.2.1, a2, ())))) (fun a0 => (K (.pan 36) (mkS [(0, .v TT6)] 0 (a0, ())))) (fun a0 a2 a3 => (K .normal (mkS SQ8 29 (a0, x.2.1, a2, a3, ()))))

def z1gg (N : Nat) : HdP (Int × (Int × Unit)) := fun st K => (unS SQ8 29 (restr [0, 2, 3, 4] 0 st)).bind fun x => z1jm N x K

def t1_70 (N : Nat) : zcr (Int × (Int × Unit)) := []

theorem z1cz {N : Nat} {c : Ctx} (hb : Base Tryd.prog (z1nq N) c) (hP : PnOk Tryd.prog glob (z2l N)) : z22 Tryd.prog c (zf zno [0, 1, 1, 1, 1]) (z1gg N) :=
  z25 (s := SQ8) (m := 29) (g := z1jm N) [0, 2, 3, 4] (z1n hb hP N (t1_70 N) L_70 zno TabOkP.nil [0, 1, 1, 1, 1] _ rfl) (fun x K => by kernel_rfl)

def z3l (N : Nat) (p : DT5) (low : Int) (high : Int) (from_ : Int) (k0 : (Int × (Int × Unit)) -> Option (Int × (Int × Unit))) (k1 : Option (Int × (Int × Unit))) : Option (Int × (Int × Unit)) :=
 cond (decide (high < (if ((1 : Int) > low) then (1 : Int) else low)))
 (k0 ((2 : Int), (from_, ())))
 (k1)

def z1iq (N : Nat) (x : z1a SQ8) (K : ExP -> List A -> Option (Int × (Int × Unit))) : Option (Int × (Int × Unit)) :=
 z3l N x.1 x.2.1 x.2.2.1 x.2.2.2.1 (fun a0 => (K (.pan 36) (mkS [(0, .v TT6)] 0 (a0, ())))) (K .normal (mkS SQ67 30 (x.1, x.2.1, x.2.2.1, ())))

def z1fk (N : Nat) : HdP (Int × (Int × Unit)) := fun st K => (unS SQ8 29 (restr [3, 2, 0, 4] 0 st)).bind fun x => z1iq N x K

def t2_70 (N : Nat) : zcr (Int × (Int × Unit)) := []

theorem z1c3 {N : Nat} {c : Ctx} (hb : Base Tryd.prog (z1nq N) c) (hP : PnOk Tryd.prog glob (z2l N)) : z22 Tryd.prog c (zf zno [0, 1, 1, 1, 1, 1]) (z1fk N) :=
  z25 (s := SQ8) (m := 29) (g := z1iq N) [3, 2, 0, 4] (z1n hb hP N (t2_70 N) L_70 zno TabOkP.nil [0, 1, 1, 1, 1, 1] _ rfl) (fun x K => by kernel_rfl)

def z38 (N : Nat) (p : DT5) : Option (Int × (Int × Unit)) :=
 orP ((z3a N p)) (fun z => some z)
 ((z3h N p).bind fun y =>
 z54 N y.2.1 y.1 y.1 p.2.1
 (fun p1 high => none)
 (fun p2 => some p2)
 (fun p3 high1 from_ => z3l N p3 y.1 high1 from_
 (fun p4 => some p4)
 (orP ((z1c N p3 (125 : Int))) (fun z1 => some z1)
 ((zy N p3 (125 : Int)).bind fun y1 =>
 none))))

def t_70 (N : Nat) : zcr (Int × (Int × Unit)) := [([0, 1, 1, 1, 1], z1gg N), ([0, 1, 1, 1, 1, 1], z1fk N)]

theorem z16e (N : Nat) (x : z1a [(0, .box TT4)]) : zh3 (z1nq N) (z2l N) N (t_70 N) L_70 Tryd.f35 36 TT6 (mkS [(0, .box TT4)] 0 x) (fun z => some z) = z38 N x.1 := by kernel_rfl

def z7u (N : Nat) : List A -> PnRes := zh1 [(0, .box TT4)] (fun x => z38 N x.1) (fun z => ⟨TT6, z⟩)

theorem ze2 (N : Nat) : ContractP Tryd.prog glob 35 36 (z7u N) :=
  ContractP.of (E := z1nq N) (Pn := z2l N) (H := t_70 N) (L := L_70) (N := N) (body := zno) (t := TT6) (z1m1 N) (z4v N) Tryd.func35 (by kernel_rfl) (by decide) (fun _ hb => (TabOkP.cons (z1cz hb (z4v N)) (TabOkP.cons (z1c3 hb (z4v N)) TabOkP.nil))) (fun x y h => by rw [z16e]; exact h)

abbrev z7 : Type := DT5 -> Option (Int × (Int × Unit))

def zum : Code := (Tryd.f39.body).getD .skip

def L_71 : List (List Nat × List Nat) := [([0], [0, 2]), ([0, 0, 1], [8, 0, 2]), ([1, 0, 1], [0, 2]), ([0, 1, 0, 1], [0, 2]), ([0, 1, 1], [0, 2]), ([0, 1, 1, 1], [0, 2]), ([0, 1, 1, 1, 1], [0, 3, 2]), ([0, 1, 1, 1, 1, 1], [0, 3, 2]), (zr7, [3, 2, 0]), (z11y, [2, 0]), (z13l, [2, 0])]

def E_71 (N : Nat) (self : z7) : Env := z27 tys glob [(19, zcl N), (46, z1k N)] [] [] [0] false [] []

theorem z1m0 (N : Nat) (self : z7) : EnvOk Tryd.prog (E_71 N self) := zi mixed z16 (FnsOk.cons (z2r N) (FnsOk.cons (z20 N) (FnsOk.nil))) (ItsOk.nil)

def z43 (N : Nat) (self : z7) : PnT := pnT [(46, 36, z2j N), (20, 36, zo N), (19, 36, zh1 [(0, .box TT4)] (fun x => self x.1) (fun z => ⟨TT6, z⟩))]

theorem z8m (N : Nat) (self : z7) (hself : ContractP Tryd.prog glob 19 36 (zh1 [(0, .box TT4)] (fun x => self x.1) (fun z => ⟨TT6, z⟩))) : PnOk Tryd.prog glob (z43 N self) := PnOk.cons (z42 N) (PnOk.cons (zz N) (PnOk.cons (hself) (PnOk.nil)))

def z5k (N : Nat) (self : z7) (p : DT5) (x2 : DT1) (k0 : (Int × (Int × Unit)) -> Option (Int × (Int × Unit))) (k1 : Option (Int × (Int × Unit))) : Option (Int × (Int × Unit)) :=
 cond (p.2.2.1 == (16 : Int))
 (k0 ((3 : Int), (p.2.1, ())))
 (k1)

def z1jl (N : Nat) (self : z7) (x : z1a z14s) (K : ExP -> List A -> Option (Int × (Int × Unit))) : Option (Int × (Int × Unit)) :=
 z5k N self x.1 x.2.1 (fun a0 => (K (.pan 36) (mkS [(0, .v TT6)] 0 (a0, ())))) (K .normal (mkS z14s 33 (x.1, x.2.1, ())))

def z1gf (N : Nat) (self : z7) : HdP (Int × (Int × Unit)) := fun st K => (unS z14s 33 (restr [0, 2] 0 st)).bind fun x => z1jl N self x K

def t1_71 (N : Nat) (self : z7) : zcr (Int × (Int × Unit)) := []

theorem z1cy {N : Nat} {self : z7} {c : Ctx} (hb : Base Tryd.prog (E_71 N self) c) (hP : PnOk Tryd.prog glob (z43 N self)) : z22 Tryd.prog c (zf zum [0, 1]) (z1gf N self) :=
  z25 (s := z14s) (m := 33) (g := z1jl N self) [0, 2] (z1n hb hP N (t1_71 N self) L_71 zum TabOkP.nil [0, 1] _ rfl) (fun x K => by kernel_rfl)

def z3n (N : Nat) (self : z7) (p : DT5) : Option (Int × (Int × Unit)) :=
 z5k N self p ((0 : Int), (([(0 : Int), (0 : Int), (0 : Int), (0 : Int)] : List Int), (([] : List Tree), ((0 : Int), ((0 : Int), ())))))
 (fun p1 => some p1)
 (orP ((z1c N (p.1, (p.2.1, ((IntKind.wrap IntKind.i64 (p.2.2.1 + (1 : Int))), p.2.2.2))) (40 : Int))) (fun z => some z)
 ((zy N (p.1, (p.2.1, ((IntKind.wrap IntKind.i64 (p.2.2.1 + (1 : Int))), p.2.2.2))) (40 : Int)).bind fun y =>
 orP ((self y.2.1)) (fun z1 => some z1)
 ((zg N y.2.1).bind fun y1 =>
 orP ((z1c N y1.2.1 (41 : Int))) (fun z2 => some z2)
 ((zy N y1.2.1 (41 : Int)).bind fun y2 =>
 none))))

def t_71 (N : Nat) (self : z7) : zcr (Int × (Int × Unit)) := [([0, 1], z1gf N self)]

theorem z16d (N : Nat) (self : z7) (x : z1a [(0, .box TT4)]) : zh3 (E_71 N self) (z43 N self) N (t_71 N self) L_71 Tryd.f39 36 TT6 (mkS [(0, .box TT4)] 0 x) (fun z => some z) = z3n N self x.1 := by kernel_rfl

def z8l (N : Nat) (self : z7) : List A -> PnRes := zh1 [(0, .box TT4)] (fun x => z3n N self x.1) (fun z => ⟨TT6, z⟩)

theorem zeo (N : Nat) (self : z7) (hself : ContractP Tryd.prog glob 19 36 (zh1 [(0, .box TT4)] (fun x => self x.1) (fun z => ⟨TT6, z⟩))) : ContractP Tryd.prog glob 39 36 (z8l N self) :=
  ContractP.of (E := E_71 N self) (Pn := z43 N self) (H := t_71 N self) (L := L_71) (N := N) (body := zum) (t := TT6) (z1m0 N self) (z8m N self hself) Tryd.func39 (by kernel_rfl) (by decide) (fun _ hb => (TabOkP.cons (z1cy hb (z8m N self hself)) TabOkP.nil)) (fun x y h => by rw [z16d]; exact h)

def zul : Code := (Tryd.f34.body).getD .skip

def L_72 : List (List Nat × List Nat) := [([0], [0, 2]), ([0, 1], [3, 0, 2]), ([0, 1, 1], [15, 0, 2, 3]), ([0, 0, 1, 1, 1], [36, 0, 2, 15, 3]), ([1, 0, 1, 1, 1], [2, 0]), ([0, 1, 1, 0, 1, 1, 1], [40, 0, 2, 15, 3]), ([1, 1, 1, 0, 1, 1, 1], [2, 0]), ([0, 1, 1, 1, 1, 0, 1, 1, 1], [51, 0, 2, 15, 3]), ([1, 1, 1, 1, 1, 0, 1, 1, 1], [2, 0]), ([0, 1, 1, 1, 1, 1, 1, 0, 1, 1, 1], [56, 0, 2, 3]), ([1, 1, 1, 1, 1, 1, 1, 0, 1, 1, 1], [2, 0]), ([0, 0, 1, 1, 1, 1, 1, 1, 1, 1, 0, 1, 1, 1], [18, 0, 3, 2]), ([1, 0, 1, 1, 1, 1, 1, 1, 1, 1, 0, 1, 1, 1], [0, 3, 2]), ([0, 1, 0, 1, 1, 1, 1, 1, 1, 1, 1, 0, 1, 1, 1], [0, 3, 2]), ([0, 1, 1, 1, 1, 1, 1, 1, 1, 1, 0, 1, 1, 1], [3, 2, 0]), ([0, 1, 1, 1, 1, 1, 1, 1, 1, 1, 1, 0, 1, 1, 1], [2, 0]), ([1, 1, 1, 1, 1, 1, 1, 1, 1, 1, 1, 0, 1, 1, 1], [2, 0]), ([0, 0, 1, 1, 1, 1, 1, 1, 1, 0, 1, 1, 1], [4, 2, 0]), ([0, 1, 0, 1, 1, 1, 1, 1, 1, 1, 0, 1, 1, 1], [2, 0]), ([1, 1, 0, 1, 1, 1, 1, 1, 1, 1, 0, 1, 1, 1], [2, 0]), ([0, 0, 1, 1, 1, 1, 1, 0, 1, 1, 1], [2, 0]), ([1, 0, 1, 1, 1, 1, 1, 0, 1, 1, 1], [2, 0]), ([0, 0, 1, 1, 1, 0, 1, 1, 1], [2, 0]), ([0, 1, 0, 1, 1, 1, 0, 1, 1, 1], [2, 0]), ([1, 1, 0, 1, 1, 1, 0, 1, 1, 1], [2, 0]), (z13j, [2, 0]), (z14x, [2, 0]), ([1, 1, 1], [2, 0])]

def E_72 (N : Nat) (self : z7) : Env := z27 tys glob [(39, z79 N (zg N)), (40, zfr N), (41, z3u N), (42, z5l N), (43, z35 N), (44, z3v N)] [] [] [0] false [] []

theorem z1lz (N : Nat) (self : z7) : EnvOk Tryd.prog (E_72 N self) := zi mixed z16 (FnsOk.cons (zc1 N (zg N) (z2r N)) (FnsOk.cons (zld N) (FnsOk.cons (z5g N) (FnsOk.cons (zan N) (FnsOk.cons (z4z N) (FnsOk.cons (z5q N) (FnsOk.nil))))))) (ItsOk.nil)

def z4i (N : Nat) (self : z7) : PnT := pnT [(39, 36, z8l N self), (42, 36, z71 N), (43, 36, z4t N), (20, 36, zo N), (19, 36, zh1 [(0, .box TT4)] (fun x => self x.1) (fun z => ⟨TT6, z⟩))]

theorem z9j (N : Nat) (self : z7) (hself : ContractP Tryd.prog glob 19 36 (zh1 [(0, .box TT4)] (fun x => self x.1) (fun z => ⟨TT6, z⟩))) : PnOk Tryd.prog glob (z4i N self) := PnOk.cons (zeo N self hself) (PnOk.cons (zcs N) (PnOk.cons (z8n N) (PnOk.cons (zz N) (PnOk.cons (hself) (PnOk.nil)))))

def z61 (N : Nat) (self : z7) (p : DT5) (x2 : DT1) (b : Int) (k0 : (Int × (Int × Unit)) -> Option (Int × (Int × Unit))) (k1 : Option (Int × (Int × Unit))) : Option (Int × (Int × Unit)) :=
 cond (decide ((0 : Int) <= (Go.Lib.indexByte ([(92 : UInt8), (46 : UInt8), (91 : UInt8), (93 : UInt8), (40 : UInt8), (41 : UInt8), (123 : UInt8), (125 : UInt8), (124 : UInt8), (42 : UInt8), (43 : UInt8), (63 : UInt8)] : List UInt8) (Nat.toUInt8 (Int.toNat b)))))
 (k0 ((2 : Int), (p.2.1, ())))
 (k1)

def z1jk (N : Nat) (self : z7) (x : z1a z14u) (K : ExP -> List A -> Option (Int × (Int × Unit))) : Option (Int × (Int × Unit)) :=
 z61 N self x.1 x.2.1 x.2.2.1 (fun a0 => (K (.pan 36) (mkS [(0, .v TT6)] 0 (a0, ())))) (K .normal (mkS z14u 61 (x.1, x.2.1, x.2.2.1, ())))

def z1ge (N : Nat) (self : z7) : HdP (Int × (Int × Unit)) := fun st K => (unS z14u 61 (restr [3, 0, 2] 0 st)).bind fun x => z1jk N self x K

def t1_72 (N : Nat) (self : z7) : zcr (Int × (Int × Unit)) := []

theorem z1cx {N : Nat} {self : z7} {c : Ctx} (hb : Base Tryd.prog (E_72 N self) c) (hP : PnOk Tryd.prog glob (z4i N self)) : z22 Tryd.prog c (zf zul z1af) (z1ge N self) :=
  z25 (s := z14u) (m := 61) (g := z1jk N self) [3, 0, 2] (z1n hb hP N (t1_72 N self) L_72 zul TabOkP.nil z1af _ rfl) (fun x K => by kernel_rfl)

def z3w (N : Nat) (self : z7) (p : DT5) : Option (Int × (Int × Unit)) :=
 cond (inR p.2.1 (List.length p.1))
 (cond ((((UInt8.toNat (List.getD p.1 (Int.toNat p.2.1) (0 : UInt8))) : Nat) : Int) == (40 : Int))
 (orP ((z3n N self p)) (fun z => some z)
 ((z44 N (zg N) p).bind fun y =>
 none))
 (cond ((((UInt8.toNat (List.getD p.1 (Int.toNat p.2.1) (0 : UInt8))) : Nat) : Int) == (46 : Int))
 ((z2h N (0 : Int) (255 : Int)).bind fun y1 =>
 none)
 (cond ((((UInt8.toNat (List.getD p.1 (Int.toNat p.2.1) (0 : UInt8))) : Nat) : Int) == (91 : Int))
 (orP ((z2k N p)) (fun z1 => some z1)
 ((z2y N p).bind fun y2 =>
 none))
 (cond ((((UInt8.toNat (List.getD p.1 (Int.toNat p.2.1) (0 : UInt8))) : Nat) : Int) == (92 : Int))
 (orP ((z28 N p)) (fun z2 => some z2)
 ((z24 N p).bind fun y3 =>
 none))
 (z61 N self p ((0 : Int), (([(0 : Int), (0 : Int), (0 : Int), (0 : Int)] : List Int), (([] : List Tree), ((0 : Int), ((0 : Int), ()))))) (((UInt8.toNat (List.getD p.1 (Int.toNat p.2.1) (0 : UInt8))) : Nat) : Int)
 (fun p1 => some p1)
 ((z2h N (((UInt8.toNat (List.getD p.1 (Int.toNat p.2.1) (0 : UInt8))) : Nat) : Int) (((UInt8.toNat (List.getD p.1 (Int.toNat p.2.1) (0 : UInt8))) : Nat) : Int)).bind fun y4 =>
 none))))))
 (none)

def t_72 (N : Nat) (self : z7) : zcr (Int × (Int × Unit)) := [(z1af, z1ge N self)]

theorem z16c (N : Nat) (self : z7) (x : z1a [(0, .box TT4)]) : zh3 (E_72 N self) (z4i N self) N (t_72 N self) L_72 Tryd.f34 36 TT6 (mkS [(0, .box TT4)] 0 x) (fun z => some z) = z3w N self x.1 := by kernel_rfl

def z9i (N : Nat) (self : z7) : List A -> PnRes := zh1 [(0, .box TT4)] (fun x => z3w N self x.1) (fun z => ⟨TT6, z⟩)

theorem zf3 (N : Nat) (self : z7) (hself : ContractP Tryd.prog glob 19 36 (zh1 [(0, .box TT4)] (fun x => self x.1) (fun z => ⟨TT6, z⟩))) : ContractP Tryd.prog glob 34 36 (z9i N self) :=
  ContractP.of (E := E_72 N self) (Pn := z4i N self) (H := t_72 N self) (L := L_72) (N := N) (body := zul) (t := TT6) (z1lz N self) (z9j N self hself) Tryd.func34 (by kernel_rfl) (by decide) (fun _ hb => (TabOkP.cons (z1cx hb (z9j N self hself)) TabOkP.nil)) (fun x y h => by rw [z16c]; exact h)

def zuk : Code := (Tryd.f32.body).getD .skip

def L_73 : List (List Nat × List Nat) := [([0], [0, 2]), ([0, 1], [0, 3, 2]), ([0, 0, 1, 1], [16, 3, 2, 0]), ([1, 0, 1, 1], [3, 0, 2]), ([0, 0, 1, 0, 1, 1], [2, 0]), ([1, 0, 1, 0, 1, 1], [2, 0]), ([0, 1, 1, 1], [0, 4, 2, 3]), ([0, 0, 1, 1, 1, 1], [29, 4, 0, 2, 3]), ([0, 0, 0, 0, 0, 0, 0, 0, 0, 0, 0, 0, 0, 0, 1, 0, 1, 1, 1, 1], [30, 4, 0, 2, 29, 3]), ([1, 0, 0, 0, 0, 0, 0, 0, 0, 0, 0, 0, 0, 0, 1, 0, 1, 1, 1, 1], [29, 0, 4, 2, 3]), ([0, 1, 0, 0, 0, 0, 0, 0, 0, 0, 0, 0, 0, 0, 0, 1, 0, 1, 1, 1, 1], [4, 0, 2]), ([0, 0, 1, 0, 0, 0, 0, 0, 0, 0, 0, 0, 0, 0, 0, 1, 0, 1, 1, 1, 1], [32, 0, 4, 2, 29, 3]), ([1, 0, 1, 0, 0, 0, 0, 0, 0, 0, 0, 0, 0, 0, 0, 1, 0, 1, 1, 1, 1], [29, 0, 4, 2, 3]), ([0, 1, 0, 1, 0, 0, 0, 0, 0, 0, 0, 0, 0, 0, 0, 0, 1, 0, 1, 1, 1, 1], [0, 4, 2]), ([0, 0, 1, 1, 0, 0, 0, 0, 0, 0, 0, 0, 0, 0, 0, 0, 1, 0, 1, 1, 1, 1], [34, 0, 4, 2, 29, 3]), ([1, 0, 1, 1, 0, 0, 0, 0, 0, 0, 0, 0, 0, 0, 0, 0, 1, 0, 1, 1, 1, 1], [29, 0, 4, 2, 3]), ([0, 1, 0, 1, 1, 0, 0, 0, 0, 0, 0, 0, 0, 0, 0, 0, 0, 1, 0, 1, 1, 1, 1], [0, 4, 2]), ([0, 1, 1, 1, 0, 0, 0, 0, 0, 0, 0, 0, 0, 0, 0, 0, 1, 0, 1, 1, 1, 1], [36, 0, 4, 2, 3]), ([1, 1, 1, 1, 0, 0, 0, 0, 0, 0, 0, 0, 0, 0, 0, 0, 1, 0, 1, 1, 1, 1], [3, 2, 0]), ([0, 1, 1, 1, 1, 0, 0, 0, 0, 0, 0, 0, 0, 0, 0, 0, 0, 1, 0, 1, 1, 1, 1], [0, 4, 2]), ([1, 0, 0, 0, 0, 0, 0, 0, 0, 0, 0, 0, 1, 0, 1, 1, 1, 1], [3, 2, 0]), ([0, 0, 0, 0, 0, 0, 0, 0, 0, 0, 1, 0, 1, 1, 1, 1], [4, 0, 2]), ([1, 0, 0, 0, 0, 0, 0, 0, 0, 0, 1, 0, 1, 1, 1, 1], [0, 4, 2]), (z14z, [0, 4, 2]), ([0, 1, 0, 0, 0, 0, 0, 0, 0, 1, 0, 1, 1, 1, 1], [4, 2, 0]), ([1, 1, 0, 0, 0, 0, 0, 0, 0, 1, 0, 1, 1, 1, 1], [4, 2, 0]), ([0, 0, 0, 0, 0, 0, 1, 0, 1, 1, 1, 1], [0, 4, 2]), ([0, 0, 1, 0, 0, 0, 0, 0, 1, 0, 1, 1, 1, 1], [4, 2, 0]), ([1, 0, 1, 0, 0, 0, 0, 0, 1, 0, 1, 1, 1, 1], [4, 2, 0]), ([1, 1, 0, 0, 0, 0, 0, 1, 0, 1, 1, 1, 1], [4, 2, 0]), ([0, 0, 0, 0, 1, 0, 1, 1, 1, 1], [0, 4, 2]), ([0, 0, 1, 0, 0, 0, 1, 0, 1, 1, 1, 1], [0, 4, 2]), ([1, 0, 1, 0, 0, 0, 1, 0, 1, 1, 1, 1], [4, 2, 0]), ([1, 1, 0, 0, 0, 1, 0, 1, 1, 1, 1], [4, 2, 0]), (z11x, [3, 2, 0]), ([0, 0, 1, 0, 1, 0, 1, 1, 1, 1], [2, 0]), ([1, 0, 1, 0, 1, 0, 1, 1, 1, 1], [2, 0]), ([1, 1, 0, 1, 0, 1, 1, 1, 1], [4, 2, 0]), ([1, 0, 1, 1, 1, 1], [4, 2, 0]), ([0, 1, 1, 1, 1, 1], [2, 0]), ([1, 1, 1, 1, 1, 1], [2, 0])]

def E_73 (N : Nat) (self : z7) : Env := z27 tys glob [(34, z7v N (zg N)), (35, z6s N)] [] [] [0] false [] []

theorem z1ly (N : Nat) (self : z7) : EnvOk Tryd.prog (E_73 N self) := zi mixed z16 (FnsOk.cons (zck N (zg N) (z2r N)) (FnsOk.cons (zb9 N) (FnsOk.nil))) (ItsOk.nil)

def z40 (N : Nat) (self : z7) : PnT := pnT [(34, 36, z9i N self), (35, 36, z7u N), (19, 36, zh1 [(0, .box TT4)] (fun x => self x.1) (fun z => ⟨TT6, z⟩))]

theorem z8k (N : Nat) (self : z7) (hself : ContractP Tryd.prog glob 19 36 (zh1 [(0, .box TT4)] (fun x => self x.1) (fun z => ⟨TT6, z⟩))) : PnOk Tryd.prog glob (z40 N self) := PnOk.cons (zf3 N self hself) (PnOk.cons (ze2 N) (PnOk.cons (hself) (PnOk.nil)))

def z5i (N : Nat) (self : z7) (p : DT5) (x2 : DT1) (kid : DT1) (rep : DT1) (x29 : Int) (k0 : DT1 -> Option (Int × (Int × Unit))) (k1 : Option (Int × (Int × Unit))) (k2 : Option (Int × (Int × Unit))) (k3 : Option (Int × (Int × Unit))) : Option (Int × (Int × Unit)) :=
 cond (x29 == (43 : Int))
 (k0 (rep.1, (rep.2.1, (rep.2.2.1, ((1 : Int), rep.2.2.2.2)))))
 (cond (x29 == (42 : Int))
 (k0 rep)
 (cond (x29 == (63 : Int))
 (k1)
 (cond (x29 == (123 : Int))
 (k2)
 (k3))))

def z1jj (N : Nat) (self : z7) (x : z1a z1a2) (K : ExP -> List A -> Option (Int × (Int × Unit))) : Option (Int × (Int × Unit)) :=
 z5i N self x.1 x.2.1 x.2.2.1 x.2.2.2.1 x.2.2.2.2.1 (fun a2 => (K .normal (mkS z19y 65 (x.1, x.2.1, a2, ())))) (K (.exit 3) (mkS z19y 65 (x.1, x.2.1, x.2.2.2.1, ()))) (K (.exit 4) (mkS z19y 65 (x.1, x.2.1, x.2.2.2.1, ()))) (K (.exit 5) (mkS [(0, .box TT4), (1, .box TT0), (0, .box TT0)] 66 (x.1, x.2.1, x.2.2.1, ())))

def z1gd (N : Nat) (self : z7) : HdP (Int × (Int × Unit)) := fun st K => (unS z1a2 40 (restr [29, 4, 0, 2, 3] 0 st)).bind fun x => z1jj N self x K

def t1_73 (N : Nat) (self : z7) : zcr (Int × (Int × Unit)) := []

theorem z1cw {N : Nat} {self : z7} {c : Ctx} (hb : Base Tryd.prog (E_73 N self) c) (hP : PnOk Tryd.prog glob (z40 N self)) : z22 Tryd.prog c (zf zuk z14z) (z1gd N self) :=
  z25 (s := z1a2) (m := 40) (g := z1jj N self) [29, 4, 0, 2, 3] (z1n hb hP N (t1_73 N self) L_73 zuk TabOkP.nil z14z _ rfl) (fun x K => by kernel_rfl)

def z2c (N : Nat) (self : z7) (p : DT5) : Option (Int × (Int × Unit)) :=
 orP ((z3w N self p)) (fun z => some z)
 ((z4m N (zg N) p).bind fun y =>
 cond (y.2.1.2.1 == (((List.length y.2.1.1) : Nat) : Int))
 (none)
 (cond (inR y.2.1.2.1 (List.length y.2.1.1))
 (z5i N self y.2.1 ((0 : Int), (([(0 : Int), (0 : Int), (0 : Int), (0 : Int)] : List Int), (([] : List Tree), ((0 : Int), ((0 : Int), ()))))) y.1 ((4 : Int), (([(0 : Int), (0 : Int), (0 : Int), (0 : Int)] : List Int), ((List.map foN ([y.1] : List DT7)), ((0 : Int), ((-(1 : Int)), ()))))) (((UInt8.toNat (List.getD y.2.1.1 (Int.toNat y.2.1.2.1) (0 : UInt8))) : Nat) : Int)
 (fun rep => none)
 (none)
 (orP ((z38 N (y.2.1.1, ((IntKind.wrap IntKind.i64 (y.2.1.2.1 + (1 : Int))), y.2.1.2.2)))) (fun z1 => some z1)
 ((z3o N (y.2.1.1, ((IntKind.wrap IntKind.i64 (y.2.1.2.1 + (1 : Int))), y.2.1.2.2))).bind fun y1 =>
 none))
 (none))
 (none)))

def t_73 (N : Nat) (self : z7) : zcr (Int × (Int × Unit)) := [(z14z, z1gd N self)]

theorem z16b (N : Nat) (self : z7) (x : z1a [(0, .box TT4)]) : zh3 (E_73 N self) (z40 N self) N (t_73 N self) L_73 Tryd.f32 36 TT6 (mkS [(0, .box TT4)] 0 x) (fun z => some z) = z2c N self x.1 := by kernel_rfl

def z8j (N : Nat) (self : z7) : List A -> PnRes := zh1 [(0, .box TT4)] (fun x => z2c N self x.1) (fun z => ⟨TT6, z⟩)

theorem zen (N : Nat) (self : z7) (hself : ContractP Tryd.prog glob 19 36 (zh1 [(0, .box TT4)] (fun x => self x.1) (fun z => ⟨TT6, z⟩))) : ContractP Tryd.prog glob 32 36 (z8j N self) :=
  ContractP.of (E := E_73 N self) (Pn := z40 N self) (H := t_73 N self) (L := L_73) (N := N) (body := zuk) (t := TT6) (z1ly N self) (z8k N self hself) Tryd.func32 (by kernel_rfl) (by decide) (fun _ hb => (TabOkP.cons (z1cw hb (z8k N self hself)) TabOkP.nil)) (fun x y h => by rw [z16b]; exact h)

def zj4 : Code := (Tryd.f25.body).getD .skip

def z1lm : List (List Nat × List Nat) := [([0], [0, 2]), ([0, 1], [0, 3, 2]), ([0, 0, 1, 1], [0, 3, 2]), ([0, 0, 0, 0, 0, 1, 1], [37, 3, 0, 2]), ([1, 0, 0, 0, 0, 1, 1], [3, 0, 2]), (z11r, [3, 2, 0]), ([0, 1, 0, 0, 0, 1, 1], [0, 3, 2]), ([1, 0, 0, 0, 1, 1], [0, 3, 2]), ([0, 1, 1], [3, 2, 0]), ([0, 1, 1, 1], [2, 0]), ([1, 1, 1, 1], [2, 0])]

def z1ak (N : Nat) (self : z7) : Env := z27 tys glob [(27, z9k N), (32, z78 N (zg N))] [(3, TT0)] [] [0] false [] []

theorem z1lx (N : Nat) (self : z7) : EnvOk Tryd.prog (z1ak N self) := zi mixed z16 (FnsOk.cons (zct N) (FnsOk.cons (zc0 N (zg N) (z2r N)) (FnsOk.nil))) (ItsOk.nil)

def z2d (N : Nat) (self : z7) : PnT := pnT [(32, 36, z8j N self), (19, 36, zh1 [(0, .box TT4)] (fun x => self x.1) (fun z => ⟨TT6, z⟩))]

theorem zal (N : Nat) (self : z7) (hself : ContractP Tryd.prog glob 19 36 (zh1 [(0, .box TT4)] (fun x => self x.1) (fun z => ⟨TT6, z⟩))) : PnOk Tryd.prog glob (z2d N self) := PnOk.cons (zen N self hself) (PnOk.cons (hself) (PnOk.nil))

def z6q (N : Nat) (self : z7) (p : DT5) (x2 : DT1) (parts : (List DT1)) (k0 : Option (Int × (Int × Unit))) (k1 : Option (Int × (Int × Unit))) : Option (Int × (Int × Unit)) :=
 cond (decide (p.2.1 < (((List.length p.1) : Nat) : Int)))
 (cond (inR p.2.1 (List.length p.1))
 (cond ((((UInt8.toNat (List.getD p.1 (Int.toNat p.2.1) (0 : UInt8))) : Nat) : Int) != (124 : Int))
 (cond (inR p.2.1 (List.length p.1))
 (cond ((((UInt8.toNat (List.getD p.1 (Int.toNat p.2.1) (0 : UInt8))) : Nat) : Int) != (41 : Int))
 (k0)
 (k1))
 (none))
 (k1))
 (none))
 (k1)

def z1ia (N : Nat) (self : z7) (x : z1a SQ4) (K : ExP -> List A -> Option (Int × (Int × Unit))) : Option (Int × (Int × Unit)) :=
 z6q N self x.1 x.2.1 x.2.2.1 (K .normal (mkS SQ4 41 (x.1, x.2.1, x.2.2.1, ()))) (K (.exit 0) (mkS SQ4 41 (x.1, x.2.1, x.2.2.1, ())))

def z1f4 (N : Nat) (self : z7) : HdP (Int × (Int × Unit)) := fun st K => (unS SQ4 41 (restr [0, 3, 2] 0 st)).bind fun x => z1ia N self x K

def t3_74 (N : Nat) (self : z7) : zcr (Int × (Int × Unit)) := []

theorem z1bn {N : Nat} {self : z7} {c : Ctx} (hb : Base Tryd.prog (z1ak N self) c) (hP : PnOk Tryd.prog glob (z2d N self)) : z22 Tryd.prog c (zf zj4 [0, 0, 0, 0, 1, 1]) (z1f4 N self) :=
  z25 (s := SQ4) (m := 41) (g := z1ia N self) [0, 3, 2] (z1n hb hP N (t3_74 N self) z1lm zj4 TabOkP.nil [0, 0, 0, 0, 1, 1] _ rfl) (fun x K => by kernel_rfl)

def z36 (N : Nat) (self : z7) (x2 : DT1) (p : DT5) (parts : (List DT1)) (rec : DT5 -> (List DT1) -> Option (Int × (Int × Unit))) (k0 : (Int × (Int × Unit)) -> Option (Int × (Int × Unit))) (k1 : DT5 -> (List DT1) -> Option (Int × (Int × Unit))) : Option (Int × (Int × Unit)) :=
 z6q N self p x2 parts
 (orP ((z2c N self p)) (fun z => k0 z)
 ((z2b N (zg N) p).bind fun y =>
 cond (decide ((((List.length parts) + 1) * 80) <= 70368744177664))
 (rec y.2.1 (parts ++ ([y.1] : List DT7)))
 (none)))
 (k1 p parts)

def zau (N : Nat) (self : z7) (p : DT5) (x2 : DT1) (parts : (List DT1)) (k0 : (Int × (Int × Unit)) -> Option (Int × (Int × Unit))) (k1 : DT5 -> (List DT1) -> Option (Int × (Int × Unit))) : Option (Int × (Int × Unit)) :=
 iter (fun (v : (DT5 × (List DT1))) r => z36 N self x2 v.1 v.2 (fun p parts => (r (p, parts))) k0 k1) N (p, parts)

def z1ip (N : Nat) (self : z7) (i : DT1) (v : (DT5 × (List DT1))) (r : (DT5 × (List DT1)) -> Option (Int × (Int × Unit))) (K : ExP -> List A -> Option (Int × (Int × Unit))) : Option (Int × (Int × Unit)) :=
 z36 N self i v.1 v.2 (fun p parts => (r (p, parts))) (fun a0 => (K (.pan 36) (mkS [(0, .v TT6)] 0 (a0, ())))) (fun a0 a2 => (K (.exit 0) (mkS SQ4 41 (a0, i, a2, ()))))

def z1fj (N : Nat) (self : z7) : HdP (Int × (Int × Unit)) := fun st K => (unS SQ4 41 (restr [0, 3, 2] 0 st)).bind fun x => iter (fun v r => z1ip N self ((fun x => x.2.1) x) v r K) N ((fun x => (x.1, x.2.2.1)) x)

def t2_74 (N : Nat) (self : z7) : zcr (Int × (Int × Unit)) := [([0, 0, 0, 0, 1, 1], z1f4 N self)]

theorem z1c2 {N : Nat} {self : z7} {c : Ctx} (hb : Base Tryd.prog (z1ak N self) c) (hP : PnOk Tryd.prog glob (z2d N self)) : z22 Tryd.prog c (zf zj4 [0, 0, 1, 1]) (z1fj N self) :=
  zm5 (s := SQ4) (m := 41) (z1ip N self) [0, 3, 2] N (fun x => x.2.1) (fun x => (x.1, x.2.2.1)) (fun i v => (v.1, i, v.2, ())) (fun _ => rfl) (z1n hb hP N (t2_74 N self) z1lm zj4 (TabOkP.cons (z1bn hb hP) TabOkP.nil) [0, 0, 0, 1, 1] _ rfl) (fun i v r K => by kernel_rfl)

def z6r (N : Nat) (self : z7) (p : DT5) (x2 : DT1) (parts : (List DT1)) (k0 : (Int × (Int × Unit)) -> Option (Int × (Int × Unit))) (k1 : DT5 -> (List DT1) -> Option (Int × (Int × Unit))) : Option (Int × (Int × Unit)) :=
 zau N self p x2 parts
 (fun p1 => k0 p1)
 (fun p2 zh2 => k1 p2 zh2)

def z1ji (N : Nat) (self : z7) (x : z1a SQ4) (K : ExP -> List A -> Option (Int × (Int × Unit))) : Option (Int × (Int × Unit)) :=
 z6r N self x.1 x.2.1 x.2.2.1 (fun a0 => (K (.pan 36) (mkS [(0, .v TT6)] 0 (a0, ())))) (fun a0 a2 => (K .normal (mkS SQ4 41 (a0, x.2.1, a2, ()))))

def z1gc (N : Nat) (self : z7) : HdP (Int × (Int × Unit)) := fun st K => (unS SQ4 41 (restr [0, 3, 2] 0 st)).bind fun x => z1ji N self x K

def t1_74 (N : Nat) (self : z7) : zcr (Int × (Int × Unit)) := [([0, 0, 1, 1], z1fj N self)]

theorem z1cv {N : Nat} {self : z7} {c : Ctx} (hb : Base Tryd.prog (z1ak N self) c) (hP : PnOk Tryd.prog glob (z2d N self)) : z22 Tryd.prog c (zf zj4 [0, 1, 1]) (z1gc N self) :=
  z25 (s := SQ4) (m := 41) (g := z1ji N self) [0, 3, 2] (z1n hb hP N (t1_74 N self) z1lm zj4 (TabOkP.cons (z1c2 hb hP) TabOkP.nil) [0, 1, 1] _ rfl) (fun x K => by kernel_rfl)

def z3c (N : Nat) (self : z7) (p : DT5) : Option (Int × (Int × Unit)) :=
 z6r N self p ((0 : Int), (([(0 : Int), (0 : Int), (0 : Int), (0 : Int)] : List Int), (([] : List Tree), ((0 : Int), ((0 : Int), ()))))) ([] : List DT7)
 (fun p1 => some p1)
 (fun p2 parts => (z8b N (2 : Int) (List.map foN parts)).bind fun y =>
 none)

def t_74 (N : Nat) (self : z7) : zcr (Int × (Int × Unit)) := [([0, 1, 1], z1gc N self)]

theorem z16a (N : Nat) (self : z7) (x : z1a [(0, .box TT4)]) : zh3 (z1ak N self) (z2d N self) N (t_74 N self) z1lm Tryd.f25 36 TT6 (mkS [(0, .box TT4)] 0 x) (fun z => some z) = z3c N self x.1 := by kernel_rfl

def zak (N : Nat) (self : z7) : List A -> PnRes := zh1 [(0, .box TT4)] (fun x => z3c N self x.1) (fun z => ⟨TT6, z⟩)

theorem zfq (N : Nat) (self : z7) (hself : ContractP Tryd.prog glob 19 36 (zh1 [(0, .box TT4)] (fun x => self x.1) (fun z => ⟨TT6, z⟩))) : ContractP Tryd.prog glob 25 36 (zak N self) :=
  ContractP.of (E := z1ak N self) (Pn := z2d N self) (H := t_74 N self) (L := z1lm) (N := N) (body := zj4) (t := TT6) (z1lx N self) (zal N self hself) Tryd.func25 (by kernel_rfl) (by decide) (fun _ hb => (TabOkP.cons (z1cv hb (zal N self hself)) TabOkP.nil)) (fun x y h => by rw [z16a]; exact h)

def zr0 : Code := (Tryd.f19.body).getD .skip

def L_75 : List (List Nat × List Nat) := [([0], [0, 2]), ([0, 1], [0, 3, 2]), ([0, 0, 1, 1], [0, 3, 2]), ([0, 0, 0, 0, 0, 1, 1], [8, 3, 0, 2]), ([1, 0, 0, 0, 0, 1, 1], [3, 0, 2]), (z11r, [3, 2, 0]), ([0, 1, 0, 0, 0, 1, 1], [0, 3, 2]), ([1, 0, 0, 0, 1, 1], [0, 3, 2]), ([0, 1, 1], [3, 2, 0]), ([0, 1, 1, 1], [2, 0]), ([1, 1, 1, 1], [2, 0])]

def E_75 (N : Nat) (self : DT5 -> Option (Int × (Int × Unit))) : Env := z27 tys glob [(25, z90 N (zg N)), (26, z1i N), (27, z9k N)] [(3, TT0)] [] [0] false [] []

theorem z1lw (N : Nat) (self : DT5 -> Option (Int × (Int × Unit))) : EnvOk Tryd.prog (E_75 N self) := zi mixed z16 (FnsOk.cons (zdd N (zg N) (z2r N)) (FnsOk.cons (z1z N) (FnsOk.cons (zct N) (FnsOk.nil)))) (ItsOk.nil)

def z51 (N : Nat) (self : DT5 -> Option (Int × (Int × Unit))) : PnT := pnT [(25, 36, zak N self), (19, 36, zh1 [(0, .box TT4)] (fun x => self x.1) (fun z => ⟨TT6, z⟩))]

theorem zao (N : Nat) (self : DT5 -> Option (Int × (Int × Unit))) (hself : ContractP Tryd.prog glob 19 36 (zh1 [(0, .box TT4)] (fun x => self x.1) (fun z => ⟨TT6, z⟩))) : PnOk Tryd.prog glob (z51 N self) := PnOk.cons (zfq N self hself) (PnOk.cons (hself) (PnOk.nil))

def z4j (N : Nat) (self : DT5 -> Option (Int × (Int × Unit))) (x2 : DT1) (p : DT5) (parts : (List DT1)) (rec : DT5 -> (List DT1) -> Option (Int × (Int × Unit))) (k0 : (Int × (Int × Unit)) -> Option (Int × (Int × Unit))) (k1 : DT5 -> (List DT1) -> Option (Int × (Int × Unit))) : Option (Int × (Int × Unit)) :=
 (zw N p (124 : Int)).bind fun y =>
 cond y.1
 (orP ((z3c N self y.2.1)) (fun z => k0 z)
 ((z3j N (zg N) y.2.1).bind fun y1 =>
 cond (decide ((((List.length parts) + 1) * 80) <= 70368744177664))
 (rec y1.2.1 (parts ++ ([y1.1] : List DT7)))
 (none)))
 (k1 y.2.1 parts)

def zav (N : Nat) (self : DT5 -> Option (Int × (Int × Unit))) (p : DT5) (x2 : DT1) (parts : (List DT1)) (k0 : (Int × (Int × Unit)) -> Option (Int × (Int × Unit))) (k1 : DT5 -> (List DT1) -> Option (Int × (Int × Unit))) : Option (Int × (Int × Unit)) :=
 iter (fun (v : (DT5 × (List DT1))) r => z4j N self x2 v.1 v.2 (fun p parts => (r (p, parts))) k0 k1) N (p, parts)

def z1jh (N : Nat) (self : DT5 -> Option (Int × (Int × Unit))) (i : DT1) (v : (DT5 × (List DT1))) (r : (DT5 × (List DT1)) -> Option (Int × (Int × Unit))) (K : ExP -> List A -> Option (Int × (Int × Unit))) : Option (Int × (Int × Unit)) :=
 z4j N self i v.1 v.2 (fun p parts => (r (p, parts))) (fun a0 => (K (.pan 36) (mkS [(0, .v TT6)] 0 (a0, ())))) (fun a0 a2 => (K (.exit 0) (mkS SQ4 12 (a0, i, a2, ()))))

def z1gb (N : Nat) (self : DT5 -> Option (Int × (Int × Unit))) : HdP (Int × (Int × Unit)) := fun st K => (unS SQ4 12 (restr [0, 3, 2] 0 st)).bind fun x => iter (fun v r => z1jh N self ((fun x => x.2.1) x) v r K) N ((fun x => (x.1, x.2.2.1)) x)

def t1_75 (N : Nat) (self : DT5 -> Option (Int × (Int × Unit))) : zcr (Int × (Int × Unit)) := []

theorem z1cu {N : Nat} {self : DT5 -> Option (Int × (Int × Unit))} {c : Ctx} (hb : Base Tryd.prog (E_75 N self) c) (hP : PnOk Tryd.prog glob (z51 N self)) : z22 Tryd.prog c (zf zr0 [0, 0, 1, 1]) (z1gb N self) :=
  zm5 (s := SQ4) (m := 12) (z1jh N self) [0, 3, 2] N (fun x => x.2.1) (fun x => (x.1, x.2.2.1)) (fun i v => (v.1, i, v.2, ())) (fun _ => rfl) (z1n hb hP N (t1_75 N self) L_75 zr0 TabOkP.nil [0, 0, 0, 1, 1] _ rfl) (fun i v r K => by kernel_rfl)

def z52 (N : Nat) (self : DT5 -> Option (Int × (Int × Unit))) (p : DT5) : Option (Int × (Int × Unit)) :=
 orP ((z3c N self p)) (fun z => some z)
 ((z3j N (zg N) p).bind fun y =>
 zav N self y.2.1 ((0 : Int), (([(0 : Int), (0 : Int), (0 : Int), (0 : Int)] : List Int), (([] : List Tree), ((0 : Int), ((0 : Int), ()))))) ([y.1] : List DT7)
 (fun p1 => some p1)
 (fun p2 parts => (z8b N (3 : Int) (List.map foN parts)).bind fun y1 =>
 none))

def t_75 (N : Nat) (self : DT5 -> Option (Int × (Int × Unit))) : zcr (Int × (Int × Unit)) := [([0, 0, 1, 1], z1gb N self)]

theorem z169 (N : Nat) (self : DT5 -> Option (Int × (Int × Unit))) (x : z1a [(0, .box TT4)]) : zh3 (E_75 N self) (z51 N self) N (t_75 N self) L_75 Tryd.f19 36 TT6 (mkS [(0, .box TT4)] 0 x) (fun z => some z) = z52 N self x.1 := by kernel_rfl

def zr : Nat -> DT5 -> Option (Int × (Int × Unit))
  | 0 => fun _ => none
  | N + 1 => z52 (N + 1) (zr N)

def zf4 (N : Nat) : List A -> PnRes := zh1 [(0, .box TT4)] (fun x => zr N x.1) (fun z => ⟨TT6, z⟩)

theorem z6u : ∀ N : Nat, ContractP Tryd.prog glob 19 36 (zf4 N)
  | 0 => ContractP.zero Tryd.func19 (body := zr0) (by kernel_rfl) (by decide) (fun _ => rfl)
  | N + 1 => ContractP.of (E := E_75 (N + 1) (zr N)) (Pn := z51 (N + 1) (zr N)) (H := t_75 (N + 1) (zr N)) (L := L_75) (N := (N + 1)) (body := zr0) (t := TT6) (z1lw (N + 1) (zr N)) (zao (N + 1) (zr N) (z6u N)) Tryd.func19 (by kernel_rfl) (by decide) (fun _ hb => (TabOkP.cons (z1cu hb (zao (N + 1) (zr N) (z6u N))) TabOkP.nil)) (fun x y h => by rw [z169]; exact h)

end
end Go.Proofs.YtbfmhambfonpcaaDoorLg

set_option linter.all false
set_option maxRecDepth 100000
namespace Go.Proofs.YtbfmhambfonpcaaDoorLg
noncomputable section
open Go Go.Lift

def Cl (w : World) (n : Nat) (cs : List Value) : Prop := ∀ i v, cs[i]? = some v -> w.cell? ⟨n, i, none⟩ = some v /\ w.frozen? ⟨n, i, none⟩ = false

def PsW (w0 : World) (S0 S : Hp) (W : World) : Prop := WF w0 (fun _ => False) W /\ Lift.Sub S0 S /\ Lift.Sub S (hp W) /\ ∀ k, S k ≠ none -> S0 k ≠ none \/ w0.heap.size <= k

theorem PsW.drew {w0 W : World} {S0 S : Hp} (h : PsW w0 S0 S W) : PsW w0 S0 S W.drew := by
  obtain ⟨h1, h2, h3, h4⟩ := h
  exact ⟨⟨h1.size, h1.same, h1.tape, h1.os, h1.output⟩, h2, h3, h4⟩

theorem PsW.alloc {w0 W : World} {S0 S : Hp} (h : PsW w0 S0 S W) (cs : Array Value) (E : Nat) : PsW w0 S0 S (W.alloc (.cells cs E)) := by
  obtain ⟨h1, h2, h3, h4⟩ := h
  have hh : (W.alloc (.cells cs E)).heap = W.heap.push (.cells cs E (0, 0)) := rfl
  have hk : ∀ k, k < W.heap.size -> (W.alloc (.cells cs E)).heap[k]? = W.heap[k]? := fun k hk => by
    rw [hh, Array.getElem?_push, if_neg (by omega)]
  refine ⟨⟨by rw [hh, Array.size_push]; have := h1.size; omega, fun k h1' h2' => by rw [hk k (by have := h1.size; omega)]; exact h1.same k h1' h2', h1.tape, h1.os, h1.output⟩, h2, fun k q ho => ?_, h4⟩
  have := h3 k q ho
  simp only [hp] at this ⊢
  rw [hk k (Array.getElem?_eq_some_iff.1 this).1]
  exact this

theorem zhc {W : World} {p i : Nat} {v : Value} {k : Nat} (hk : k ≠ p) : (W.setCell ⟨p, i, none⟩ v).heap[k]? = W.heap[k]? := by
  unfold World.setCell
  split <;> simp [Array.getElem?_modify, Ne.symm hk]

theorem PsW.setCell {w0 W : World} {S0 S : Hp} {p i : Nat} {v : Value} (h : PsW w0 S0 S W) (hp' : w0.heap.size <= p) (hS : S p = none) : PsW w0 S0 S (W.setCell ⟨p, i, none⟩ v) := by
  obtain ⟨h1, h2, h3, h4⟩ := h
  have hsz : (W.setCell ⟨p, i, none⟩ v).heap.size = W.heap.size := by
    unfold World.setCell
    split <;> simp
  have ht : (W.setCell ⟨p, i, none⟩ v).tape = W.tape /\ (W.setCell ⟨p, i, none⟩ v).os = W.os /\ (W.setCell ⟨p, i, none⟩ v).output = W.output := by
    unfold World.setCell
    split
    . exact ⟨rfl, rfl, rfl⟩
    . exact ⟨rfl, rfl, rfl⟩
  refine ⟨⟨by rw [hsz]; exact h1.size, fun k h1' h2' => by rw [zhc (by omega)]; exact h1.same k h1' h2', by rw [ht.1]; exact h1.tape, by rw [ht.2.1]; exact h1.os, by rw [ht.2.2]; exact h1.output⟩, h2, fun k q ho => ?_, h4⟩
  have hk : k ≠ p := fun e => by rw [e, hS] at ho; cases ho
  have := h3 k q ho
  simp only [hp] at this ⊢
  rw [zhc hk]
  exact this

theorem z6h {w : World} {n : Nat} {cs : List Value} (h : Cl w n cs) (i : Nat) (v : Value) : Cl (w.setCell ⟨n, i, none⟩ v) n (cs.set i v) := by
  intro j u hj
  rw [List.getElem?_set] at hj
  by_cases e : i = j
  . subst e
    rw [if_pos rfl] at hj
    split at hj
    . rename_i hl
      cases hj
      obtain ⟨h1, h2⟩ := h i _ (List.getElem?_eq_getElem hl)
      constructor <;> simp [go_sem, h1, h2]
    . cases hj
  . rw [if_neg e] at hj
    obtain ⟨h1, h2⟩ := h j _ hj
    have e' : j ≠ i := fun h => e h.symm
    constructor <;> simp [go_sem, h1, h2, e, e']

theorem z1r {w : World} {n m : Nat} {cs : List Value} (h : Cl w n cs) (hne : m ≠ n) (i : Nat) (v : Value) : Cl (w.setCell ⟨m, i, none⟩ v) n cs := by
  intro j u hj
  obtain ⟨h1, h2⟩ := h j _ hj
  have e' : n ≠ m := fun h => hne h.symm
  constructor <;> simp [go_sem, h1, h2, hne, e']

theorem zhx {w : World} {n : Nat} {c : Value} {cs : List Value} (h : Cl w n (c :: cs)) (o : Obj) : Cl (w.alloc o) n (c :: cs) := by
  have hlt : n < w.heap.size := by
    have h0 := (h 0 c rfl).1
    rcases Nat.lt_or_ge n w.heap.size with h1 | h1
    . exact h1
    . simp [World.cell?, Array.getElem?_eq_none h1] at h0
  intro i v hi
  obtain ⟨h1, h2⟩ := h i v hi
  exact ⟨by rw [World.cell?_alloc_past _ _ _ hlt]; exact h1, by rw [World.frozen?_alloc_past _ _ _ hlt]; exact h2⟩

theorem zsx {w : World} {n : Nat} {c : Value} {cs : List Value} (h : Cl w n (c :: cs)) : n < w.heap.size := by
  have h0 := (h 0 c rfl).1
  rcases Nat.lt_or_ge n w.heap.size with h1 | h1
  . exact h1
  . simp [World.cell?, Array.getElem?_eq_none h1] at h0

theorem ps_idle {w : World} {n0 n1 : Nat} :
    CallsD Go.Proofs.Tryd.prog 18 #[.pointer (some ⟨n0, 0, none⟩), .pointer (some ⟨n1, 0, none⟩)] .returning w fun e u w' => (∃ v, e = .returned v) /\ u = .returning /\ w' = w.alloc (Obj.cells #[Value.int IntKind.i64 0, Value.int IntKind.i64 0] 36) := by
  refine callsD_of_wpS Go.Proofs.Tryd.func18 rfl fun c₀ cs hu => ?_
  have ha : ∀ W : World, (Instr.typeAssert .nilIface 20 36 true).run Go.Proofs.Tryd.prog W = .ok (.tuple #[.agg #[.int .i64 0, .int .i64 0], .bool false]) W := fun W => by kernel_rfl
  apply wpS_seq
  apply wpS_region
  simp only [Go.Proofs.Tryd.ntmps18, List.size_toArray, List.length_cons, List.length_nil, Nat.reduceAdd, Nat.reduceSub, Array.replicate_succ,
     Array.replicate_zero, List.push_toArray, List.append_toArray, List.nil_append, List.cons_append]
  simp [wpOpsS, go_sem, recoverD, hu, Exit.thenS, ha, List.range_succ]
  refine wpS_of_wp ?_
  go_wp2
  cases c₀
  simp_all [bodyPostS, results, Go.Proofs.Tryd.results18]

set_option maxHeartbeats 16000000 in
theorem zrw {w : World} {n0 n1 : Nat} {e a : Int} {y0 y1 : Value} {c0 c1 c2 c3 c4 c5 c6 c7 : Value} {R : World -> Prop} (h0 : Cl (w.alloc (Obj.cells #[Value.int IntKind.i64 e, Value.int IntKind.i64 a] 36)) n0 [c0, c1, c2, c3, c4, c5, c6, c7]) (h1 : Cl (w.alloc (Obj.cells #[Value.int IntKind.i64 e, Value.int IntKind.i64 a] 36)) n1 [y0, y1]) (hne : n0 ≠ n1) (hn2 : n0 ≠ w.heap.size) (hn3 : n1 ≠ w.heap.size)
    (hR : ∀ w', Cl w' n0 [.int .i64 0, .int .u64 0, .int .u64 0, .int .u64 0, .int .u64 0, .slice none 0 0, .int .i64 0, .int .i64 0] -> Cl w' n1 [.int .i64 e, .int .i64 a] →
      (∀ (w0 : World) (S0 S : Hp), PsW w0 S0 S w -> w0.heap.size <= n0 -> w0.heap.size <= n1 -> S n0 = none -> S n1 = none -> PsW w0 S0 S w') -> R w') :
    CallsD Go.Proofs.Tryd.prog 18 #[.pointer (some ⟨n0, 0, none⟩), .pointer (some ⟨n1, 0, none⟩)] (.panicking [{ v := .iface 36 (.agg #[.int .i64 e, .int .i64 a]), recovered := false }]) w fun r u w' => (∃ v, r = .returned v) /\ u = .panicking [{ v := .iface 36 (.agg #[.int .i64 e, .int .i64 a]), recovered := true }] /\ R w' := by
  refine callsD_of_wpS Go.Proofs.Tryd.func18 rfl fun c₀ cs hu => ?_
  have ha : ∀ W : World, (Instr.typeAssert (.iface 36 (.agg #[.int .i64 e, .int .i64 a])) 20 36 true).run Go.Proofs.Tryd.prog W = .ok (.tuple #[.agg #[.int .i64 e, .int .i64 a], .bool true]) W := fun W => by kernel_rfl
  have c00 : (w.alloc (Obj.cells #[Value.int IntKind.i64 e, Value.int IntKind.i64 a] 36)).cell? ⟨n0, 0, none⟩ = some (c0) := (h0 0 _ rfl).1
  have z00 : (w.alloc (Obj.cells #[Value.int IntKind.i64 e, Value.int IntKind.i64 a] 36)).frozen? ⟨n0, 0, none⟩ = false := (h0 0 _ rfl).2
  have c01 : (w.alloc (Obj.cells #[Value.int IntKind.i64 e, Value.int IntKind.i64 a] 36)).cell? ⟨n0, 1, none⟩ = some (c1) := (h0 1 _ rfl).1
  have z01 : (w.alloc (Obj.cells #[Value.int IntKind.i64 e, Value.int IntKind.i64 a] 36)).frozen? ⟨n0, 1, none⟩ = false := (h0 1 _ rfl).2
  have c02 : (w.alloc (Obj.cells #[Value.int IntKind.i64 e, Value.int IntKind.i64 a] 36)).cell? ⟨n0, 2, none⟩ = some (c2) := (h0 2 _ rfl).1
  have z02 : (w.alloc (Obj.cells #[Value.int IntKind.i64 e, Value.int IntKind.i64 a] 36)).frozen? ⟨n0, 2, none⟩ = false := (h0 2 _ rfl).2
  have c03 : (w.alloc (Obj.cells #[Value.int IntKind.i64 e, Value.int IntKind.i64 a] 36)).cell? ⟨n0, 3, none⟩ = some (c3) := (h0 3 _ rfl).1
  have z03 : (w.alloc (Obj.cells #[Value.int IntKind.i64 e, Value.int IntKind.i64 a] 36)).frozen? ⟨n0, 3, none⟩ = false := (h0 3 _ rfl).2
  have c04 : (w.alloc (Obj.cells #[Value.int IntKind.i64 e, Value.int IntKind.i64 a] 36)).cell? ⟨n0, 4, none⟩ = some (c4) := (h0 4 _ rfl).1
  have z04 : (w.alloc (Obj.cells #[Value.int IntKind.i64 e, Value.int IntKind.i64 a] 36)).frozen? ⟨n0, 4, none⟩ = false := (h0 4 _ rfl).2
  have c05 : (w.alloc (Obj.cells #[Value.int IntKind.i64 e, Value.int IntKind.i64 a] 36)).cell? ⟨n0, 5, none⟩ = some (c5) := (h0 5 _ rfl).1
  have z05 : (w.alloc (Obj.cells #[Value.int IntKind.i64 e, Value.int IntKind.i64 a] 36)).frozen? ⟨n0, 5, none⟩ = false := (h0 5 _ rfl).2
  have c06 : (w.alloc (Obj.cells #[Value.int IntKind.i64 e, Value.int IntKind.i64 a] 36)).cell? ⟨n0, 6, none⟩ = some (c6) := (h0 6 _ rfl).1
  have z06 : (w.alloc (Obj.cells #[Value.int IntKind.i64 e, Value.int IntKind.i64 a] 36)).frozen? ⟨n0, 6, none⟩ = false := (h0 6 _ rfl).2
  have c07 : (w.alloc (Obj.cells #[Value.int IntKind.i64 e, Value.int IntKind.i64 a] 36)).cell? ⟨n0, 7, none⟩ = some (c7) := (h0 7 _ rfl).1
  have z07 : (w.alloc (Obj.cells #[Value.int IntKind.i64 e, Value.int IntKind.i64 a] 36)).frozen? ⟨n0, 7, none⟩ = false := (h0 7 _ rfl).2
  have c10 : (w.alloc (Obj.cells #[Value.int IntKind.i64 e, Value.int IntKind.i64 a] 36)).cell? ⟨n1, 0, none⟩ = some (y0) := (h1 0 _ rfl).1
  have z10 : (w.alloc (Obj.cells #[Value.int IntKind.i64 e, Value.int IntKind.i64 a] 36)).frozen? ⟨n1, 0, none⟩ = false := (h1 0 _ rfl).2
  have c11 : (w.alloc (Obj.cells #[Value.int IntKind.i64 e, Value.int IntKind.i64 a] 36)).cell? ⟨n1, 1, none⟩ = some (y1) := (h1 1 _ rfl).1
  have z11 : (w.alloc (Obj.cells #[Value.int IntKind.i64 e, Value.int IntKind.i64 a] 36)).frozen? ⟨n1, 1, none⟩ = false := (h1 1 _ rfl).2
  apply wpS_seq
  apply wpS_region
  simp only [Go.Proofs.Tryd.ntmps18, List.size_toArray, List.length_cons, List.length_nil, Nat.reduceAdd, Nat.reduceSub, Array.replicate_succ,
     Array.replicate_zero, List.push_toArray, List.append_toArray, List.nil_append, List.cons_append]
  simp [wpOpsS, go_sem, recoverD, hu, Exit.thenS, ha, List.range_succ]
  refine wpS_of_wp ?_
  go_wp2
  go_region
  have hfin : R ((((((((((((w.alloc (Obj.cells #[Value.int IntKind.i64 e, Value.int IntKind.i64 a] 36)).setCell { block := n0, off := 0 } (.int .i64 0)).setCell { block := n0, off := 1 } (.int .u64 0)).setCell { block := n0, off := 2 } (.int .u64 0)).setCell { block := n0, off := 3 } (.int .u64 0)).setCell { block := n0, off := 4 } (.int .u64 0)).setCell { block := n0, off := 5 } (.slice none 0 0)).setCell { block := n0, off := 6 } (.int .i64 0)).setCell { block := n0, off := 7 } (.int .i64 0)).setCell { block := n1, off := 0 } (.int .i64 e)).setCell { block := n1, off := 1 } (.int .i64 a)).drew) := by
    refine hR _ ?_ ?_ ?_
    . intro i v hi
      rcases i with _ | _ | _ | _ | _ | _ | _ | _ | i
      case succ.succ.succ.succ.succ.succ.succ.succ => simp at hi
      all_goals (simp only [List.getElem?_cons_zero, List.getElem?_cons_succ, Option.some.injEq] at hi; subst hi; constructor <;> simp [go_sem, *])
    . intro i v hi
      rcases i with _ | _ | i
      case succ.succ => simp at hi
      all_goals (simp only [List.getElem?_cons_zero, List.getElem?_cons_succ, Option.some.injEq] at hi; subst hi; constructor <;> simp [go_sem, *])
    . intro w0 S0 S hw hl0 hl1 hS0 hS1
      exact (((((((((((hw.alloc _ _).setCell hl0 hS0).setCell hl0 hS0).setCell hl0 hS0).setCell hl0 hS0).setCell hl0 hS0).setCell hl0 hS0).setCell hl0 hS0).setCell hl0 hS0).setCell hl1 hS1).setCell hl1 hS1).drew
  change bodyPostS Go.Proofs.Tryd.prog Go.Proofs.Tryd.f18 c₀ cs _ _ _ _ _
  clear hR h0 h1 c00 z00 c01 z01 c02 z02 c03 z03 c04 z04 c05 z05 c06 z06 c07 z07 c10 z10 c11 z11
  cases c₀
  simp_all [bodyPostS, results, Go.Proofs.Tryd.results18]


theorem z15v {w : World} {s : List UInt8} {S : Hp} (hS : Lift.Sub S (hp w)) (hlen : (256 : Int) < s.length) :
    Calls Go.Proofs.Tryd.prog 14 #[.string ⟨⟨s⟩⟩] w fun r w' => r = .returned (.tuple #[.agg #[Value.int IntKind.i64 0, Value.int IntKind.u64 0, Value.int IntKind.u64 0, Value.int IntKind.u64 0, Value.int IntKind.u64 0, Value.slice none 0 0, Value.int IntKind.i64 0, Value.int IntKind.i64 0], .agg #[.int .i64 3, .int .i64 256]]) /\ PsW w S S w' := by
  have h0 : PsW w S S w := ⟨WF.refl _ _, Lift.Sub.refl _, hS, fun k hk => .inl hk⟩
  have hn0 : S w.heap.size = none := by
    cases hx : S w.heap.size with
    | none => rfl
    | some o => exact absurd (z9m (hS _ _ hx)) (Nat.lt_irrefl _)
  have hn1 : S (w.heap.size + 1) = none := by
    cases hx : S (w.heap.size + 1) with
    | none => rfl
    | some o => exact absurd (z9m (hS _ _ hx)) (by omega)
  go_enter Go.Proofs.Tryd.func14, Go.Proofs.Tryd.ntmps14
  go_wp2
  simp [bodyPost, results, Go.Proofs.Tryd.results14, go_sem]
  exact (h0.alloc _ _).alloc _ _

set_option maxHeartbeats 16000000 in
theorem ps_ok {w : World} {s : List UInt8} {S : Hp} {at_ : Int} {F : Hp -> Value -> Prop} (hlen : ¬ (256 : Int) < s.length)
    (hc : Calls Go.Proofs.Tryd.prog 19 #[.pointer (some ⟨w.heap.size + 1 + 1, 0, none⟩)] (((w.alloc (Obj.cells #[Value.int IntKind.i64 0, Value.int IntKind.u64 0, Value.int IntKind.u64 0, Value.int IntKind.u64 0, Value.int IntKind.u64 0, Value.slice none 0 0, Value.int IntKind.i64 0, Value.int IntKind.i64 0] 27)).alloc (Obj.cells #[Value.int IntKind.i64 0, Value.int IntKind.i64 0] 36)).alloc (Obj.cells #[Value.string ⟨⟨s⟩⟩, Value.int IntKind.i64 0, Value.int IntKind.i64 0] 45)) fun r w2 => ∃ (k a0 a1 a2 a3 lo hi : Int) (sp : Option Addr) (sn sc : Nat) (S' : Hp), r = .returned (.agg #[.int .i64 k, .int .u64 a0, .int .u64 a1, .int .u64 a2, .int .u64 a3, .slice sp sn sc, .int .i64 lo, .int .i64 hi]) /\ Cl w2 (w.heap.size) [.int .i64 0, .int .u64 0, .int .u64 0, .int .u64 0, .int .u64 0, .slice none 0 0, .int .i64 0, .int .i64 0] /\ Cl w2 (w.heap.size + 1) [.int .i64 0, .int .i64 0] /\ w2.cell? ⟨w.heap.size + 1 + 1, 1, none⟩ = some (.int .i64 at_) /\ S' (w.heap.size) = none /\ S' (w.heap.size + 1) = none /\ PsW w S S' w2 /\ F S' (.agg #[.int .i64 k, .int .u64 a0, .int .u64 a1, .int .u64 a2, .int .u64 a3, .slice sp sn sc, .int .i64 lo, .int .i64 hi]))
    (hat : ¬ at_ < s.length) :
    Calls Go.Proofs.Tryd.prog 14 #[.string ⟨⟨s⟩⟩] w fun r w' => ∃ v S', r = .returned (.tuple #[v, .agg #[.int .i64 0, .int .i64 0]]) /\ F S' v /\ PsW w S S' w' := by
  have hmf : ∀ (fn : Fn) (first cap : Array Value) (w : World), (Instr.makeFunc fn first cap).run Go.Proofs.Tryd.prog w = .ok (.func fn first cap) w := fun _ _ _ _ => rfl
  have p1 : w.heap.size + 1 + 1 ≠ w.heap.size := by omega
  have p2 : w.heap.size + 1 ≠ w.heap.size := by omega
  go_enter_defers Go.Proofs.Tryd.func14, Go.Proofs.Tryd.ntmps14
  go_wp2_with (first
    | (go_at_call 19; refine hc.mono ?_; rintro r w2 ⟨k, a0, a1, a2, a3, lo, hi, sp, sn, sc, S', rfl, hC0, hC1, hat2, hs0, hs1, hP, hFF⟩; have c00 := (hC0 0 _ rfl).1; have z00 := (hC0 0 _ rfl).2; have c01 := (hC0 1 _ rfl).1; have z01 := (hC0 1 _ rfl).2; have c02 := (hC0 2 _ rfl).1; have z02 := (hC0 2 _ rfl).2; have c03 := (hC0 3 _ rfl).1; have z03 := (hC0 3 _ rfl).2; have c04 := (hC0 4 _ rfl).1; have z04 := (hC0 4 _ rfl).2; have c05 := (hC0 5 _ rfl).1; have z05 := (hC0 5 _ rfl).2; have c06 := (hC0 6 _ rfl).1; have z06 := (hC0 6 _ rfl).2; have c07 := (hC0 7 _ rfl).1; have z07 := (hC0 7 _ rfl).2; have c10 := (hC1 0 _ rfl).1; have z10 := (hC1 0 _ rfl).2; have c11 := (hC1 1 _ rfl).1; have z11 := (hC1 1 _ rfl).2; have hl0 : w.heap.size < w2.heap.size := zsx hC0; have hl1 : w.heap.size + 1 < w2.heap.size := zsx hC1; have H0 := Go.Lib.hid hC0; have H1 := Go.Lib.hid hC1; have HP := Go.Lib.hid hP; have HF := Go.Lib.hid hFF; clear hc hC0 hC1 hP hFF))
  have k0 : Cl (((((((((((((((((((w2).setCell { block := w.heap.size, off := 0 } (Value.int IntKind.i64 k)).setCell { block := w.heap.size, off := 1 } (Value.int IntKind.u64 a0)).setCell { block := w.heap.size, off := 2 } (Value.int IntKind.u64 a1)).setCell { block := w.heap.size, off := 3 } (Value.int IntKind.u64 a2)).setCell { block := w.heap.size, off := 4 } (Value.int IntKind.u64 a3)).setCell { block := w.heap.size, off := 5 } (Value.slice sp sn sc)).setCell { block := w.heap.size, off := 6 } (Value.int IntKind.i64 lo)).setCell { block := w.heap.size, off := 7 } (Value.int IntKind.i64 hi)).setCell { block := w.heap.size, off := 0 } (Value.int IntKind.i64 k)).setCell { block := w.heap.size, off := 1 } (Value.int IntKind.u64 a0)).setCell { block := w.heap.size, off := 2 } (Value.int IntKind.u64 a1)).setCell { block := w.heap.size, off := 3 } (Value.int IntKind.u64 a2)).setCell { block := w.heap.size, off := 4 } (Value.int IntKind.u64 a3)).setCell { block := w.heap.size, off := 5 } (Value.slice sp sn sc)).setCell { block := w.heap.size, off := 6 } (Value.int IntKind.i64 lo)).setCell { block := w.heap.size, off := 7 } (Value.int IntKind.i64 hi)).setCell { block := w.heap.size + 1, off := 0 } (Value.int IntKind.i64 0)).setCell { block := w.heap.size + 1, off := 1 } (Value.int IntKind.i64 0)) (w.heap.size) [.int .i64 k, .int .u64 a0, .int .u64 a1, .int .u64 a2, .int .u64 a3, .slice sp sn sc, .int .i64 lo, .int .i64 hi] := (z1r (z1r (z6h (z6h (z6h (z6h (z6h (z6h (z6h (z6h (z6h (z6h (z6h (z6h (z6h (z6h (z6h (z6h H0.out 0 _) 1 _) 2 _) 3 _) 4 _) 5 _) 6 _) 7 _) 0 _) 1 _) 2 _) 3 _) 4 _) 5 _) 6 _) 7 _) p2 0 _) p2 1 _)
  have k1 : Cl (((((((((((((((((((w2).setCell { block := w.heap.size, off := 0 } (Value.int IntKind.i64 k)).setCell { block := w.heap.size, off := 1 } (Value.int IntKind.u64 a0)).setCell { block := w.heap.size, off := 2 } (Value.int IntKind.u64 a1)).setCell { block := w.heap.size, off := 3 } (Value.int IntKind.u64 a2)).setCell { block := w.heap.size, off := 4 } (Value.int IntKind.u64 a3)).setCell { block := w.heap.size, off := 5 } (Value.slice sp sn sc)).setCell { block := w.heap.size, off := 6 } (Value.int IntKind.i64 lo)).setCell { block := w.heap.size, off := 7 } (Value.int IntKind.i64 hi)).setCell { block := w.heap.size, off := 0 } (Value.int IntKind.i64 k)).setCell { block := w.heap.size, off := 1 } (Value.int IntKind.u64 a0)).setCell { block := w.heap.size, off := 2 } (Value.int IntKind.u64 a1)).setCell { block := w.heap.size, off := 3 } (Value.int IntKind.u64 a2)).setCell { block := w.heap.size, off := 4 } (Value.int IntKind.u64 a3)).setCell { block := w.heap.size, off := 5 } (Value.slice sp sn sc)).setCell { block := w.heap.size, off := 6 } (Value.int IntKind.i64 lo)).setCell { block := w.heap.size, off := 7 } (Value.int IntKind.i64 hi)).setCell { block := w.heap.size + 1, off := 0 } (Value.int IntKind.i64 0)).setCell { block := w.heap.size + 1, off := 1 } (Value.int IntKind.i64 0)) (w.heap.size + 1) [.int .i64 0, .int .i64 0] := (z6h (z6h (z1r (z1r (z1r (z1r (z1r (z1r (z1r (z1r (z1r (z1r (z1r (z1r (z1r (z1r (z1r (z1r H1.out p2.symm 0 _) p2.symm 1 _) p2.symm 2 _) p2.symm 3 _) p2.symm 4 _) p2.symm 5 _) p2.symm 6 _) p2.symm 7 _) p2.symm 0 _) p2.symm 1 _) p2.symm 2 _) p2.symm 3 _) p2.symm 4 _) p2.symm 5 _) p2.symm 6 _) p2.symm 7 _) 0 _) 1 _)
  have k2 : PsW w S S' (((((((((((((((((((w2).setCell { block := w.heap.size, off := 0 } (Value.int IntKind.i64 k)).setCell { block := w.heap.size, off := 1 } (Value.int IntKind.u64 a0)).setCell { block := w.heap.size, off := 2 } (Value.int IntKind.u64 a1)).setCell { block := w.heap.size, off := 3 } (Value.int IntKind.u64 a2)).setCell { block := w.heap.size, off := 4 } (Value.int IntKind.u64 a3)).setCell { block := w.heap.size, off := 5 } (Value.slice sp sn sc)).setCell { block := w.heap.size, off := 6 } (Value.int IntKind.i64 lo)).setCell { block := w.heap.size, off := 7 } (Value.int IntKind.i64 hi)).setCell { block := w.heap.size, off := 0 } (Value.int IntKind.i64 k)).setCell { block := w.heap.size, off := 1 } (Value.int IntKind.u64 a0)).setCell { block := w.heap.size, off := 2 } (Value.int IntKind.u64 a1)).setCell { block := w.heap.size, off := 3 } (Value.int IntKind.u64 a2)).setCell { block := w.heap.size, off := 4 } (Value.int IntKind.u64 a3)).setCell { block := w.heap.size, off := 5 } (Value.slice sp sn sc)).setCell { block := w.heap.size, off := 6 } (Value.int IntKind.i64 lo)).setCell { block := w.heap.size, off := 7 } (Value.int IntKind.i64 hi)).setCell { block := w.heap.size + 1, off := 0 } (Value.int IntKind.i64 0)).setCell { block := w.heap.size + 1, off := 1 } (Value.int IntKind.i64 0)) := by
    have HQ := HP.out
    have hn0 : w.heap.size <= w.heap.size := Nat.le_refl _
    have hn1 : w.heap.size <= w.heap.size + 1 := by omega
    exact ((((((((((((((((((HQ.setCell hn0 hs0).setCell hn0 hs0).setCell hn0 hs0).setCell hn0 hs0).setCell hn0 hs0).setCell hn0 hs0).setCell hn0 hs0).setCell hn0 hs0).setCell hn0 hs0).setCell hn0 hs0).setCell hn0 hs0).setCell hn0 hs0).setCell hn0 hs0).setCell hn0 hs0).setCell hn0 hs0).setCell hn0 hs0).setCell hn1 hs1).setCell hn1 hs1)
  clear c00 z00 c01 z01 c02 z02 c03 z03 c04 z04 c05 z05 c06 z06 c07 z07 c10 z10 c11 z11
  generalize (((((((((((((((((((w2).setCell { block := w.heap.size, off := 0 } (Value.int IntKind.i64 k)).setCell { block := w.heap.size, off := 1 } (Value.int IntKind.u64 a0)).setCell { block := w.heap.size, off := 2 } (Value.int IntKind.u64 a1)).setCell { block := w.heap.size, off := 3 } (Value.int IntKind.u64 a2)).setCell { block := w.heap.size, off := 4 } (Value.int IntKind.u64 a3)).setCell { block := w.heap.size, off := 5 } (Value.slice sp sn sc)).setCell { block := w.heap.size, off := 6 } (Value.int IntKind.i64 lo)).setCell { block := w.heap.size, off := 7 } (Value.int IntKind.i64 hi)).setCell { block := w.heap.size, off := 0 } (Value.int IntKind.i64 k)).setCell { block := w.heap.size, off := 1 } (Value.int IntKind.u64 a0)).setCell { block := w.heap.size, off := 2 } (Value.int IntKind.u64 a1)).setCell { block := w.heap.size, off := 3 } (Value.int IntKind.u64 a2)).setCell { block := w.heap.size, off := 4 } (Value.int IntKind.u64 a3)).setCell { block := w.heap.size, off := 5 } (Value.slice sp sn sc)).setCell { block := w.heap.size, off := 6 } (Value.int IntKind.i64 lo)).setCell { block := w.heap.size, off := 7 } (Value.int IntKind.i64 hi)).setCell { block := w.heap.size + 1, off := 0 } (Value.int IntKind.i64 0)).setCell { block := w.heap.size + 1, off := 1 } (Value.int IntKind.i64 0)) = W3 at *
  refine leaves_cons (f := 18) (args := #[.pointer (some ⟨w.heap.size, 0, none⟩), .pointer (some ⟨w.heap.size + 1, 0, none⟩)]) (by simp) (by simp [go_sem]) ?_
  refine ps_idle.mono ?_
  rintro r u w5 ⟨⟨v, rfl⟩, rfl, rfl⟩
  have m0 := zhx k0 (Obj.cells #[Value.int IntKind.i64 0, Value.int IntKind.i64 0] 36)
  have m1 := zhx k1 (Obj.cells #[Value.int IntKind.i64 0, Value.int IntKind.i64 0] 36)
  have e00 := (m0 0 _ rfl).1; have e01 := (m0 1 _ rfl).1; have e02 := (m0 2 _ rfl).1; have e03 := (m0 3 _ rfl).1; have e04 := (m0 4 _ rfl).1; have e05 := (m0 5 _ rfl).1; have e06 := (m0 6 _ rfl).1; have e07 := (m0 7 _ rfl).1; have e10 := (m1 0 _ rfl).1; have e11 := (m1 1 _ rfl).1
  refine ⟨_, ?_, _, S', rfl, HF.out, k2.alloc _ _⟩
  clear k0 k1 k2 m0 m1 hmf
  simp [results, Go.Proofs.Tryd.results14, go_sem, e00, e01, e02, e03, e04, e05, e06, e07, e10, e11]

set_option maxHeartbeats 16000000 in
theorem z1b1 {w : World} {s : List UInt8} {S : Hp} {e a : Int} (hlen : ¬ (256 : Int) < s.length) (hs0 : S (w.heap.size) = none) (hs1 : S (w.heap.size + 1) = none)
    (hc : Calls Go.Proofs.Tryd.prog 19 #[.pointer (some ⟨w.heap.size + 1 + 1, 0, none⟩)] (((w.alloc (Obj.cells #[Value.int IntKind.i64 0, Value.int IntKind.u64 0, Value.int IntKind.u64 0, Value.int IntKind.u64 0, Value.int IntKind.u64 0, Value.slice none 0 0, Value.int IntKind.i64 0, Value.int IntKind.i64 0] 27)).alloc (Obj.cells #[Value.int IntKind.i64 0, Value.int IntKind.i64 0] 36)).alloc (Obj.cells #[Value.string ⟨⟨s⟩⟩, Value.int IntKind.i64 0, Value.int IntKind.i64 0] 45)) fun r w2 => r = .panicked [{ v := .iface 36 (.agg #[.int .i64 e, .int .i64 a]), recovered := false }] /\ Cl w2 (w.heap.size) [.int .i64 0, .int .u64 0, .int .u64 0, .int .u64 0, .int .u64 0, .slice none 0 0, .int .i64 0, .int .i64 0] /\ Cl w2 (w.heap.size + 1) [.int .i64 0, .int .i64 0] /\ PsW w S S w2) :
    Calls Go.Proofs.Tryd.prog 14 #[.string ⟨⟨s⟩⟩] w fun r w' => r = .returned (.tuple #[.agg #[Value.int IntKind.i64 0, Value.int IntKind.u64 0, Value.int IntKind.u64 0, Value.int IntKind.u64 0, Value.int IntKind.u64 0, Value.slice none 0 0, Value.int IntKind.i64 0, Value.int IntKind.i64 0], .agg #[.int .i64 e, .int .i64 a]]) /\ PsW w S S w' := by
  have hmf : ∀ (fn : Fn) (first cap : Array Value) (w : World), (Instr.makeFunc fn first cap).run Go.Proofs.Tryd.prog w = .ok (.func fn first cap) w := fun _ _ _ _ => rfl
  have p1 : w.heap.size + 1 + 1 ≠ w.heap.size := by omega
  have p2 : w.heap.size + 1 ≠ w.heap.size := by omega
  go_enter_defers Go.Proofs.Tryd.func14, Go.Proofs.Tryd.ntmps14
  go_wp2_with (first
    | (go_at_call 19; refine hc.mono ?_; rintro r w2 ⟨rfl, hC0, hC1, hP⟩; have H0 := Go.Lib.hid hC0; have H1 := Go.Lib.hid hC1; have HP := Go.Lib.hid hP; clear hc hC0 hC1 hP))
  refine leaves_cons (f := 18) (args := #[.pointer (some ⟨w.heap.size, 0, none⟩), .pointer (some ⟨w.heap.size + 1, 0, none⟩)]) (by simp) (by simp [go_sem]) ?_
  refine (zrw (R := fun w' => Cl w' (w.heap.size) [.int .i64 0, .int .u64 0, .int .u64 0, .int .u64 0, .int .u64 0, .slice none 0 0, .int .i64 0, .int .i64 0] /\ Cl w' (w.heap.size + 1) [.int .i64 e, .int .i64 a] /\ PsW w S S w') (zhx H0.out _) (zhx H1.out _) p2.symm (Nat.ne_of_lt (zsx H0.out)) (Nat.ne_of_lt (zsx H1.out)) (fun w' g0 g1 g2 => ⟨g0, g1, g2 w S S HP.out (Nat.le_refl _) (Nat.le_succ _) hs0 hs1⟩)).mono ?_
  rintro r u w5 ⟨⟨v, rfl⟩, rfl, m0, m1, hP5⟩
  have e00 := (m0 0 _ rfl).1; have e01 := (m0 1 _ rfl).1; have e02 := (m0 2 _ rfl).1; have e03 := (m0 3 _ rfl).1; have e04 := (m0 4 _ rfl).1; have e05 := (m0 5 _ rfl).1; have e06 := (m0 6 _ rfl).1; have e07 := (m0 7 _ rfl).1; have e10 := (m1 0 _ rfl).1; have e11 := (m1 1 _ rfl).1
  clear m0 m1 hmf H0 H1
  simp [Leaves, settle, results, Go.Proofs.Tryd.results14, go_sem, e00, e01, e02, e03, e04, e05, e06, e07, e10, e11]
  exact hP5

set_option maxHeartbeats 16000000 in
theorem z1b2 {w : World} {s : List UInt8} {S : Hp} {at_ : Int} (hlen : ¬ (256 : Int) < s.length)
    (hc : Calls Go.Proofs.Tryd.prog 19 #[.pointer (some ⟨w.heap.size + 1 + 1, 0, none⟩)] (((w.alloc (Obj.cells #[Value.int IntKind.i64 0, Value.int IntKind.u64 0, Value.int IntKind.u64 0, Value.int IntKind.u64 0, Value.int IntKind.u64 0, Value.slice none 0 0, Value.int IntKind.i64 0, Value.int IntKind.i64 0] 27)).alloc (Obj.cells #[Value.int IntKind.i64 0, Value.int IntKind.i64 0] 36)).alloc (Obj.cells #[Value.string ⟨⟨s⟩⟩, Value.int IntKind.i64 0, Value.int IntKind.i64 0] 45)) fun r w2 => ∃ (k a0 a1 a2 a3 lo hi : Int) (sp : Option Addr) (sn sc : Nat) (S' : Hp), r = .returned (.agg #[.int .i64 k, .int .u64 a0, .int .u64 a1, .int .u64 a2, .int .u64 a3, .slice sp sn sc, .int .i64 lo, .int .i64 hi]) /\ Cl w2 (w.heap.size) [.int .i64 0, .int .u64 0, .int .u64 0, .int .u64 0, .int .u64 0, .slice none 0 0, .int .i64 0, .int .i64 0] /\ Cl w2 (w.heap.size + 1) [.int .i64 0, .int .i64 0] /\ w2.cell? ⟨w.heap.size + 1 + 1, 1, none⟩ = some (.int .i64 at_) /\ S' (w.heap.size) = none /\ S' (w.heap.size + 1) = none /\ PsW w S S' w2)
    (hat : at_ < s.length) :
    Calls Go.Proofs.Tryd.prog 14 #[.string ⟨⟨s⟩⟩] w fun r w' => r = .returned (.tuple #[.agg #[Value.int IntKind.i64 0, Value.int IntKind.u64 0, Value.int IntKind.u64 0, Value.int IntKind.u64 0, Value.int IntKind.u64 0, Value.slice none 0 0, Value.int IntKind.i64 0, Value.int IntKind.i64 0], .agg #[.int .i64 2, .int .i64 at_]]) /\ ∃ S', PsW w S S' w' := by
  have hmf : ∀ (fn : Fn) (first cap : Array Value) (w : World), (Instr.makeFunc fn first cap).run Go.Proofs.Tryd.prog w = .ok (.func fn first cap) w := fun _ _ _ _ => rfl
  have p1 : w.heap.size + 1 + 1 ≠ w.heap.size := by omega
  have p2 : w.heap.size + 1 ≠ w.heap.size := by omega
  go_enter_defers Go.Proofs.Tryd.func14, Go.Proofs.Tryd.ntmps14
  go_wp2_with (first
    | (go_at_call 19; refine hc.mono ?_; rintro r w2 ⟨k, a0, a1, a2, a3, lo, hi, sp, sn, sc, S', rfl, hC0, hC1, hat2, hs0, hs1, hP⟩; have c00 := (hC0 0 _ rfl).1; have z00 := (hC0 0 _ rfl).2; have c01 := (hC0 1 _ rfl).1; have z01 := (hC0 1 _ rfl).2; have c02 := (hC0 2 _ rfl).1; have z02 := (hC0 2 _ rfl).2; have c03 := (hC0 3 _ rfl).1; have z03 := (hC0 3 _ rfl).2; have c04 := (hC0 4 _ rfl).1; have z04 := (hC0 4 _ rfl).2; have c05 := (hC0 5 _ rfl).1; have z05 := (hC0 5 _ rfl).2; have c06 := (hC0 6 _ rfl).1; have z06 := (hC0 6 _ rfl).2; have c07 := (hC0 7 _ rfl).1; have z07 := (hC0 7 _ rfl).2; have c10 := (hC1 0 _ rfl).1; have z10 := (hC1 0 _ rfl).2; have c11 := (hC1 1 _ rfl).1; have z11 := (hC1 1 _ rfl).2; have hl0 : w.heap.size < w2.heap.size := zsx hC0; have hl1 : w.heap.size + 1 < w2.heap.size := zsx hC1; have H0 := Go.Lib.hid hC0; have H1 := Go.Lib.hid hC1; have HP := Go.Lib.hid hP; clear hc hC0 hC1 hP)
    | (go_at_call 20; refine fail_walk.mono ?_; rintro r w3 ⟨rfl, rfl⟩))
  have k0 : Cl (((((((((w2).setCell { block := w.heap.size, off := 0 } (Value.int IntKind.i64 k)).setCell { block := w.heap.size, off := 1 } (Value.int IntKind.u64 a0)).setCell { block := w.heap.size, off := 2 } (Value.int IntKind.u64 a1)).setCell { block := w.heap.size, off := 3 } (Value.int IntKind.u64 a2)).setCell { block := w.heap.size, off := 4 } (Value.int IntKind.u64 a3)).setCell { block := w.heap.size, off := 5 } (Value.slice sp sn sc)).setCell { block := w.heap.size, off := 6 } (Value.int IntKind.i64 lo)).setCell { block := w.heap.size, off := 7 } (Value.int IntKind.i64 hi)) (w.heap.size) [.int .i64 k, .int .u64 a0, .int .u64 a1, .int .u64 a2, .int .u64 a3, .slice sp sn sc, .int .i64 lo, .int .i64 hi] := (z6h (z6h (z6h (z6h (z6h (z6h (z6h (z6h H0.out 0 _) 1 _) 2 _) 3 _) 4 _) 5 _) 6 _) 7 _)
  have k1 : Cl (((((((((w2).setCell { block := w.heap.size, off := 0 } (Value.int IntKind.i64 k)).setCell { block := w.heap.size, off := 1 } (Value.int IntKind.u64 a0)).setCell { block := w.heap.size, off := 2 } (Value.int IntKind.u64 a1)).setCell { block := w.heap.size, off := 3 } (Value.int IntKind.u64 a2)).setCell { block := w.heap.size, off := 4 } (Value.int IntKind.u64 a3)).setCell { block := w.heap.size, off := 5 } (Value.slice sp sn sc)).setCell { block := w.heap.size, off := 6 } (Value.int IntKind.i64 lo)).setCell { block := w.heap.size, off := 7 } (Value.int IntKind.i64 hi)) (w.heap.size + 1) [.int .i64 0, .int .i64 0] := (z1r (z1r (z1r (z1r (z1r (z1r (z1r (z1r H1.out p2.symm 0 _) p2.symm 1 _) p2.symm 2 _) p2.symm 3 _) p2.symm 4 _) p2.symm 5 _) p2.symm 6 _) p2.symm 7 _)
  have k2 : PsW w S S' (((((((((w2).setCell { block := w.heap.size, off := 0 } (Value.int IntKind.i64 k)).setCell { block := w.heap.size, off := 1 } (Value.int IntKind.u64 a0)).setCell { block := w.heap.size, off := 2 } (Value.int IntKind.u64 a1)).setCell { block := w.heap.size, off := 3 } (Value.int IntKind.u64 a2)).setCell { block := w.heap.size, off := 4 } (Value.int IntKind.u64 a3)).setCell { block := w.heap.size, off := 5 } (Value.slice sp sn sc)).setCell { block := w.heap.size, off := 6 } (Value.int IntKind.i64 lo)).setCell { block := w.heap.size, off := 7 } (Value.int IntKind.i64 hi)) := ((((((((HP.out.setCell (Nat.le_refl _) hs0).setCell (Nat.le_refl _) hs0).setCell (Nat.le_refl _) hs0).setCell (Nat.le_refl _) hs0).setCell (Nat.le_refl _) hs0).setCell (Nat.le_refl _) hs0).setCell (Nat.le_refl _) hs0).setCell (Nat.le_refl _) hs0)
  clear c00 z00 c01 z01 c02 z02 c03 z03 c04 z04 c05 z05 c06 z06 c07 z07 c10 z10 c11 z11
  generalize (((((((((w2).setCell { block := w.heap.size, off := 0 } (Value.int IntKind.i64 k)).setCell { block := w.heap.size, off := 1 } (Value.int IntKind.u64 a0)).setCell { block := w.heap.size, off := 2 } (Value.int IntKind.u64 a1)).setCell { block := w.heap.size, off := 3 } (Value.int IntKind.u64 a2)).setCell { block := w.heap.size, off := 4 } (Value.int IntKind.u64 a3)).setCell { block := w.heap.size, off := 5 } (Value.slice sp sn sc)).setCell { block := w.heap.size, off := 6 } (Value.int IntKind.i64 lo)).setCell { block := w.heap.size, off := 7 } (Value.int IntKind.i64 hi)) = W3 at *
  refine leaves_cons (f := 18) (args := #[.pointer (some ⟨w.heap.size, 0, none⟩), .pointer (some ⟨w.heap.size + 1, 0, none⟩)]) (by simp) (by simp [go_sem]) ?_
  refine (zrw (R := fun w' => Cl w' (w.heap.size) [.int .i64 0, .int .u64 0, .int .u64 0, .int .u64 0, .int .u64 0, .slice none 0 0, .int .i64 0, .int .i64 0] /\ Cl w' (w.heap.size + 1) [.int .i64 2, .int .i64 at_] /\ PsW w S S' w') (zhx k0 _) (zhx k1 _) p2.symm (Nat.ne_of_lt (zsx k0)) (Nat.ne_of_lt (zsx k1)) (fun w' g0 g1 g2 => ⟨g0, g1, g2 w S S' k2 (Nat.le_refl _) (Nat.le_succ _) hs0 hs1⟩)).mono ?_
  rintro r u w5 ⟨⟨v, rfl⟩, rfl, m0, m1, hP5⟩
  have e00 := (m0 0 _ rfl).1; have e01 := (m0 1 _ rfl).1; have e02 := (m0 2 _ rfl).1; have e03 := (m0 3 _ rfl).1; have e04 := (m0 4 _ rfl).1; have e05 := (m0 5 _ rfl).1; have e06 := (m0 6 _ rfl).1; have e07 := (m0 7 _ rfl).1; have e10 := (m1 0 _ rfl).1; have e11 := (m1 1 _ rfl).1
  clear m0 m1 hmf k0 k1 H0 H1
  simp [Leaves, settle, results, Go.Proofs.Tryd.results14, go_sem, e00, e01, e02, e03, e04, e05, e06, e07, e10, e11]
  exact ⟨S', hP5⟩

theorem zwe {S : Hp} {y : NodT.den} {v : Value} (h : VR S NodT y v) : ∃ (k a0 a1 a2 a3 lo hi : Int) (sp : Option Addr) (sn sc : Nat), v = .agg #[.int .i64 k, .int .u64 a0, .int .u64 a1, .int .u64 a2, .int .u64 a3, .slice sp sn sc, .int .i64 lo, .int .i64 hi] := by
  unfold VR at h
  simp only [T.isAgg, if_true] at h
  obtain ⟨cs, e, h⟩ := h
  obtain ⟨c1, d1, e1, h1, c2, d2, e2, h2, c3, d3, e3, h3, c4, d4, e4, h4, c5, d5, e5, h5, h6⟩ := h
  have h1 : c1 = [.int .i64 y.1] := h1
  have h4 : c4 = [.int .i64 y.2.2.2.1] := h4
  have h5 : c5 = [.int .i64 y.2.2.2.2.1] := h5
  have h6 : d5 = [] := h6
  obtain ⟨hl, ha⟩ := h2
  obtain ⟨sp, sc, h3, _⟩ := h3
  obtain ⟨k, arr, sl, lo, hi, u⟩ := y
  match arr, hl with
  | [a0, a1, a2, a3], _ =>
    obtain ⟨q0, r0, f0, g0, q1, r1, f1, g1, q2, r2, f2, g2, q3, r3, f3, g3, g4⟩ := ha
    have g0 : q0 = [.int .u64 a0] := g0
    have g1 : q1 = [.int .u64 a1] := g1
    have g2 : q2 = [.int .u64 a2] := g2
    have g3 : q3 = [.int .u64 a3] := g3
    have g4 : r3 = [] := g4
    refine ⟨k, a0, a1, a2, a3, lo, hi, sp, List.length sl, sc, ?_⟩
    rw [e]
    congr 1
    apply Array.toList_inj.1
    rw [e1, h1, e2, f0, g0, f1, g1, f2, g2, f3, g3, g4, e3, h3, e4, h4, e5, h5, h6]
    rfl

abbrev z13m : T := .pair (.int .i64) (.pair (.int .i64) .unit)

def zs1 : NodT.den := ((0 : Int), (([(0 : Int), 0, 0, 0] : List Int), (([] : List Go.Lift.Tree), ((0 : Int), ((0 : Int), ())))))

theorem zta (S : Hp) : VR S NodT zs1 (.agg #[Value.int IntKind.i64 0, Value.int IntKind.u64 0, Value.int IntKind.u64 0, Value.int IntKind.u64 0, Value.int IntKind.u64 0, Value.slice none 0 0, Value.int IntKind.i64 0, Value.int IntKind.i64 0]) := (z154 (t := NodT) (x := zs1) rfl).mono (zcv _)

theorem zvi (S : Hp) (e a : Int) : VR S z13m (e, a, ()) (.agg #[.int .i64 e, .int .i64 a]) := (z154 (t := z13m) (x := (e, a, ())) rfl).mono (zcv _)

def z6v (N : Nat) (s : List UInt8) : Option (z5e [NodT, z13m]) :=
 cond (decide ((256 : Int) < s.length))
 (some (zs1, ((3, 256, ()), ())))
 (orP (zr N (s, (0, (0, ())))) (fun z => some (zs1, (z, ())))
 ((zg N (s, (0, (0, ())))).bind fun y =>
 cond (decide (y.2.1.2.1 < (s.length : Int)))
 (some (zs1, ((2, y.2.1.2.1, ()), ())))
 (some (y.1, ((0, 0, ()), ())))))

def zdf (N : Nat) : List A -> Res := z1b [(0, .v .str)] (fun x => z6v N x.1) (zb4 (.tup [NodT, z13m]) 1)

theorem z1l5 {w : World} {n : Nat} {cs : Array Value} {E : Nat} (h : w.heap[n]? = some (.cells cs E (0, 0))) : Cl w n cs.toList := by
  intro i v hi
  have hi' : cs[i]? = some v := by rw [<- Array.getElem?_toList]; exact hi
  constructor
  . simp [World.cell?, h, hi']
  . simp [World.frozen?, h]

def psW (w : World) (s : List UInt8) : World := ((w.alloc (Obj.cells #[Value.int IntKind.i64 0, Value.int IntKind.u64 0, Value.int IntKind.u64 0, Value.int IntKind.u64 0, Value.int IntKind.u64 0, Value.slice none 0 0, Value.int IntKind.i64 0, Value.int IntKind.i64 0] 27)).alloc (Obj.cells #[Value.int IntKind.i64 0, Value.int IntKind.i64 0] 36)).alloc (Obj.cells #[Value.string ⟨⟨s⟩⟩, Value.int IntKind.i64 0, Value.int IntKind.i64 0] 45)

theorem zrx (w : World) (s : List UInt8) : (psW w s).heap.size = w.heap.size + 3 /\ (psW w s).heap[w.heap.size]? = some (.cells #[Value.int IntKind.i64 0, Value.int IntKind.u64 0, Value.int IntKind.u64 0, Value.int IntKind.u64 0, Value.int IntKind.u64 0, Value.slice none 0 0, Value.int IntKind.i64 0, Value.int IntKind.i64 0] 27 (0, 0)) /\ (psW w s).heap[w.heap.size + 1]? = some (.cells #[Value.int IntKind.i64 0, Value.int IntKind.i64 0] 36 (0, 0)) ∧
    (psW w s).heap[w.heap.size + 1 + 1]? = some (.cells #[Value.string ⟨⟨s⟩⟩, Value.int IntKind.i64 0, Value.int IntKind.i64 0] 45 (0, 0)) /\ (∀ k, k < w.heap.size -> (psW w s).heap[k]? = w.heap[k]?) ∧
    (psW w s).tape = w.tape /\ (psW w s).os = w.os /\ (psW w s).output = w.output := by
  have hh : (psW w s).heap = ((w.heap.push (.cells #[Value.int IntKind.i64 0, Value.int IntKind.u64 0, Value.int IntKind.u64 0, Value.int IntKind.u64 0, Value.int IntKind.u64 0, Value.slice none 0 0, Value.int IntKind.i64 0, Value.int IntKind.i64 0] 27 (0, 0))).push (.cells #[Value.int IntKind.i64 0, Value.int IntKind.i64 0] 36 (0, 0))).push (.cells #[Value.string ⟨⟨s⟩⟩, Value.int IntKind.i64 0, Value.int IntKind.i64 0] 45 (0, 0)) := rfl
  refine ⟨by rw [hh]; simp, ?_, ?_, ?_, fun k hk => ?_, rfl, rfl, rfl⟩
  . rw [hh, Array.getElem?_push, if_neg (by simp; omega), Array.getElem?_push, if_neg (by simp), Array.getElem?_push, if_pos rfl]
  . rw [hh, Array.getElem?_push, if_neg (by simp), Array.getElem?_push, if_pos (by simp)]
  . rw [hh, Array.getElem?_push, if_pos (by simp)]
  . rw [hh, Array.getElem?_push, if_neg (by simp; omega), Array.getElem?_push, if_neg (by simp; omega), Array.getElem?_push, if_neg (by omega)]

theorem z15w {w : World} {s : List UInt8} {S : Hp} (hS : Lift.Sub S (hp w)) : ArgsRel (hp (psW w s)) S [.box PrsT (s, (0, (0, ())))] [.pointer (some ⟨w.heap.size + 1 + 1, 0, none⟩)] (fun i => if i = 0 then [w.heap.size + 1 + 1] else []) /\ Lift.Sub S (hp (psW w s)) := by
  obtain ⟨f1, f2, f3, f4, f5, _⟩ := zrx w s
  have hsub : Lift.Sub S (hp (psW w s)) := fun k q hk => by
    have := hS k q hk
    simp only [hp] at this ⊢
    rw [f5 k (z9m (hS k q hk))]
    exact this
  refine ⟨z13f (w := psW w s) (args := []) (vals := []) ?_ (by simp) (fun k hk => ?_) ⟨rfl, fun i x h => (by cases h), fun _ _ => rfl, fun i j b hb => (by cases hb), fun _ => .nil, fun i b hb => (by cases hb)⟩, hsub⟩
  . refine ⟨w.heap.size + 1 + 1, _, _, _, [], rfl, rfl, f4, zhe _, RdO.of_rd PrsT _ _ ?_⟩
    exact ⟨[.string ⟨⟨s⟩⟩], _, rfl, rfl, [.int .i64 0], _, rfl, rfl, [.int .i64 0], [], rfl, rfl, rfl⟩
  . have : k = w.heap.size + 1 + 1 := by simpa using hk
    subst this
    cases hx : S (w.heap.size + 1 + 1) with
    | none => rfl
    | some o => exact absurd (z9m (hS _ _ hx)) (by omega)

theorem zq6 {w : World} {S : Hp} (hS : Lift.Sub S (hp w)) {k : Nat} (hk : w.heap.size <= k) : S k = none := by
  cases hx : S k with
  | none => rfl
  | some o => exact absurd (z9m (hS _ _ hx)) (by omega)

theorem zw3 {w w2 : World} {s : List UInt8} {S S' : Hp} (hS : Lift.Sub S (hp w)) (hwf : WF (psW w s) (fun b => ∃ i, b ∈ (fun i => if i = 0 then [w.heap.size + 1 + 1] else []) i) w2) (hSS : Lift.Sub S S') (hSw : Lift.Sub S' (hp w2))
    (hnew : ∀ b, S' b ≠ none -> S b ≠ none \/ b = w.heap.size + 1 + 1 \/ (psW w s).heap.size <= b) :
    Cl w2 w.heap.size [.int .i64 0, .int .u64 0, .int .u64 0, .int .u64 0, .int .u64 0, .slice none 0 0, .int .i64 0, .int .i64 0] /\ Cl w2 (w.heap.size + 1) [.int .i64 0, .int .i64 0] /\ S' w.heap.size = none /\ S' (w.heap.size + 1) = none /\ PsW w S S' w2 := by
  obtain ⟨f1, f2, f3, f4, f5, f6, f7, f8⟩ := zrx w s
  have hin : ∀ k, (∃ i, k ∈ (fun i => if i = 0 then [w.heap.size + 1 + 1] else []) i) -> k = w.heap.size + 1 + 1 := by
    rintro k ⟨i, hi⟩
    by_cases hi0 : i = 0
    . simpa [hi0] using hi
    . simp [hi0] at hi
  have g0 := hwf.same w.heap.size (by omega) (fun h => by have := hin _ h; omega)
  have g1 := hwf.same (w.heap.size + 1) (by omega) (fun h => by have := hin _ h; omega)
  rw [f2] at g0
  rw [f3] at g1
  refine ⟨z1l5 g0, z1l5 g1, ?_, ?_, ⟨by have := hwf.size; omega, fun k hk _ => ?_, hwf.tape.trans f6, hwf.os.trans f7, hwf.output.trans f8⟩, hSS, hSw, fun k hk => ?_⟩
  . cases hx : S' w.heap.size with
    | none => rfl
    | some o =>
      rcases hnew _ (by rw [hx]; simp) with h | h | h
      . exact absurd (zq6 hS (Nat.le_refl _)) h
      . omega
      . omega
  . cases hx : S' (w.heap.size + 1) with
    | none => rfl
    | some o =>
      rcases hnew _ (by rw [hx]; simp) with h | h | h
      . exact absurd (zq6 hS (by omega)) h
      . omega
      . omega
  . rw [hwf.same k (by omega) (fun h => by have := hin _ h; omega), f5 k hk]
  . rcases hnew k hk with h | h | h
    . exact .inl h
    . exact .inr (by omega)
    . exact .inr (by omega)

theorem z1b3 {w : World} {S : Hp} {x : PrsT.den} {b : Nat} {o : List Nat} (h : ARel (hp w) S (fun _ => undef) (.box PrsT x) (.pointer (some ⟨b, 0, none⟩)) o) : w.cell? ⟨b, 1, none⟩ = some (.int .i64 x.2.1) := by
  obtain ⟨b', cs, E, fr, bs, e, e', hb, hf, hr⟩ := h
  cases e'
  obtain ⟨_, c1, d1, hc, h1, c2, d2, hc2, h2, h3⟩ := RdO.rd PrsT x _ _ rfl hr
  have k1 : c1 = [.string ⟨⟨x.1⟩⟩] := h1
  have k2 : c2 = [.int .i64 x.2.1] := h2
  have : cs[1]? = some (.int .i64 x.2.1) := by
    rw [<- Array.getElem?_toList, hc, k1, hc2, k2]; rfl
  have hb : w.heap[b]? = some (.cells cs E fr) := hb
  simp [World.cell?, hb, this]

theorem zq7 {w w' : World} {s : List UInt8} {S S' : Hp} {ob : Nat -> List Nat} {y : z5e [NodT, z13m]} {v1 v2 : Value} (hob : ∀ i, ob i = []) (hP : PsW w S S' w') (h1 : VR S' NodT y.1 v1) (h2 : VR S' z13m y.2.1 v2) :
    Lift.Ends w S (mkS [(0, .v .str)] 0 (s, ())) [.string ⟨⟨s⟩⟩] ob (zb4 (.tup [NodT, z13m]) 1 y).1 (zb4 (.tup [NodT, z13m]) 1 y).2 (.returned (.tuple #[v1, v2])) w' := by
  obtain ⟨k1, k2, k3, k4⟩ := hP
  refine ⟨_, S', [], ob, rfl, ⟨k1.size, fun k hk _ => k1.same k hk (fun h => h), k1.tape, k1.os, k1.output⟩, k2, k3, fun k hk => ?_, ⟨⟨rfl, _, rfl, .cons h1 (.cons h2 .nil)⟩, rfl⟩, (fun k hk => by cases hk), .nil, ?_, ?_, ?_, ?_, fun _ h => h⟩
  . rcases k4 k hk with h | h
    . exact .inl h
    . exact .inr (.inr h)
  . intro i x hx hbx
    match i with
    | 0 => simp [mkS, zgk, AS.mk] at hx; subst hx; simp [zeh] at hbx
    | i + 1 => simp [mkS, zgk] at hx
  . intro i k hk
    rw [hob i] at hk; cases hk
  . intro i j k hi
    rw [hob i] at hi; cases hi
  . intro i
    rw [hob i]; exact .nil

theorem zi9 (N : Nat) : Contract Go.Proofs.Tryd.prog glob 14 (zdf N) := by
  refine Contract.hand ⟨_, Go.Proofs.Tryd.func14, by kernel_rfl, by decide⟩ ?_
  intro w S vals ob x y har hS hg hy
  obtain ⟨s, u⟩ := x
  cases u
  have hob : ∀ i, ob i = [] := by
    intro i
    rcases i with _ | i
    . obtain ⟨⟨v, hv, hA⟩, _⟩ := har.rel 0 _ rfl
      exact hA.2
    . exact har.out _ (by simp [mkS, zgk])
  have hvals : vals = [.string ⟨⟨s⟩⟩] := by
    have hlen := har.len
    obtain ⟨⟨v0, hv0, hA0⟩, _⟩ := har.rel 0 _ rfl
    have e0 : v0 = .string ⟨⟨s⟩⟩ := VR.str_inv hA0.1
    match vals, hlen with
    | [a], _ => cases hv0; rw [e0]
  subst hvals
  have hy : z6v N s = some y := hy
  unfold z6v at hy
  by_cases hlen : (256 : Int) < s.length
  . rw [decide_eq_true hlen] at hy
    cases hy
    refine (z15v hS hlen).mono ?_
    rintro r w' ⟨rfl, hP⟩
    exact zq7 hob hP (zta _) (zvi _ _ _)
  . rw [decide_eq_false hlen] at hy
    simp only [cond_false] at hy
    obtain ⟨hA, hSB⟩ := z15w (s := s) hS
    rcases zqb hy with ⟨z, hz, hK⟩ | ⟨_, hK⟩
    . cases hK
      have hc := (z6u N).2 (psW w s) S _ _ _ hA hSB hg z hz
      refine (z1b1 hlen (zq6 hS (Nat.le_refl _)) (zq6 hS (Nat.le_succ _)) (e := z.1) (a := z.2.1) (hc.mono ?_)).mono ?_
      . rintro e w2 ⟨rfl, hwf, hsub⟩
        obtain ⟨q1, q2, q3, q4, q5⟩ := zw3 hS hwf (Lift.Sub.refl S) hsub (fun b hb => .inl hb)
        exact ⟨rfl, q1, q2, q5⟩
      . rintro r w' ⟨rfl, hP⟩
        obtain ⟨z1, z2, u⟩ := z
        exact zq7 hob hP (zta _) (zvi _ _ _)
    . obtain ⟨q, hq, hK⟩ := Option.bind_eq_some_iff.1 hK
      have hc := (z2r N).2 (psW w s) S _ _ _ hA hSB hg q hq
      have key : ∀ e w2, Lift.Ends (psW w s) S [.box PrsT (s, (0, (0, ())))] [.pointer (some ⟨w.heap.size + 1 + 1, 0, none⟩)] (fun i => if i = 0 then [w.heap.size + 1 + 1] else []) (.v NodT q.1) [.box PrsT q.2.1] e w2 →
          ∃ v S', e = .returned v /\ VR S' NodT q.1 v /\ Cl w2 w.heap.size [.int .i64 0, .int .u64 0, .int .u64 0, .int .u64 0, .int .u64 0, .slice none 0 0, .int .i64 0, .int .i64 0] /\ Cl w2 (w.heap.size + 1) [.int .i64 0, .int .i64 0] /\ w2.cell? ⟨w.heap.size + 1 + 1, 1, none⟩ = some (.int .i64 q.2.1.2.1) /\ S' w.heap.size = none /\ S' (w.heap.size + 1) = none /\ PsW w S S' w2 := by
        rintro e w2 ⟨v, S', o, ob', rfl, hwf, hSS, hSw, hnew, ⟨hr, _⟩, _, _, hbox, _⟩
        obtain ⟨x2, v2, g1, g2, _, g4⟩ := hbox 0 _ rfl rfl
        simp at g1 g2
        subst g1
        subst g2
        obtain ⟨q1, q2, q3, q4, q5⟩ := zw3 hS hwf hSS hSw (fun b hb => by
          rcases hnew b hb with h | ⟨i, hi⟩ | h
          . exact .inl h
          . by_cases hi0 : i = 0
            . simp [hi0] at hi; exact .inr (.inl hi)
            . simp [hi0] at hi
          . exact .inr (.inr h))
        exact ⟨v, S', rfl, hr.1, q1, q2, z1b3 g4, q3, q4, q5⟩
      by_cases hat : q.2.1.2.1 < (s.length : Int)
      . rw [decide_eq_true hat] at hK
        cases hK
        refine (z1b2 (S := S) hlen (at_ := q.2.1.2.1) (hc.mono ?_) hat).mono ?_
        . intro e w2 h
          obtain ⟨v, S', rfl, hv, q1, q2, q3, q4, q5, q6⟩ := key e w2 h
          obtain ⟨k, a0, a1, a2, a3, lo, hi, sp, sn, sc, rfl⟩ := zwe hv
          exact ⟨k, a0, a1, a2, a3, lo, hi, sp, sn, sc, S', rfl, q1, q2, q3, q4, q5, q6⟩
        . rintro r w' ⟨rfl, S', hP⟩
          exact zq7 hob hP (zta _) (zvi _ _ _)
      . rw [decide_eq_false hat] at hK
        cases hK
        refine (ps_ok (S := S) hlen (at_ := q.2.1.2.1) (F := fun S' v => VR S' NodT q.1 v) (hc.mono ?_) hat).mono ?_
        . intro e w2 h
          obtain ⟨v, S', rfl, hv, q1, q2, q3, q4, q5, q6⟩ := key e w2 h
          obtain ⟨k, a0, a1, a2, a3, lo, hi, sp, sn, sc, rfl⟩ := zwe hv
          exact ⟨k, a0, a1, a2, a3, lo, hi, sp, sn, sc, S', rfl, q1, q2, q3, q4, q5, q6, hv⟩
        . rintro r w' ⟨v, S', rfl, hv, hP⟩
          exact zq7 hob hP hv (zvi _ _ _)

end
end Go.Proofs.YtbfmhambfonpcaaDoorLg

set_option linter.all false
set_option maxRecDepth 100000
namespace Go.Proofs.YtbfmhambfonpcaaDoorLg
noncomputable section
open Go Go.Lift Go.Proofs.YtbfmhambfonpcaaDoorPx

abbrev PSt := List UInt8 × (Int × (Int × Unit))

@[reducible] def pst (s : List UInt8) (a o : Nat) : PSt := (s, ((a : Int), ((o : Int), ())))

def okP {α β : Type} (s : List UInt8) (o : Nat) (f : α -> β) : PR α -> Option (β × (PSt × Unit))
  | .ok x a => some (f x, (pst s a o, ()))
  | .bad .. => none

def zej {α : Type} : PR α -> Option (Int × (Int × Unit))
  | .bad e a => some (e, ((a : Int), ()))
  | .ok .. => none

theorem z6i {a : Nat} (h : a <= 100000) : IntKind.wrap .i64 ((a : Int) + 1) = ((a + 1 : Nat) : Int) := by
  rw [show ((a : Int) + 1) = ((a + 1 : Nat) : Int) from rfl]
  exact z4r (by unfold I64; omega)

theorem z88 (s : List UInt8) (a : Nat) : (((UInt8.toNat (List.getD s (Int.toNat (a : Int)) (0 : UInt8))) : Nat) : Int) = (gb s a : Int) := by rw [Int.toNat_natCast]; rfl

theorem zlx (s : List UInt8) (a : Nat) : gb s a < 256 := (s.getD a 0).toNat_lt

theorem eqI (a b : Nat) : (((a : Int)) == (b : Int)) = decide (a = b) := by
  by_cases h : a = b
  . subst h; simp
  . rw [decide_eq_false h]; simp; omega

theorem z86 {s : List UInt8} {a : Nat} (h : a < s.length) : inR (a : Int) s.length = true := zce h

theorem zib (N : Nat) {s : List UInt8} {a : Nat} (o : Nat) (ha : a <= s.length) :
    z17 N (pst s a o) = okP s o (fun b : Nat => (b : Int)) (zb5 s a) /\ z1j N (pst s a o) = zej (zb5 s a) := by
  unfold z17 z8t z1j z5v pst zb5
  dsimp only
  rw [eqI]
  rcases Nat.lt_or_ge a s.length with h | h
  . rw [decide_eq_false (by omega), if_pos h]
    simp only [cond_false]
    rw [z86 h, z88]
    exact ⟨rfl, rfl⟩
  . have e : a = s.length := by omega
    rw [decide_eq_true e, if_neg (by omega)]
    subst e
    exact ⟨rfl, rfl⟩

theorem zl9 (N : Nat) {s : List UInt8} {a : Nat} (o b : Nat) (ha : a <= s.length) (hs : s.length <= 256) :
    zw N (pst s a o) (b : Int) = some (isB s a b, (pst s (cond (isB s a b) (a + 1) a) o, ())) := by
  unfold zw z8p z8o pst isB
  dsimp only
  rw [eqI]
  rcases Nat.lt_or_ge a s.length with h | h
  . rw [decide_eq_false (by omega), decide_eq_true h]
    simp only [cond_false, Bool.true_and]
    rw [z86 h, z88, z6i (by omega)]
    simp only [cond_true, bne, eqI]
    by_cases hb : gb s a = b
    . rw [decide_eq_true hb]; simp [hb]
    . rw [decide_eq_false hb]
      have h2 : (gb s a == b) = false := by simpa using hb
      simp [h2]
  . have e : a = s.length := by omega
    rw [decide_eq_true e, decide_eq_false (by omega)]
    rfl

theorem zn3 (N : Nat) {s : List UInt8} {a : Nat} (o b : Nat) (ha : a <= s.length) (hs : s.length <= 256) :
    zy N (pst s a o) (b : Int) = okP s o (fun _ : Unit => ()) (zds s a b) /\ z1c N (pst s a o) (b : Int) = zej (zds s a b) := by
  unfold zy z8u z1c z5w zds
  rw [(zib N o ha).1, (zib N o ha).2]
  cases h : zb5 s a with
  | bad e c => exact ⟨rfl, rfl⟩
  | ok x c =>
    obtain ⟨h1, rfl, rfl⟩ := zcd h
    simp only [okP, zej, PR.next, Option.bind_some, orP, bne, eqI, pst]
    by_cases hb : gb s c = b
    . rw [decide_eq_true hb, if_pos hb, z6i (by omega)]
      exact ⟨rfl, rfl⟩
    . rw [decide_eq_false hb, if_neg hb]
      exact ⟨rfl, rfl⟩

theorem zl6 (N b : Nat) : z5m N (b : Int) = some (zj3 b) := by
  unfold z5m zj3
  by_cases h : 48 <= b
  . rw [decide_eq_true (by omega), decide_eq_true h]
    simp only [cond_true, Bool.true_and]
    congr 1
    exact decide_eq_decide.2 (by omega)
  . rw [decide_eq_false (by omega), decide_eq_false h]
    rfl

theorem zx4 {x : Int} (h : 0 <= x) (h2 : x < 256) : IntKind.wrap .u8 x = x := by
  show x % 256 = x
  omega

theorem z1en (N : Nat) {s : List UInt8} {a : Nat} (o fr : Nat) (ha : a <= s.length) (hs : s.length <= 256) :
    z3i N (pst s a o) (fr : Int) = okP s o (fun b : Nat => (b : Int)) (zqh s fr a) /\ z3b N (pst s a o) (fr : Int) = zej (zqh s fr a) := by
  unfold z3i z3b zqh
  rw [(zib N o ha).1, (zib N o ha).2]
  cases h : zb5 s a with
  | bad e c => exact ⟨rfl, rfl⟩
  | ok x c =>
    obtain ⟨h1, rfl, rfl⟩ := zcd h
    have hl := zlx s c
    simp only [okP, zej, PR.next, Option.bind_some, orP, zl6, pst]
    cases hd : zj3 (gb s c) with
    | true =>
      have hd' : 48 <= gb s c /\ gb s c <= 57 := by simpa [zj3] using hd
      simp only [cond_true, if_true]
      rw [z6i (by omega), zx4 (by omega) (by omega), show ((gb s c : Int) - 48) = ((gb s c - 48 : Nat) : Int) by omega]
      exact ⟨rfl, by first | rfl | trivial⟩
    | false =>
      simp only [cond_false, Bool.false_eq_true, if_false]
      unfold z9v z9u z6p z6o
      by_cases h2 : 97 <= gb s c /\ gb s c <= 102
      . rw [if_pos h2, decide_eq_false (by omega), decide_eq_false (by omega)]
        simp only [cond_false]
        rw [z6i (by omega), zx4 (x := (gb s c : Int) - 97) (by omega) (by omega), zx4 (by omega) (by omega), show ((gb s c : Int) - 97 + 10) = ((gb s c - 87 : Nat) : Int) by omega]
        exact ⟨rfl, by first | rfl | trivial⟩
      . rw [if_neg h2]
        by_cases h3 : (gb s c : Int) < 97
        . rw [decide_eq_true h3]; exact ⟨rfl, rfl⟩
        . rw [decide_eq_false h3, decide_eq_true (show (102 : Int) < gb s c by omega)]; exact ⟨rfl, rfl⟩

theorem zh5 {N b : Nat} (hb : b < 256) (hN : 257 < N) : z2h N (b : Int) (b : Int) = some (zd7 b) := by
  rw [z12m N hb hb hN, Nat.add_sub_cancel_left]; rfl

theorem z10v : ((List.range 256).all fun b => decide (Go.Lib.indexByte ([(92 : UInt8), (46 : UInt8), (91 : UInt8), (93 : UInt8), (40 : UInt8), (41 : UInt8), (123 : UInt8), (125 : UInt8), (124 : UInt8), (42 : UInt8), (43 : UInt8), (63 : UInt8), (45 : UInt8), (94 : UInt8)] : List UInt8) (Nat.toUInt8 b) < (0 : Int)) == !(escapes.contains b)) = true := by kernel_rfl

theorem z1l4 {b : Nat} (hb : b < 256) : decide (Go.Lib.indexByte ([(92 : UInt8), (46 : UInt8), (91 : UInt8), (93 : UInt8), (40 : UInt8), (41 : UInt8), (123 : UInt8), (125 : UInt8), (124 : UInt8), (42 : UInt8), (43 : UInt8), (63 : UInt8), (45 : UInt8), (94 : UInt8)] : List UInt8) (Nat.toUInt8 (Int.toNat (b : Int))) < (0 : Int)) = !(escapes.contains b) := by
  have := List.all_eq_true.1 z10v b (by simpa using hb)
  rw [Int.toNat_natCast]
  exact eq_of_beq this

theorem zyy : ((List.range 256).all fun b => decide ((0 : Int) <= Go.Lib.indexByte ([(92 : UInt8), (46 : UInt8), (91 : UInt8), (93 : UInt8), (40 : UInt8), (41 : UInt8), (123 : UInt8), (125 : UInt8), (124 : UInt8), (42 : UInt8), (43 : UInt8), (63 : UInt8)] : List UInt8) (Nat.toUInt8 b)) == specials.contains b) = true := by kernel_rfl

theorem z13t {b : Nat} (hb : b < 256) : decide ((0 : Int) <= Go.Lib.indexByte ([(92 : UInt8), (46 : UInt8), (91 : UInt8), (93 : UInt8), (40 : UInt8), (41 : UInt8), (123 : UInt8), (125 : UInt8), (124 : UInt8), (42 : UInt8), (43 : UInt8), (63 : UInt8)] : List UInt8) (Nat.toUInt8 (Int.toNat (b : Int)))) = specials.contains b := by
  have := List.all_eq_true.1 zyy b (by simpa using hb)
  rw [Int.toNat_natCast]
  exact eq_of_beq this

theorem zzy : ((List.range 16).all fun h => (List.range 16).all fun l => Go.Lift.bitsOp Go.BinOp.or Go.IntKind.u8 (Go.Lift.shlI Go.IntKind.u8 (h : Int) (4 : Int)) (l : Int) == ((16 * h + l : Nat) : Int)) = true := by kernel_rfl

theorem z1ef {h l : Nat} (hh : h < 16) (hl : l < 16) : Go.Lift.bitsOp Go.BinOp.or Go.IntKind.u8 (Go.Lift.shlI Go.IntKind.u8 (h : Int) (4 : Int)) (l : Int) = ((16 * h + l : Nat) : Int) := by
  have := List.all_eq_true.1 (List.all_eq_true.1 zzy h (by simpa using hh)) l (by simpa using hl)
  exact eq_of_beq this

theorem zpf {s : List UInt8} {fr a x b : Nat} (h : zqh s fr a = .ok x b) : x < 16 := by
  unfold zqh at h
  cases hn : zb5 s a with
  | bad e c => rw [hn] at h; cases h
  | ok y c =>
    rw [hn] at h
    simp only [PR.next] at h
    split at h
    . rename_i hd
      cases h
      simp [zj3] at hd
      omega
    . split at h
      . cases h; omega
      . cases h

def sgF (r : Sg) : List Int × (Bool × Unit) := (r.1, (r.2.1, ()))

theorem z15 {α : Type} {s : List UInt8} {a x : Nat} {r : PR α} {y : α} (h : Ahead s a r) (e : r = .ok y x) : a <= x /\ x <= s.length := by rw [e] at h; exact h

theorem z18b (N : Nat) {s : List UInt8} {a : Nat} (o : Nat) (ha : a < s.length) (hb : gb s a = 92) (hs : s.length <= 256) (hN : 300 <= N) :
    z24 N (pst s a o) = okP s o sgF (ztx s a) /\ z28 N (pst s a o) = zej (ztx s a) := by
  have hneed : zds s a 92 = .ok () (a + 1) := by
    unfold zds zb5
    rw [if_pos ha]
    simp only [PR.next, hb, if_true]
  unfold z24 z28 ztx
  have q := zn3 N o 92 (Nat.le_of_lt ha) hs
  rw [hneed] at q
  rw [show (92 : Int) = ((92 : Nat) : Int) from rfl, q.1, q.2]
  simp only [okP, zej, Option.bind_some, orP]
  rw [(zib N o (show a + 1 <= s.length by omega)).1, (zib N o (show a + 1 <= s.length by omega)).2]
  cases h : zb5 s (a + 1) with
  | bad e c => exact ⟨rfl, rfl⟩
  | ok x c =>
    obtain ⟨h1, rfl, rfl⟩ := zcd h
    have hl := zlx s (a + 1)
    simp only [okP, zej, Option.bind_some, orP, PR.next, pst]
    unfold z7a z53
    rw [z6i (by omega)]
    simp only [show (100 : Int) = ((100 : Nat) : Int) from rfl, show (119 : Int) = ((119 : Nat) : Int) from rfl, show (120 : Int) = ((120 : Nat) : Int) from rfl, eqI]
    by_cases e1 : gb s (a + 1) = 100
    . rw [decide_eq_true e1, if_pos e1]
      simp only [cond_true]
      rw [show (48 : Int) = ((48 : Nat) : Int) from rfl, show (57 : Int) = ((57 : Nat) : Int) from rfl, z12m N (by omega) (by omega) (by omega)]
      exact ⟨rfl, rfl⟩
    rw [decide_eq_false e1, if_neg e1]
    simp only [cond_false]
    by_cases e2 : gb s (a + 1) = 119
    . rw [decide_eq_true e2, if_pos e2]
      simp only [cond_true]
      have ht := z125 N zby (by decide) (by simp [zby]; omega)
      unfold zby at ht
      rw [ht]
      exact ⟨rfl, rfl⟩
    rw [decide_eq_false e2, if_neg e2]
    simp only [cond_false]
    by_cases e3 : gb s (a + 1) = 120
    . rw [decide_eq_true e3, if_pos e3]
      simp only [cond_true]
      have q := z1en N o a (show a + 1 + 1 <= s.length by omega) hs
      unfold pst at q
      rw [q.1, q.2, show a + 2 = a + 1 + 1 from rfl]
      cases hx : zqh s a (a + 1 + 1) with
      | bad e c => exact ⟨rfl, rfl⟩
      | ok x c =>
        have hc := z15 (znf (Nat.le_of_lt ha) (a + 1 + 1)) hx
        have hx16 := zpf hx
        simp only [okP, zej, Option.bind_some, orP, PR.next]
        have q := z1en N o a hc.2 hs
        rw [q.1, q.2]
        cases hy : zqh s a c with
        | bad e d => exact ⟨rfl, rfl⟩
        | ok y d =>
          have hy16 := zpf hy
          simp only [okP, zej, Option.bind_some, orP, PR.next]
          rw [z1ef hx16 hy16, zh5 (by omega) (by omega)]
          exact ⟨rfl, rfl⟩
    rw [decide_eq_false e3, if_neg e3, z1l4 hl]
    simp only [cond_false]
    cases e4 : escapes.contains (gb s (a + 1)) with
    | true =>
      simp only [Bool.not_true, cond_false, if_true]
      rw [zh5 hl (by omega)]
      exact ⟨rfl, rfl⟩
    | false => exact ⟨rfl, rfl⟩

theorem zvw (N : Nat) {s : List UInt8} {a : Nat} (o : Nat) (ha : a <= s.length) (hs : s.length <= 256) (hN : 300 <= N) :
    z2u N (pst s a o) = okP s o sgF (zh7 s a) /\ z2t N (pst s a o) = zej (zh7 s a) := by
  unfold z2u z2t zh7
  rw [(zib N o ha).1, (zib N o ha).2]
  cases h : zb5 s a with
  | bad e c => exact ⟨rfl, rfl⟩
  | ok x c =>
    obtain ⟨h1, rfl, rfl⟩ := zcd h
    have hl := zlx s c
    simp only [okP, zej, Option.bind_some, orP, PR.next]
    unfold z8r z5u z8q z5t
    simp only [show (92 : Int) = ((92 : Nat) : Int) from rfl, show (91 : Int) = ((91 : Nat) : Int) from rfl, show (93 : Int) = ((93 : Nat) : Int) from rfl, show (45 : Int) = ((45 : Nat) : Int) from rfl, show (94 : Int) = ((94 : Nat) : Int) from rfl, eqI]
    by_cases e1 : gb s c = 92
    . rw [decide_eq_true e1, if_pos e1]
      simp only [cond_true]
      have q := z18b N o h1 e1 hs hN
      rw [q.1, q.2]
      cases hx : ztx s c with
      | bad e d => exact ⟨rfl, rfl⟩
      | ok x d => exact ⟨rfl, rfl⟩
    rw [decide_eq_false e1, if_neg e1]
    simp only [cond_false]
    by_cases f1 : gb s c = 91
    . rw [decide_eq_true f1, if_pos (by simp [f1])]; exact ⟨rfl, rfl⟩
    rw [decide_eq_false f1]
    by_cases f2 : gb s c = 93
    . rw [decide_eq_true f2, if_pos (by simp [f2])]; exact ⟨rfl, rfl⟩
    rw [decide_eq_false f2]
    by_cases f3 : gb s c = 45
    . rw [decide_eq_true f3, if_pos (by simp [f3])]; exact ⟨rfl, rfl⟩
    rw [decide_eq_false f3]
    by_cases f4 : gb s c = 94
    . rw [decide_eq_true f4, if_pos (by simp [f4])]; exact ⟨rfl, rfl⟩
    rw [decide_eq_false f4, if_neg (by simp [f1, f2, f3, f4])]
    simp only [cond_false]
    rw [zh5 hl (by omega)]
    try unfold pst
    try simp only
    rw [z6i (by omega)]
    exact ⟨rfl, rfl⟩

theorem z4_ok : SetOk z4 := z85
theorem zew {b : Nat} (hb : b < 256) : SetOk (zd7 b) := ztt 1 b z85 (by omega)

theorem zh9 {b : Nat} (hb : b < 256) : zha (zd7 b) 256 0 = (b : Int) := by
  have hh : ∀ c, c < 256 -> hasS (zd7 b) c = decide (b = c) := by
    intro c hc
    unfold zd7 z4
    rw [z14d 1 b z85 (by omega) hc, zqr]
    simp only [Bool.false_or]
    exact decide_eq_decide.2 (by omega)
  refine zqk (c := b) (by rw [hh b hb]; simp) 256 0 (Nat.zero_le _) (by omega) (fun i _ hi => ?_)
  rw [hh i (by omega)]
  exact decide_eq_false (by omega)

theorem zln {N b : Nat} (hb : b < 256) (hN : 5 <= N) : z29 N (zd7 b) = some (b : Int) := by
  obtain ⟨k, rfl⟩ : ∃ k, N = k + 5 := ⟨N - 5, by omega⟩
  rw [z131 k (zew hb), zh9 hb]

def SgOk (r : Sg) : Prop := SetOk r.1 /\ (r.2.1 = false -> r.1 = zd7 r.2.2 /\ r.2.2 < 256)

theorem zst : SetOk (ofS 10 48 z4) := ztt 10 48 z85 (by omega)
theorem z122 : SetOk (z15u zby z4) := z13z zby z85

theorem z14i {s : List UInt8} {a : Nat} {r : Sg} {b : Nat} (h : ztx s a = .ok r b) : SgOk r := by
  unfold ztx at h
  cases hn : zb5 s (a + 1) with
  | bad e c => rw [hn] at h; cases h
  | ok y c =>
    obtain ⟨_, rfl, rfl⟩ := zcd hn
    have hl := zlx s (a + 1)
    rw [hn] at h
    simp only [PR.next] at h
    split at h
    . cases h; exact ⟨zst, fun h => by cases h⟩
    split at h
    . cases h; exact ⟨z122, fun h => by cases h⟩
    split at h
    . cases hx : zqh s a (a + 2) with
      | bad e c => rw [hx] at h; cases h
      | ok x c =>
        rw [hx] at h
        simp only at h
        cases hy : zqh s a c with
        | bad e c => rw [hy] at h; cases h
        | ok y d =>
          rw [hy] at h
          simp only at h
          cases h
          have := zpf hx
          have := zpf hy
          exact ⟨zew (by omega), fun _ => ⟨rfl, by show 16 * x + y < 256; omega⟩⟩
    split at h
    . cases h; exact ⟨zew hl, fun _ => ⟨rfl, hl⟩⟩
    . cases h

theorem zkj {s : List UInt8} {a : Nat} {r : Sg} {b : Nat} (h : zh7 s a = .ok r b) : SgOk r := by
  unfold zh7 at h
  cases hn : zb5 s a with
  | bad e c => rw [hn] at h; cases h
  | ok y c =>
    obtain ⟨_, rfl, rfl⟩ := zcd hn
    have hl := zlx s c
    rw [hn] at h
    simp only [PR.next] at h
    split at h
    . exact z14i h
    split at h
    . cases h
    . cases h; exact ⟨zew hl, fun _ => ⟨rfl, hl⟩⟩

theorem zdv {s : List UInt8} {a : Nat} {t : List Int} {b : Nat} (h : zfw s a = .ok t b) : SetOk t := by
  unfold zfw at h
  cases hn : zh7 s a with
  | bad e c => rw [hn] at h; cases h
  | ok r c =>
    have h1 := zkj hn
    rw [hn] at h
    simp only [PR.next] at h
    split at h
    . cases h; exact h1.1
    . rename_i hc
      cases hm : zh7 s (c + 1) with
      | bad e d => rw [hm] at h; cases h
      | ok q d =>
        have h2 := zkj hm
        rw [hm] at h
        simp only at h
        split at h
        . cases h
        . rename_i hd
          cases h
          simp at hc hd
          have e1 := h1.2 hc.1
          have e2 := h2.2 hd.1
          exact ztt _ _ z85 (by omega)

theorem zsc (N : Nat) {s : List UInt8} {a : Nat} (o : Nat) (ha : a <= s.length) (hs : s.length <= 256) (hN : 300 <= N) :
    z2x N (pst s a o) = okP s o id (zfw s a) /\ z2w N (pst s a o) = zej (zfw s a) := by
  unfold z2x z2w zfw
  rw [(zvw N o ha hs hN).1, (zvw N o ha hs hN).2]
  cases h : zh7 s a with
  | bad e c => exact ⟨rfl, rfl⟩
  | ok r c =>
    have hg := zkj h
    have hc := z15 (zho s a) h
    simp only [okP, zej, Option.bind_some, orP, PR.next]
    unfold z8y z8x z60 z5z z8w z8v z5y z5x
    obtain ⟨st, cls, v⟩ := r
    simp only [sgF]
    cases cls with
    | true => exact ⟨rfl, rfl⟩
    | false =>
      simp only [cond_false, Bool.false_or]
      obtain ⟨e1, hv⟩ := hg.2 rfl
      simp only at e1 hv
      rw [show (45 : Int) = ((45 : Nat) : Int) from rfl, zl9 N o 45 hc.2 hs]
      cases hb : isB s c 45 with
      | false => exact ⟨rfl, rfl⟩
      | true =>
        simp only [Option.bind_some, Bool.not_true, cond_true, cond_false, Bool.false_eq_true, if_false]
        have hlt : c + 1 <= s.length := by simp [isB] at hb; omega
        rw [(zvw N o hlt hs hN).1, (zvw N o hlt hs hN).2]
        cases h2 : zh7 s (c + 1) with
        | bad e d => exact ⟨rfl, rfl⟩
        | ok q d =>
          have hg2 := zkj h2
          obtain ⟨st2, cls2, v2⟩ := q
          simp only [okP, zej, Option.bind_some, orP, sgF]
          cases cls2 with
          | true => exact ⟨rfl, rfl⟩
          | false =>
            obtain ⟨e2, hv2⟩ := hg2.2 rfl
            simp only at e2 hv2
            subst e1
            subst e2
            simp only [cond_false, Bool.false_or]
            rw [zln hv (by omega), zln hv2 (by omega)]
            simp only [Option.bind_some]
            by_cases hlt2 : v2 < v
            . rw [decide_eq_true hlt2, decide_eq_true (show (v2 : Int) < v by omega)]
              exact ⟨rfl, rfl⟩
            . rw [decide_eq_false hlt2, decide_eq_false (show ¬ (v2 : Int) < v by omega)]
              simp only [cond_false]
              rw [zx4 (x := (v : Int)) (by omega) (by omega), zx4 (x := (v2 : Int)) (by omega) (by omega), z12m N hv hv2 (by omega)]
              exact ⟨rfl, rfl⟩

theorem z141 {N : Nat} (hN : 5 <= N) {s t : List Int} (hs : SetOk s) (ht : SetOk t) : zbp N s t = some (orS s t) := by
  obtain ⟨k, rfl⟩ : ∃ k, N = k + 5 := ⟨N - 5, by omega⟩
  exact or_eq k hs ht

theorem z162 {N : Nat} (hN : 5 <= N) {s : List Int} (hs : SetOk s) : zae N s = some (z11w s) := by
  obtain ⟨k, rfl⟩ : ∃ k, N = k + 5 := ⟨N - 5, by omega⟩
  exact z1ed k hs

theorem zqm {s : List UInt8} : ∀ (k a : Nat) {acc t : List Int} {b : Nat}, SetOk acc -> zbe s k a acc = .ok t b -> SetOk t
  | 0, a, acc, t, b, ha, h => by cases h
  | k + 1, a, acc, t, b, ha, h => by
    unfold zbe at h
    split at h
    . cases h; exact ha
    . cases hi : zfw s a with
      | bad e c => rw [hi] at h; cases h
      | ok u c =>
        rw [hi] at h
        exact zqm k c (zs0 ha (zdv hi)) h

theorem zpd (N : Nat) {s : List UInt8} (o : Nat) (hs : s.length <= 256) (hN : 300 <= N) (x2 : List Int) (nt : Bool) (k0 : PSt -> List Int -> Option (List Int × (PSt × Unit))) : ∀ (k N' a : Nat) (acc : List Int), k <= N' -> a <= s.length -> s.length < a + k -> SetOk acc →
    iter (fun (v : (PSt × (List Int))) r => z45 N x2 nt v.1 v.2 (fun p set_ => (r (p, set_))) k0) N' (pst s a o, acc) = match zbe s k a acc with | .ok t b => k0 (pst s b o) t | .bad .. => none
  | 0, N', a, acc, h1, h2, h3, h4 => by omega
  | k + 1, N', a, acc, h1, h2, h3, h4 => by
    obtain ⟨M, rfl⟩ : ∃ M, N' = M + 1 := ⟨N' - 1, by omega⟩
    simp only [iter, zbe]
    unfold z45
    dsimp only
    rw [show (93 : Int) = ((93 : Nat) : Int) from rfl, zl9 N o 93 h2 hs]
    cases hb : isB s a 93 with
    | true => rfl
    | false =>
      simp only [Option.bind_some, Bool.not_false, cond_true, cond_false, Bool.false_eq_true, if_false]
      rw [(zsc N o h2 hs hN).1]
      cases hi : zfw s a with
      | bad e c => rfl
      | ok t c =>
        have hc := z15 (z8e s a) hi
        simp only [okP, Option.bind_some, PR.next, id]
        rw [z141 (by omega) h4 (zdv hi)]
        simp only [Option.bind_some]
        exact zpd N o hs hN x2 nt k0 k M c _ (by omega) hc.2 (by omega) (zs0 h4 (zdv hi))

theorem znd (N : Nat) {s : List UInt8} (o : Nat) (hs : s.length <= 256) (hN : 300 <= N) (x2 : List Int) (nt : Bool) (k0 : (Int × (Int × Unit)) -> Option (Int × (Int × Unit))) (k1 : PSt -> List Int -> Option (Int × (Int × Unit))) : ∀ (k N' a : Nat) (acc : List Int), k <= N' -> a <= s.length -> s.length < a + k -> SetOk acc →
    iter (fun (v : (PSt × (List Int))) r => z32 N x2 nt v.1 v.2 (fun p set_ => (r (p, set_))) k0 k1) N' (pst s a o, acc) = match zbe s k a acc with | .ok t b => k1 (pst s b o) t | .bad e c => k0 (e, ((c : Int), ()))
  | 0, N', a, acc, h1, h2, h3, h4 => by omega
  | k + 1, N', a, acc, h1, h2, h3, h4 => by
    obtain ⟨M, rfl⟩ : ∃ M, N' = M + 1 := ⟨N' - 1, by omega⟩
    simp only [iter, zbe]
    unfold z32
    dsimp only
    rw [show (93 : Int) = ((93 : Nat) : Int) from rfl, zl9 N o 93 h2 hs]
    cases hb : isB s a 93 with
    | true => rfl
    | false =>
      simp only [Option.bind_some, Bool.not_false, cond_true, cond_false, Bool.false_eq_true, if_false]
      rw [(zsc N o h2 hs hN).1, (zsc N o h2 hs hN).2]
      cases hi : zfw s a with
      | bad e c => rfl
      | ok t c =>
        have hc := z15 (z8e s a) hi
        simp only [okP, zej, orP, Option.bind_some, PR.next, id]
        rw [z141 (by omega) h4 (zdv hi)]
        simp only [Option.bind_some]
        exact znd N o hs hN x2 nt k0 k1 k M c _ (by omega) hc.2 (by omega) (zs0 h4 (zdv hi))

theorem zqf {s : List UInt8} {a b : Nat} (ha : a < s.length) (hb : gb s a = b) : zds s a b = .ok () (a + 1) := by
  unfold zds zb5
  rw [if_pos ha]
  simp only [PR.next, hb, if_true]

theorem zpo (N : Nat) {s : List UInt8} {a : Nat} (o : Nat) (ha : a < s.length) (hb : gb s a = 91) (hs : s.length <= 256) (hN : 300 <= N) :
    z2y N (pst s a o) = okP s o id (zdt s (a + 1)) /\ z2k N (pst s a o) = zej (zdt s (a + 1)) := by
  unfold z2y z2k zdt
  have q := zn3 N o 91 (Nat.le_of_lt ha) hs
  rw [zqf ha hb] at q
  rw [show (91 : Int) = ((91 : Nat) : Int) from rfl, q.1, q.2]
  simp only [okP, zej, orP, Option.bind_some]
  rw [show (94 : Int) = ((94 : Nat) : Int) from rfl, zl9 N o 94 (show a + 1 <= s.length by omega) hs]
  simp only [Option.bind_some]
  have e : (cond (isB s (a + 1) 94) (a + 1 + 1) (a + 1)) = (if isB s (a + 1) 94 = true then a + 1 + 1 else a + 1) := by cases isB s (a + 1) 94 <;> rfl
  rw [e]
  have hle : (if isB s (a + 1) 94 = true then a + 1 + 1 else a + 1) <= s.length := by
    split
    . rename_i h; simp [isB] at h; omega
    . omega
  generalize (if isB s (a + 1) 94 = true then a + 1 + 1 else a + 1) = a1 at hle
  rw [(zsc N o hle hs hN).1, (zsc N o hle hs hN).2]
  cases hi : zfw s a1 with
  | bad e c => exact ⟨rfl, rfl⟩
  | ok t c =>
    have hc := z15 (z8e s a1) hi
    simp only [okP, zej, orP, Option.bind_some, PR.next, id]
    unfold zam z7g
    rw [zpd N o hs hN _ _ _ (s.length + 1) N c t (by omega) hc.2 (by omega) (zdv hi), znd N o hs hN _ _ _ _ (s.length + 1) N c t (by omega) hc.2 (by omega) (zdv hi)]
    cases hm : zbe s (s.length + 1) c t with
    | bad e d => exact ⟨rfl, rfl⟩
    | ok acc d =>
      have hk := zqm _ _ (zdv hi) hm
      simp only
      cases isB s (a + 1) 94 with
      | true =>
        simp only [cond_true, if_true]
        rw [z162 (by omega) hk]
        exact ⟨rfl, rfl⟩
      | false => exact ⟨rfl, rfl⟩

theorem zwa {v b : Nat} (hv : v <= 17) (hb : 48 <= b) (hb2 : b <= 57) :
    (if ((17 : Int) < (Go.IntKind.wrap Go.IntKind.i64 ((Go.IntKind.wrap Go.IntKind.i64 ((10 : Int) * (v : Int))) + (Go.IntKind.wrap Go.IntKind.i64 (Go.IntKind.wrap Go.IntKind.u8 ((b : Int) - (48 : Int))))))) then (17 : Int) else (Go.IntKind.wrap Go.IntKind.i64 ((Go.IntKind.wrap Go.IntKind.i64 ((10 : Int) * (v : Int))) + (Go.IntKind.wrap Go.IntKind.i64 (Go.IntKind.wrap Go.IntKind.u8 ((b : Int) - (48 : Int))))))) = ((min (10 * v + (b - 48)) 17 : Nat) : Int) := by
  rw [zx4 (by omega) (by omega), z4r (x := (b : Int) - 48) (by unfold I64; omega), z4r (x := 10 * (v : Int)) (by unfold I64; omega), z4r (by unfold I64; omega)]
  split <;> omega

theorem z12p (N : Nat) {s : List UInt8} {a v : Nat} (fr : Int) (o : Nat) (hs : s.length <= 256) (hv : v <= 17) (h : a < s.length) (hd : zj3 (gb s a) = true) (rec : PSt -> Int -> Option (Int × (PSt × Unit))) (k0 : PSt -> Int -> Option (Int × (PSt × Unit))) :
    z2q N fr (pst s a o) (v : Int) rec k0 = rec (pst s (a + 1) o) ((min (10 * v + (gb s a - 48)) 17 : Nat) : Int) := by
  unfold z2q z6j pst
  dsimp only
  have hd' : 48 <= gb s a /\ gb s a <= 57 := by simpa [zj3] using hd
  rw [decide_eq_true (show (a : Int) < (s.length : Int) by omega), z86 h, z88, zl6, hd]
  simp only [cond_true, Option.bind_some]
  rw [z6i (by omega), zwa hv hd'.1 hd'.2]

theorem z12n (N : Nat) {s : List UInt8} {a v : Nat} (fr : Int) (o : Nat) (hn : ¬ (a < s.length /\ zj3 (gb s a) = true)) (rec : PSt -> Int -> Option (Int × (PSt × Unit))) (k0 : PSt -> Int -> Option (Int × (PSt × Unit))) :
    z2q N fr (pst s a o) (v : Int) rec k0 = k0 (pst s a o) (v : Int) := by
  unfold z2q z6j pst
  dsimp only
  rcases Nat.lt_or_ge a s.length with h | h
  . rw [decide_eq_true (show (a : Int) < (s.length : Int) by omega), z86 h, z88, zl6]
    have hd : zj3 (gb s a) = false := by
      cases hd : zj3 (gb s a) with
      | true => exact absurd ⟨h, hd⟩ hn
      | false => rfl
    rw [hd]
    rfl
  . rw [decide_eq_false (show ¬ (a : Int) < (s.length : Int) by omega)]
    rfl

theorem zrh (N : Nat) {s : List UInt8} (fr : Int) (o : Nat) (hs : s.length <= 256) (k0 : PSt -> Int -> Option (Int × (PSt × Unit))) : ∀ (k N' a v : Nat), k <= N' -> a <= s.length -> s.length < a + k -> v <= 17 →
    iter (fun (v : (PSt × Int)) r => z2q N fr v.1 v.2 (fun p n => (r (p, n))) k0) N' (pst s a o, (v : Int)) = k0 (pst s (zar s k a v).2 o) ((zar s k a v).1 : Int)
  | 0, N', a, v, h1, h2, h3, h4 => by omega
  | k + 1, N', a, v, h1, h2, h3, h4 => by
    obtain ⟨M, rfl⟩ : ∃ M, N' = M + 1 := ⟨N' - 1, by omega⟩
    rw [iter]
    dsimp only
    by_cases hc : a < s.length /\ zj3 (gb s a) = true
    . rw [z12p N fr o hs h4 hc.1 hc.2, zrh N fr o hs k0 k M (a + 1) _ (by omega) (by omega) (by omega) (Nat.min_le_right _ _)]
      conv => rhs; rw [zar, if_pos hc]
    . rw [z12n N fr o hc]
      conv => rhs; rw [zar, if_neg hc]

theorem zzv (N : Nat) {s : List UInt8} {a v : Nat} (fr : Int) (o : Nat) (hs : s.length <= 256) (hv : v <= 17) (h : a < s.length) (hd : zj3 (gb s a) = true) (rec : PSt -> Int -> Option (Int × (Int × Unit))) (k0 : PSt -> Int -> Option (Int × (Int × Unit))) :
    z1s N fr (pst s a o) (v : Int) rec k0 = rec (pst s (a + 1) o) ((min (10 * v + (gb s a - 48)) 17 : Nat) : Int) := by
  unfold z1s z4f pst
  dsimp only
  have hd' : 48 <= gb s a /\ gb s a <= 57 := by simpa [zj3] using hd
  rw [decide_eq_true (show (a : Int) < (s.length : Int) by omega), z86 h, z88, zl6, hd]
  simp only [cond_true, Option.bind_some]
  rw [z6i (by omega), zwa hv hd'.1 hd'.2]

theorem zzu (N : Nat) {s : List UInt8} {a v : Nat} (fr : Int) (o : Nat) (hn : ¬ (a < s.length /\ zj3 (gb s a) = true)) (rec : PSt -> Int -> Option (Int × (Int × Unit))) (k0 : PSt -> Int -> Option (Int × (Int × Unit))) :
    z1s N fr (pst s a o) (v : Int) rec k0 = k0 (pst s a o) (v : Int) := by
  unfold z1s z4f pst
  dsimp only
  rcases Nat.lt_or_ge a s.length with h | h
  . rw [decide_eq_true (show (a : Int) < (s.length : Int) by omega), z86 h, z88, zl6]
    have hd : zj3 (gb s a) = false := by
      cases hd : zj3 (gb s a) with
      | true => exact absurd ⟨h, hd⟩ hn
      | false => rfl
    rw [hd]
    rfl
  . rw [decide_eq_false (show ¬ (a : Int) < (s.length : Int) by omega)]
    rfl

theorem zoq (N : Nat) {s : List UInt8} (fr : Int) (o : Nat) (hs : s.length <= 256) (k0 : PSt -> Int -> Option (Int × (Int × Unit))) : ∀ (k N' a v : Nat), k <= N' -> a <= s.length -> s.length < a + k -> v <= 17 →
    iter (fun (v : (PSt × Int)) r => z1s N fr v.1 v.2 (fun p n => (r (p, n))) k0) N' (pst s a o, (v : Int)) = k0 (pst s (zar s k a v).2 o) ((zar s k a v).1 : Int)
  | 0, N', a, v, h1, h2, h3, h4 => by omega
  | k + 1, N', a, v, h1, h2, h3, h4 => by
    obtain ⟨M, rfl⟩ : ∃ M, N' = M + 1 := ⟨N' - 1, by omega⟩
    rw [iter]
    dsimp only
    by_cases hc : a < s.length /\ zj3 (gb s a) = true
    . rw [zzv N fr o hs h4 hc.1 hc.2, zoq N fr o hs k0 k M (a + 1) _ (by omega) (by omega) (by omega) (Nat.min_le_right _ _)]
      conv => rhs; rw [zar, if_pos hc]
    . rw [zzu N fr o hc]
      conv => rhs; rw [zar, if_neg hc]

theorem z12o (N : Nat) {s : List UInt8} {a : Nat} (o : Nat) (ha : a <= s.length) (hs : s.length <= 256) (hN : 300 <= N) :
    z3h N (pst s a o) = okP s o (fun v : Nat => (v : Int)) (zs5 s a) /\ z3a N (pst s a o) = zej (zs5 s a) := by
  unfold z3h z3a z9t z6n zs5
  rw [(zib N o ha).1, (zib N o ha).2]
  cases h : zb5 s a with
  | bad e c => exact ⟨rfl, rfl⟩
  | ok x c =>
    obtain ⟨h1, rfl, rfl⟩ := zcd h
    simp only [okP, zej, orP, Option.bind_some, PR.next, zl6]
    cases hd : zj3 (gb s c) with
    | false => exact ⟨rfl, rfl⟩
    | true =>
      simp only [Bool.not_true, cond_false, if_true]
      unfold z9s zd9 z6m zat
      rw [show (0 : Int) = ((0 : Nat) : Int) from rfl, zrh N _ o hs _ (s.length + 1) N c 0 (by omega) ha (by omega) (by omega), zoq N _ o hs _ (s.length + 1) N c 0 (by omega) ha (by omega) (by omega)]
      generalize hq : zar s (s.length + 1) c 0 = q
      obtain ⟨v, b⟩ := q
      unfold z9r z9q z6l z6k
      simp only [pst]
      rw [z86 h1, z88]
      simp only [z6i (show c <= 100000 by omega), cond_true, show (48 : Int) = ((48 : Nat) : Int) from rfl, eqI]
      by_cases h48 : gb s c = 48
      . rw [decide_eq_true h48]
        simp only [cond_true]
        by_cases hb : c + 1 < b
        . rw [decide_eq_true (show ((c + 1 : Nat) : Int) < (b : Int) by omega), if_pos ⟨h48, hb⟩]
          exact ⟨rfl, rfl⟩
        . rw [decide_eq_false (show ¬ ((c + 1 : Nat) : Int) < (b : Int) by omega), if_neg (fun h => hb h.2)]
          simp only [cond_false]
          by_cases hv : 16 < v
          . rw [decide_eq_true (show (16 : Int) < (v : Int) by omega), if_pos hv]
            exact ⟨rfl, rfl⟩
          . rw [decide_eq_false (show ¬ (16 : Int) < (v : Int) by omega), if_neg hv]
            exact ⟨rfl, rfl⟩
      . rw [decide_eq_false h48, if_neg (fun h => h48 h.1)]
        simp only [cond_false]
        by_cases hv : 16 < v
        . rw [decide_eq_true (show (16 : Int) < (v : Int) by omega), if_pos hv]
          exact ⟨rfl, rfl⟩
        . rw [decide_eq_false (show ¬ (16 : Int) < (v : Int) by omega), if_neg hv]
          exact ⟨rfl, rfl⟩

def lhF (x : Int × Int) : Int × (Int × Unit) := (x.1, (x.2, ()))

theorem z1l3 (N : Nat) {s : List UInt8} {a : Nat} (o lo hi fr : Nat) (ha : a <= s.length) (hs : s.length <= 256) :
    z50 N (pst s a o) (lo : Int) (hi : Int) (fr : Int) ((zy N (pst s a o) (125 : Int)).bind fun y1 => some (((lo : Int), ((hi : Int), ())), (y1.2.1, ()))) = okP s o lhF (zxu s lo hi fr a) ∧
    z3l N (pst s a o) (lo : Int) (hi : Int) (fr : Int) (fun p4 => some p4) (orP (z1c N (pst s a o) (125 : Int)) (fun z1 => some z1) ((zy N (pst s a o) (125 : Int)).bind fun y1 => none)) = zej (zxu s lo hi fr a) := by
  unfold z50 z3l zxu
  have e : decide ((hi : Int) < (if ((1 : Int) > (lo : Int)) then (1 : Int) else (lo : Int))) = decide (hi < max lo 1) := by
    refine decide_eq_decide.2 ?_
    split <;> omega
  rw [e]
  by_cases h : hi < max lo 1
  . rw [decide_eq_true h, if_pos h]; exact ⟨rfl, rfl⟩
  . rw [decide_eq_false h, if_neg h]
    simp only [cond_false]
    have q := zn3 N o 125 ha hs
    rw [show (125 : Int) = ((125 : Nat) : Int) from rfl, q.1, q.2]
    cases zds s a 125 with
    | bad e c => exact ⟨rfl, rfl⟩
    | ok x c => exact ⟨rfl, rfl⟩

theorem zwu (N : Nat) {s : List UInt8} {a : Nat} (o : Nat) (ha : a <= s.length) (hs : s.length <= 256) (hN : 300 <= N) :
    z3o N (pst s a o) = okP s o lhF (zbm s a) /\ z38 N (pst s a o) = zej (zbm s a) := by
  unfold z3o z38 zbm
  rw [(z12o N o ha hs hN).1, (z12o N o ha hs hN).2]
  cases h : zs5 s a with
  | bad e c => exact ⟨rfl, rfl⟩
  | ok lo c =>
    have hc := z15 (zf9 s a) h
    simp only [okP, zej, orP, Option.bind_some, PR.next]
    unfold z7b z54
    rw [show (44 : Int) = ((44 : Nat) : Int) from rfl, zl9 N o 44 hc.2 hs]
    simp only [Option.bind_some]
    cases h1 : isB s c 44 with
    | false => exact z1l3 N o lo lo a hc.2 hs
    | true =>
      have hlt : c + 1 <= s.length := by simp [isB] at h1; omega
      simp only [cond_true, if_true]
      have q := zl9 N o 125 hlt hs
      rw [show (125 : Int) = ((125 : Nat) : Int) from rfl, q]
      simp only [Option.bind_some]
      cases h2 : isB s (c + 1) 125 with
      | true => exact ⟨rfl, rfl⟩
      | false =>
        simp only [cond_false, Bool.false_eq_true, if_false]
        rw [(z12o N o hlt hs hN).1, (z12o N o hlt hs hN).2]
        cases h3 : zs5 s (c + 1) with
        | bad e d => exact ⟨rfl, rfl⟩
        | ok hi d =>
          have hd := z15 (zf9 s (c + 1)) h3
          simp only [okP, zej, orP, Option.bind_some, PR.next]
          exact z1l3 N o lo hi (c + 1) hd.2 hs

end
end Go.Proofs.YtbfmhambfonpcaaDoorLg

set_option linter.all false
set_option maxRecDepth 100000
namespace Go.Proofs.YtbfmhambfonpcaaDoorLg
noncomputable section
open Go Go.Lift Go.Proofs.YtbfmhambfonpcaaDoorPx

theorem zg9 {x : Int} (h : -9223372036854775808 <= x) (h2 : x <= 9223372036854775807) : (Lit.int .i64 x).wf = true := by
  simp [Lit.wf, IntKind.min, IntKind.max, IntKind.signed, IntKind.bits]; omega

theorem z1ar {x : Int} (h : U64 x) : (Lit.int .u64 x).wf = true := by
  unfold U64 at h
  simp [Lit.wf, IntKind.min, IntKind.max, IntKind.signed, IntKind.bits]; omega

theorem zvh {st : List Int} (h : SetOk st) : st.length = 4 /\ ∀ x ∈ st, (Lit.int .u64 x).wf = true := by
  obtain ⟨a, b, c, d, rfl, ha, hb, hc, hd⟩ := h
  refine ⟨rfl, fun x hx => ?_⟩
  simp only [List.mem_cons, List.not_mem_nil, or_false] at hx
  rcases hx with rfl | rfl | rfl | rfl <;> exact z1ar (by assumption)

theorem z3t : ∀ xs ys : List Tree, z21 (xs ++ ys) = z21 xs + z21 ys
  | [], ys => by simp [z21]
  | x :: xs, ys => by simp [z21, z3t xs ys, Nat.add_assoc]

theorem z3f (t : Tree) : z21 [t] = z5p t := by simp [z21]

theorem zp0 (k : Int) (t : Tree) : z21 (zgg k t) <= z5p t := by
  unfold zgg
  cases zky t == k with
  | true =>
    obtain ⟨kk, st, ks, lo, hi⟩ := t
    show z21 ks <= _
    rw [z5p]; omega
  | false => rw [cond_false, z3f]; exact Nat.le_refl _

theorem zfg (k : Int) : ∀ ps : List Tree, z21 (z7e k ps) <= z21 ps
  | [] => Nat.le_refl _
  | p :: ps => by
    have := zfg k ps
    have h2 := zp0 k p
    show z21 (zgg k p ++ z7e k ps) <= z21 (p :: ps)
    rw [z3t, z21]
    omega

theorem zpc (k : Int) (ps : List Tree) : z5p (ze4 k ps) <= z21 ps + 1 := by
  have h := zfg k ps
  unfold ze4
  split
  . rename_i x hx
    rw [hx, z3f] at h
    omega
  . rw [z5p]; omega

theorem z12x (k : Int) (t : Tree) : z5p (ze4 k [t]) <= z5p t := by
  have e : z7e k [t] = zgg k t := by simp [z7e]
  have h := zp0 k t
  unfold ze4
  rw [e]
  split
  . rename_i x hx
    rw [hx, z3f] at h
    exact h
  . unfold zgg
    cases hk : zky t == k with
    | true =>
      obtain ⟨kk, st, ks, lo, hi⟩ := t
      show z5p (.mk k [0, 0, 0, 0] ks 0 0) <= _
      rw [z5p, z5p]
      exact Nat.le_refl _
    | false =>
      rename_i hne
      exact absurd (by unfold zgg; rw [hk]; rfl) (hne t)

theorem z15y (k : Int) {t : Tree} (h : WfN t) : ∀ x ∈ zgg k t, WfN x := by
  unfold zgg
  cases zky t == k with
  | true =>
    obtain ⟨kk, st, ks, lo, hi⟩ := t
    rw [WfN] at h
    exact (zkc ks).1 h.2.2.1.2
  | false =>
    intro x hx
    simp at hx
    subst hx; exact h

theorem z10r (k : Int) : ∀ {ps : List Tree}, (∀ x ∈ ps, WfN x) -> ∀ x ∈ z7e k ps, WfN x
  | [], _, x, hx => by cases hx
  | p :: ps, h, x, hx => by
    have hx : x ∈ zgg k p ++ z7e k ps := hx
    rcases List.mem_append.1 hx with hx | hx
    . exact z15y k (h p (by simp)) x hx
    . exact z10r k (fun y hy => h y (by simp [hy])) x hx

theorem z_wf : ([0, 0, 0, 0] : List Int).length = 4 /\ ∀ x ∈ ([0, 0, 0, 0] : List Int), (Lit.int .u64 x).wf = true := zvh z85

theorem z10d {k : Int} (hk : k = 2 \/ k = 3) {ps : List Tree} (h : ∀ x ∈ ps, WfN x) (hn : z21 ps <= 1000000) : WfN (ze4 k ps) := by
  have hf := z10r k h
  have hl := Nat.le_trans (z4q (z7e k ps)) (zfg k ps)
  unfold ze4
  split
  . rename_i x hx
    exact hf x (by rw [hx]; simp)
  . rw [WfN]
    refine ⟨zg9 (by omega) (by omega), z_wf, ⟨Nat.le_trans hl (Nat.le_trans hn (by unfold maxLen; omega)), (zkc _).2 hf⟩, zg9 (by omega) (by omega), zg9 (by omega) (by omega)⟩

theorem zw8 {st : List Int} (h : SetOk st) : WfN (zym st) := by
  unfold zym
  rw [WfN]
  exact ⟨zg9 (by omega) (by omega), zvh h, ⟨Nat.zero_le _, by rw [z11q]; trivial⟩, zg9 (by omega) (by omega), zg9 (by omega) (by omega)⟩

theorem z1b0 {t : Tree} {lo hi : Int} (h : WfN t) (h1 : -1 <= lo /\ lo <= 100) (h2 : -1 <= hi /\ hi <= 100) : WfN (zxh t lo hi) := by
  unfold zxh
  rw [WfN]
  exact ⟨zg9 (by omega) (by omega), zvh z4_ok, ⟨by unfold maxLen; simp, by rw [z11q, z11q]; exact ⟨h, trivial⟩⟩, zg9 (by omega) (by omega), zg9 (by omega) (by omega)⟩

def TOk (a b : Nat) (c : Nat) (t : Tree) : Prop := WfN t /\ z5p t + c <= 3 * (b - a) + 1

def TRes (a c : Nat) (r : PR Tree) : Prop := ∀ t b, r = .ok t b -> TOk a b c t

theorem TRes.bad {a c : Nat} {e : Int} {x : Nat} : TRes a c (.bad e x) := fun t b h => by cases h

theorem TRes.next {α : Type} {a c : Nat} {r : PR α} {f : α -> Nat -> PR Tree} (h : ∀ x b, r = .ok x b -> TRes a c (f x b)) : TRes a c (r.next f) := by
  cases r with
  | bad e x => exact TRes.bad
  | ok x b => exact h x b rfl

theorem z134 {s : List UInt8} {a : Nat} {t : List Int} {b : Nat} (h : zdt s a = .ok t b) : SetOk t := by
  unfold zdt at h
  cases hi : zfw s (if isB s a 94 = true then a + 1 else a) with
  | bad e c => rw [hi] at h; cases h
  | ok u c =>
    rw [hi] at h
    simp only [PR.next] at h
    cases hm : zbe s (s.length + 1) c u with
    | bad e d => rw [hm] at h; cases h
    | ok v d =>
      rw [hm] at h
      simp only at h
      have hk := zqm _ _ (zdv hi) hm
      cases h
      split
      . exact z144 hk
      . exact hk

theorem z143 {s : List UInt8} {a v b : Nat} (h : zs5 s a = .ok v b) : v <= 16 := by
  unfold zs5 at h
  cases hn : zb5 s a with
  | bad e c => rw [hn] at h; cases h
  | ok y c =>
    rw [hn] at h
    simp only [PR.next] at h
    split at h
    . split at h
      . cases h
      split at h
      . cases h
      . cases h; omega
    . cases h

theorem z14h {s : List UInt8} {lo hi fr a : Nat} {x : Int × Int} {b : Nat} (hl : lo <= 16) (hh : hi <= 16) (h : zxu s lo hi fr a = .ok x b) : x = ((lo : Int), (hi : Int)) /\ max lo 1 <= hi := by
  unfold zxu at h
  split at h
  . cases h
  . cases hn : zds s a 125 with
    | bad e c => rw [hn] at h; cases h
    | ok y c => rw [hn] at h; cases h; exact ⟨rfl, by omega⟩

theorem z11e {s : List UInt8} {a : Nat} {x : Int × Int} {b : Nat} (h : zbm s a = .ok x b) : 0 <= x.1 /\ x.1 <= 16 /\ (x.2 = -1 \/ (1 <= x.2 /\ x.1 <= x.2 /\ x.2 <= 16)) := by
  unfold zbm at h
  cases hn : zs5 s a with
  | bad e c => rw [hn] at h; cases h
  | ok lo c =>
    have hl := z143 hn
    rw [hn] at h
    simp only [PR.next] at h
    split at h
    . split at h
      . cases h; exact ⟨by simp, by simp; omega, .inl rfl⟩
      . cases hm : zs5 s (c + 1) with
        | bad e d => rw [hm] at h; cases h
        | ok hi d =>
          have hh := z143 hm
          rw [hm] at h
          obtain ⟨rfl, h3⟩ := z14h hl hh h
          exact ⟨by simp, by simp; omega, .inr ⟨by simp; omega, by simp; omega, by simp; omega⟩⟩
    . obtain ⟨rfl, h3⟩ := z14h hl hl h
      exact ⟨by simp, by simp; omega, .inr ⟨by simp; omega, by simp, by simp; omega⟩⟩

abbrev z14r (s : List UInt8) (sub : Option (Nat -> PR Tree)) : Prop := ∀ f, sub = some f -> ∀ b, b <= s.length -> Ahead s b (f b)
abbrev z19u (s : List UInt8) (sub : Option (Nat -> PR Tree)) : Prop := ∀ f, sub = some f -> ∀ b, b <= s.length -> TRes b 0 (f b)

theorem zjy (st : List Int) : z5p (zym st) = 1 := by unfold zym; rw [z5p, z21]
theorem zzw (t : Tree) (lo hi : Int) : z5p (zxh t lo hi) = 1 + z5p t := by unfold zxh; rw [z5p, z3f]

theorem z11i {sub : Option (Nat -> PR Tree)} {s : List UInt8} {a : Nat} (hA : z14r s sub) (hT : z19u s sub) (ha : a < s.length) : TRes a 2 (zgi sub s a) := by
  unfold zgi
  split
  . cases sub with
    | none => exact TRes.bad
    | some f =>
      refine TRes.next fun t a1 h1 => TRes.next fun _ a2 h2 => ?_
      have g1 := z15 (hA f rfl (a + 1) (by omega)) h1
      have g2 := z15 (zkq s a1 41) h2
      have g3 := hT f rfl (a + 1) (by omega) t a1 h1
      intro t' b e
      cases e
      exact ⟨g3.1, by have := g3.2; omega⟩
  split
  . intro t b e
    cases e
    exact ⟨zw8 (ztt 256 0 z85 (by omega)), by rw [zjy]; omega⟩
  split
  . refine TRes.next fun st a1 h1 => ?_
    have g1 := z15 (znm (a + 1)) h1
    intro t b e
    cases e
    exact ⟨zw8 (z134 h1), by rw [zjy]; omega⟩
  split
  . refine TRes.next fun st a1 h1 => ?_
    have g1 := z15 (znj (Nat.le_of_lt ha)) h1
    intro t b e
    cases e
    exact ⟨zw8 (z14i h1).1, by rw [zjy]; omega⟩
  split
  . exact TRes.bad
  . intro t b e
    cases e
    exact ⟨zw8 (zew (zlx s a)), by rw [zjy]; omega⟩

theorem zhs {sub : Option (Nat -> PR Tree)} {s : List UInt8} {a : Nat} (hA : z14r s sub) (hT : z19u s sub) (ha : a < s.length) : TRes a 2 (zeg sub s a) := by
  refine TRes.next fun t a1 h1 => ?_
  have g1 := z15 (zfi hA ha) h1
  have g2 := z11i hA hT ha t a1 h1
  have hr : ∀ lo hi b, -1 <= lo /\ lo <= 100 -> -1 <= hi /\ hi <= 100 -> a1 < b -> TOk a b 2 (zxh t lo hi) := fun lo hi b h1 h2 hb => ⟨z1b0 g2.1 h1 h2, by rw [zzw]; have := g2.2; omega⟩
  split
  . split
    . intro t' b e; cases e; exact hr _ _ _ (by omega) (by omega) (by omega)
    split
    . intro t' b e; cases e; exact hr _ _ _ (by omega) (by omega) (by omega)
    split
    . intro t' b e; cases e; exact hr _ _ _ (by omega) (by omega) (by omega)
    split
    . refine TRes.next fun lh a2 h2 => ?_
      have g3 := z15 (zlr (show a1 + 1 <= s.length by omega)) h2
      have g4 := z11e h2
      intro t' b e; cases e
      exact hr _ _ _ (by omega) (by omega) (by omega)
    . intro t' b e; cases e; exact g2
  . intro t' b e; cases e; exact g2

theorem zcz {sub : Option (Nat -> PR Tree)} {s : List UInt8} (hs : s.length <= 256) (hA : z14r s sub) (hT : z19u s sub) (a0 : Nat) : ∀ (k a : Nat) (ps : List Tree), a <= s.length -> a0 <= a -> (∀ x ∈ ps, WfN x) -> z21 ps <= 3 * (a - a0) -> TRes a0 0 (zk1 sub s k a ps)
  | 0, a, ps, h1, h2, h3, h4 => TRes.bad
  | k + 1, a, ps, h1, h2, h3, h4 => by
    unfold zk1
    split
    . intro t b e
      cases e
      have := zpc 2 ps
      exact ⟨z10d (.inl rfl) h3 (by omega), by omega⟩
    . rename_i hc
      have hlt : a < s.length := by simp [zi0] at hc; exact hc.1
      refine TRes.next fun t a1 e1 => ?_
      have g1 := z15 (zbl hA hlt) e1
      have g2 := zhs hA hT hlt t a1 e1
      refine zcz hs hA hT a0 k a1 _ g1.2 (by omega) (fun x hx => ?_) ?_
      . rcases List.mem_append.1 hx with hx | hx
        . exact h3 x hx
        . simp at hx; subst hx; exact g2.1
      . rw [z3t, z3f]
        have := g2.2
        omega

theorem zt6 {sub : Option (Nat -> PR Tree)} {s : List UInt8} (hs : s.length <= 256) (hA : z14r s sub) (hT : z19u s sub) (a0 : Nat) : ∀ (k a : Nat) (ps : List Tree), a <= s.length -> a0 <= a -> (∀ x ∈ ps, WfN x) -> ((∃ t, ps = [t] /\ z5p t <= 3 * (a - a0) + 1) \/ z21 ps + 1 <= 3 * (a - a0)) -> TRes a0 0 (zfc sub s k a ps)
  | 0, a, ps, h1, h2, h3, h4 => TRes.bad
  | k + 1, a, ps, h1, h2, h3, h4 => by
    have hn : z21 ps <= 3 * (a - a0) + 1 := by
      rcases h4 with ⟨t, rfl, h⟩ | h
      . rw [z3f]; exact h
      . omega
    unfold zfc
    split
    . rename_i hc
      have hlt : a < s.length := by simp [isB] at hc; exact hc.1
      refine TRes.next fun t a1 e1 => ?_
      have g1 := z15 (z5h hA _ (a + 1) [] (by omega)) e1
      have g2 := zcz hs hA hT (a + 1) _ (a + 1) [] (by omega) (Nat.le_refl _) (fun x hx => by cases hx) (by simp [z21]) t a1 e1
      refine zt6 hs hA hT a0 k a1 _ g1.2 (by omega) (fun x hx => ?_) (.inr ?_)
      . rcases List.mem_append.1 hx with hx | hx
        . exact h3 x hx
        . simp at hx; subst hx; exact g2.1
      . rw [z3t, z3f]
        have := g2.2
        omega
    . intro t b e
      cases e
      refine ⟨z10d (.inr rfl) h3 (by omega), ?_⟩
      rcases h4 with ⟨t, rfl, h⟩ | h
      . have := z12x 3 t; omega
      . have := zpc 3 ps; omega

theorem zwy {s : List UInt8} (hs : s.length <= 256) : ∀ (d a : Nat), a <= s.length -> TRes a 0 (zgj s d a) := by
  have key : ∀ (sub : Option (Nat -> PR Tree)), z14r s sub -> z19u s sub -> ∀ a, a <= s.length -> TRes a 0 ((zk1 sub s (s.length + 1) a []).next fun t a1 => zfc sub s (s.length + 1) a1 [t]) := by
    intro sub hA hT a ha
    refine TRes.next fun t a1 e1 => ?_
    have g1 := z15 (z5h hA _ a [] ha) e1
    have g2 := zcz hs hA hT a _ a [] ha (Nat.le_refl _) (fun x hx => by cases hx) (by simp [z21]) t a1 e1
    exact zt6 hs hA hT a _ a1 _ g1.2 g1.1 (fun x hx => by simp at hx; subst hx; exact g2.1) (.inl ⟨t, rfl, g2.2⟩)
  intro d
  induction d with
  | zero => intro a ha; unfold zgj; exact key none (fun f h => by cases h) (fun f h => by cases h) a ha
  | succ d ih => intro a ha; unfold zgj; exact key _ (fun f h => by cases h; exact ze1 s d) (fun f h => by cases h; exact ih) a ha

end
end Go.Proofs.YtbfmhambfonpcaaDoorLg

set_option linter.all false
set_option maxRecDepth 100000
namespace Go.Proofs.YtbfmhambfonpcaaDoorLg
noncomputable section
open Go Go.Lift Go.Proofs.YtbfmhambfonpcaaDoorPx

def zeu (s : List UInt8) : Nat -> Option (Nat -> PR Tree)
  | 0 => none
  | d + 1 => some (zgj s d)

theorem z6e (s : List UInt8) (d : Nat) : z14r s (zeu s d) := by
  cases d with
  | zero => intro f h; cases h
  | succ d => intro f h; cases h; exact ze1 s d

theorem zjd {s : List UInt8} (hs : s.length <= 256) (d : Nat) : z19u s (zeu s d) := by
  cases d with
  | zero => intro f h; cases h
  | succ d => intro f h; cases h; exact zwy hs d

theorem zo4 (s : List UInt8) (d a : Nat) : zgj s d a = (zk1 (zeu s d) s (s.length + 1) a []).next fun t a1 => zfc (zeu s d) s (s.length + 1) a1 [t] := by
  cases d <;> (rw [zgj]; rfl)

def zx1 (s : List UInt8) (d : Nat) (self : PSt -> Option (NodT.den × (PSt × Unit))) : Prop := ∀ d', d = d' + 1 -> ∀ a, a <= s.length -> self (pst s a (16 - d')) = okP s (16 - d') unN (zgj s d' a)
def z193 (s : List UInt8) (d : Nat) (self : PSt -> Option (Int × (Int × Unit))) : Prop := ∀ d', d = d' + 1 -> ∀ a, a <= s.length -> self (pst s a (16 - d')) = zej (zgj s d' a)

def zp6 (sub : Option (Nat -> PR Tree)) (s : List UInt8) (a : Nat) : PR Tree := match sub with
    | none => .bad 3 a
    | some f => (f (a + 1)).next fun t a1 => (zds s a1 41).next fun _ a2 => .ok t a2

theorem z10m (N : Nat) {s : List UInt8} {a d : Nat} (hd : d <= 16) (ha : a < s.length) (hb : gb s a = 40) (hs : s.length <= 256) (self : PSt -> Option (NodT.den × (PSt × Unit))) (hself : zx1 s d self) :
    z44 N self (pst s a (16 - d)) = okP s (16 - d) unN (zp6 (zeu s d) s a) := by
  unfold z44 z7s
  simp only [pst]
  rw [show (16 : Int) = ((16 : Nat) : Int) from rfl, eqI]
  cases d with
  | zero => rfl
  | succ d =>
    rw [decide_eq_false (by omega)]
    simp only [cond_false]
    rw [z6i (by omega), show 16 - (d + 1) + 1 = 16 - d by omega]
    have q := zn3 N (16 - d) 40 (Nat.le_of_lt ha) hs
    rw [zqf ha hb] at q
    unfold pst at q
    rw [show (40 : Int) = ((40 : Nat) : Int) from rfl, q.1]
    simp only [okP, Option.bind_some]
    rw [hself d rfl (a + 1) (by omega)]
    show _ = okP s (16 - (d + 1)) unN ((zgj s d (a + 1)).next fun t a1 => (zds s a1 41).next fun _ a2 => .ok t a2)
    cases h : zgj s d (a + 1) with
    | bad e c => rfl
    | ok t c =>
      have hc := z15 (ze1 s d (a + 1) (by omega)) h
      simp only [okP, Option.bind_some, PR.next]
      rw [show (41 : Int) = ((41 : Nat) : Int) from rfl, (zn3 N (16 - d) 41 hc.2 hs).1]
      cases zds s c 41 with
      | bad e b => rfl
      | ok u b =>
        simp only [okP, Option.bind_some, pst]
        have e : IntKind.wrap .i64 (((16 - d : Nat) : Int) - 1) = ((16 - (d + 1) : Nat) : Int) := by
          rw [z4r (by unfold I64; omega)]; omega
        rw [e]

theorem z189 (N : Nat) {s : List UInt8} {a d : Nat} (hd : d <= 16) (ha : a < s.length) (hb : gb s a = 40) (hs : s.length <= 256) (self : PSt -> Option (Int × (Int × Unit))) (hself : z193 s d self) (hok : zx1 s d (zg N)) :
    z3n N self (pst s a (16 - d)) = zej (zp6 (zeu s d) s a) := by
  unfold z3n z5k
  simp only [pst]
  rw [show (16 : Int) = ((16 : Nat) : Int) from rfl, eqI]
  cases d with
  | zero => rfl
  | succ d =>
    rw [decide_eq_false (by omega)]
    simp only [cond_false]
    rw [z6i (by omega), show 16 - (d + 1) + 1 = 16 - d by omega]
    have q := zn3 N (16 - d) 40 (Nat.le_of_lt ha) hs
    rw [zqf ha hb] at q
    unfold pst at q
    rw [show (40 : Int) = ((40 : Nat) : Int) from rfl, q.1, q.2]
    simp only [okP, zej, orP, Option.bind_some]
    rw [hself d rfl (a + 1) (by omega), hok d rfl (a + 1) (by omega)]
    show _ = zej ((zgj s d (a + 1)).next fun t a1 => (zds s a1 41).next fun _ a2 => .ok t a2)
    cases h : zgj s d (a + 1) with
    | bad e c => rfl
    | ok t c =>
      have hc := z15 (ze1 s d (a + 1) (by omega)) h
      simp only [okP, zej, orP, Option.bind_some, PR.next]
      have q := zn3 N (16 - d) 41 hc.2 hs
      rw [show (41 : Int) = ((41 : Nat) : Int) from rfl, q.1, q.2]
      cases zds s c 41 with
      | bad e b => rfl
      | ok u b => rfl

theorem z142 {N : Nat} (hN : 257 < N) : z2h N (0 : Int) (255 : Int) = some (ofS 256 0 z4) := by
  rw [show (0 : Int) = ((0 : Nat) : Int) from rfl, show (255 : Int) = ((255 : Nat) : Int) from rfl, z12m N (by omega) (by omega) hN]; rfl

theorem z14n (N : Nat) {s : List UInt8} {a d : Nat} (hd : d <= 16) (ha : a < s.length) (hs : s.length <= 256) (hN : 300 <= N) (self : PSt -> Option (NodT.den × (PSt × Unit))) (hself : zx1 s d self) :
    z4m N self (pst s a (16 - d)) = okP s (16 - d) unN (zgi (zeu s d) s a) := by
  have hl := zlx s a
  unfold z4m zgi
  simp only [pst]
  rw [z86 ha, z88]
  simp only [cond_true, show (40 : Int) = ((40 : Nat) : Int) from rfl, show (46 : Int) = ((46 : Nat) : Int) from rfl, show (91 : Int) = ((91 : Nat) : Int) from rfl, show (92 : Int) = ((92 : Nat) : Int) from rfl, eqI]
  by_cases e1 : gb s a = 40
  . rw [decide_eq_true e1, if_pos e1]
    simp only [cond_true]
    have q := z10m N hd ha e1 hs self hself
    unfold pst at q
    rw [q]
    show _ = okP s (16 - d) unN (zp6 (zeu s d) s a)
    cases zp6 (zeu s d) s a <;> rfl
  rw [decide_eq_false e1, if_neg e1]
  simp only [cond_false]
  by_cases e2 : gb s a = 46
  . rw [decide_eq_true e2, if_pos e2]
    simp only [cond_true]
    rw [z142 (by omega), z6i (by omega)]
    rfl
  rw [decide_eq_false e2, if_neg e2]
  simp only [cond_false]
  by_cases e3 : gb s a = 91
  . rw [decide_eq_true e3, if_pos e3]
    simp only [cond_true]
    have q := (zpo N (16 - d) ha e3 hs hN).1
    unfold pst at q
    rw [q]
    cases zdt s (a + 1) <;> rfl
  rw [decide_eq_false e3, if_neg e3]
  simp only [cond_false]
  by_cases e4 : gb s a = 92
  . rw [decide_eq_true e4, if_pos e4]
    simp only [cond_true]
    have q := (z18b N (16 - d) ha e4 hs hN).1
    unfold pst at q
    rw [q]
    cases ztx s a <;> rfl
  rw [decide_eq_false e4, if_neg e4]
  simp only [cond_false]
  unfold z91
  rw [z13t hl]
  cases specials.contains (gb s a) with
  | true => rfl
  | false =>
    simp only [cond_false, Bool.false_eq_true, if_false]
    rw [zh5 hl (by omega), z6i (by omega)]
    rfl

theorem z1l7 (N : Nat) {s : List UInt8} {a d : Nat} (hd : d <= 16) (ha : a < s.length) (hs : s.length <= 256) (hN : 300 <= N) (self : PSt -> Option (Int × (Int × Unit))) (hself : z193 s d self) (hok : zx1 s d (zg N)) :
    z3w N self (pst s a (16 - d)) = zej (zgi (zeu s d) s a) := by
  have hl := zlx s a
  unfold z3w zgi
  simp only [pst]
  rw [z86 ha, z88]
  simp only [cond_true, show (40 : Int) = ((40 : Nat) : Int) from rfl, show (46 : Int) = ((46 : Nat) : Int) from rfl, show (91 : Int) = ((91 : Nat) : Int) from rfl, show (92 : Int) = ((92 : Nat) : Int) from rfl, eqI]
  by_cases e1 : gb s a = 40
  . rw [decide_eq_true e1, if_pos e1]
    simp only [cond_true]
    have q := z189 N hd ha e1 hs self hself hok
    have q2 := z10m N hd ha e1 hs _ hok
    unfold pst at q q2
    rw [q, q2]
    show _ = zej (zp6 (zeu s d) s a)
    cases zp6 (zeu s d) s a <;> rfl
  rw [decide_eq_false e1, if_neg e1]
  simp only [cond_false]
  by_cases e2 : gb s a = 46
  . rw [decide_eq_true e2, if_pos e2]
    simp only [cond_true]
    rw [z142 (by omega)]
    rfl
  rw [decide_eq_false e2, if_neg e2]
  simp only [cond_false]
  by_cases e3 : gb s a = 91
  . rw [decide_eq_true e3, if_pos e3]
    simp only [cond_true]
    have q := zpo N (16 - d) ha e3 hs hN
    unfold pst at q
    rw [q.1, q.2]
    cases zdt s (a + 1) <;> rfl
  rw [decide_eq_false e3, if_neg e3]
  simp only [cond_false]
  by_cases e4 : gb s a = 92
  . rw [decide_eq_true e4, if_pos e4]
    simp only [cond_true]
    have q := z18b N (16 - d) ha e4 hs hN
    unfold pst at q
    rw [q.1, q.2]
    cases ztx s a <;> rfl
  rw [decide_eq_false e4, if_neg e4]
  simp only [cond_false]
  unfold z61
  rw [z13t hl]
  cases specials.contains (gb s a) with
  | true => rfl
  | false =>
    simp only [cond_false, Bool.false_eq_true, if_false]
    rw [zh5 hl (by omega)]
    rfl

theorem zwl (t : Tree) : List.map Go.Lift.foN ([unN t] : List NodT.den) = [t] := by
  rw [List.map_cons, z10q, List.map_nil]

theorem zzf (N : Nat) {s : List UInt8} {a d : Nat} (hd : d <= 16) (ha : a < s.length) (hs : s.length <= 256) (hN : 300 <= N) (self : PSt -> Option (NodT.den × (PSt × Unit))) (hself : zx1 s d self) :
    z2b N self (pst s a (16 - d)) = okP s (16 - d) unN (zeg (zeu s d) s a) := by
  unfold z2b zeg
  rw [z14n N hd ha hs hN self hself]
  cases h : zgi (zeu s d) s a with
  | bad e c => rfl
  | ok t c =>
    have hc := z15 (zfi (z6e s d) ha) h
    simp only [okP, Option.bind_some, PR.next, pst, eqI]
    by_cases hlt : c < s.length
    . rw [decide_eq_false (by omega), if_pos hlt, z86 hlt, z88]
      simp only [cond_false, cond_true]
      unfold z7q
      simp only [show (43 : Int) = ((43 : Nat) : Int) from rfl, show (42 : Int) = ((42 : Nat) : Int) from rfl, show (63 : Int) = ((63 : Nat) : Int) from rfl, show (123 : Int) = ((123 : Nat) : Int) from rfl, eqI]
      rw [z6i (by omega), zwl]
      by_cases e1 : gb s c = 43
      . rw [decide_eq_true e1, if_pos e1]; rfl
      rw [decide_eq_false e1, if_neg e1]
      by_cases e2 : gb s c = 42
      . rw [decide_eq_true e2, if_pos e2]; rfl
      rw [decide_eq_false e2, if_neg e2]
      by_cases e3 : gb s c = 63
      . rw [decide_eq_true e3, if_pos e3]; rfl
      rw [decide_eq_false e3, if_neg e3]
      by_cases e4 : gb s c = 123
      . rw [decide_eq_true e4, if_pos e4]
        simp only [cond_true, cond_false]
        have q := (zwu N (16 - d) (show c + 1 <= s.length by omega) hs hN).1
        unfold pst at q
        rw [q]
        cases zbm s (c + 1) <;> rfl
      . rw [decide_eq_false e4, if_neg e4]; rfl
    . rw [decide_eq_true (by omega), if_neg hlt]; rfl

theorem z15x (N : Nat) {s : List UInt8} {a d : Nat} (hd : d <= 16) (ha : a < s.length) (hs : s.length <= 256) (hN : 300 <= N) (self : PSt -> Option (Int × (Int × Unit))) (hself : z193 s d self) (hok : zx1 s d (zg N)) :
    z2c N self (pst s a (16 - d)) = zej (zeg (zeu s d) s a) := by
  unfold z2c zeg
  rw [z1l7 N hd ha hs hN self hself hok, z14n N hd ha hs hN _ hok]
  cases h : zgi (zeu s d) s a with
  | bad e c => rfl
  | ok t c =>
    have hc := z15 (zfi (z6e s d) ha) h
    simp only [okP, zej, orP, Option.bind_some, PR.next, pst, eqI]
    by_cases hlt : c < s.length
    . rw [decide_eq_false (by omega), if_pos hlt, z86 hlt, z88]
      simp only [cond_false, cond_true]
      unfold z5i
      simp only [show (43 : Int) = ((43 : Nat) : Int) from rfl, show (42 : Int) = ((42 : Nat) : Int) from rfl, show (63 : Int) = ((63 : Nat) : Int) from rfl, show (123 : Int) = ((123 : Nat) : Int) from rfl, eqI]
      rw [z6i (by omega)]
      by_cases e1 : gb s c = 43
      . rw [decide_eq_true e1, if_pos e1]; rfl
      rw [decide_eq_false e1, if_neg e1]
      by_cases e2 : gb s c = 42
      . rw [decide_eq_true e2, if_pos e2]; rfl
      rw [decide_eq_false e2, if_neg e2]
      by_cases e3 : gb s c = 63
      . rw [decide_eq_true e3, if_pos e3]; rfl
      rw [decide_eq_false e3, if_neg e3]
      by_cases e4 : gb s c = 123
      . rw [decide_eq_true e4, if_pos e4]
        simp only [cond_true, cond_false]
        have q := zwu N (16 - d) (show c + 1 <= s.length by omega) hs hN
        unfold pst at q
        rw [q.1, q.2]
        cases zbm s (c + 1) <;> rfl
      . rw [decide_eq_false e4, if_neg e4]; rfl
    . rw [decide_eq_true (by omega), if_neg hlt]; rfl

theorem z19n {n : Nat} (h : n <= 10000) : decide (((n + 1) * 80) <= 70368744177664) = true := decide_eq_true (by omega)

theorem z136 (N : Nat) (self : PSt -> Option (NodT.den × (PSt × Unit))) (x2 : NodT.den) (s : List UInt8) (a o : Nat) (L : List NodT.den) (rec : PSt -> List NodT.den -> Option (NodT.den × (PSt × Unit))) (k0 : PSt -> List NodT.den -> Option (NodT.den × (PSt × Unit))) :
    z4u N self x2 (pst s a o) L rec k0 = cond (zi0 s a) (k0 (pst s a o) L) ((z2b N self (pst s a o)).bind fun y => cond (decide (((L.length + 1) * 80) <= 70368744177664)) (rec y.2.1 (L ++ [y.1])) none) := by
  unfold z4u z9w
  unfold zi0
  simp only [pst]
  rcases Nat.lt_or_ge a s.length with h | h
  . rw [decide_eq_true (show (a : Int) < (s.length : Int) by omega), decide_eq_true h, z86 h, z88]
    simp only [cond_true, Bool.not_true, Bool.false_or, bne, show (124 : Int) = ((124 : Nat) : Int) from rfl, show (41 : Int) = ((41 : Nat) : Int) from rfl, eqI]
    by_cases e1 : gb s a = 124
    . have e2 : (gb s a == 124) = true := by simpa using e1
      rw [decide_eq_true e1, e2]; rfl
    . have e2 : (gb s a == 124) = false := by simpa using e1
      rw [decide_eq_false e1, e2]
      by_cases e3 : gb s a = 41
      . have e4 : (gb s a == 41) = true := by simpa using e3
        rw [decide_eq_true e3, e4]; rfl
      . have e4 : (gb s a == 41) = false := by simpa using e3
        rw [decide_eq_false e3, e4]; rfl
  . rw [decide_eq_false (show ¬ (a : Int) < (s.length : Int) by omega), decide_eq_false (show ¬ a < s.length by omega)]
    rfl

theorem z117 (N : Nat) (self : PSt -> Option (Int × (Int × Unit))) (x2 : NodT.den) (s : List UInt8) (a o : Nat) (L : List NodT.den) (rec : PSt -> List NodT.den -> Option (Int × (Int × Unit))) (k0 : (Int × (Int × Unit)) -> Option (Int × (Int × Unit))) (k1 : PSt -> List NodT.den -> Option (Int × (Int × Unit))) :
    z36 N self x2 (pst s a o) L rec k0 k1 = cond (zi0 s a) (k1 (pst s a o) L) (orP (z2c N self (pst s a o)) (fun z => k0 z) ((z2b N (zg N) (pst s a o)).bind fun y => cond (decide (((L.length + 1) * 80) <= 70368744177664)) (rec y.2.1 (L ++ [y.1])) none)) := by
  unfold z36 z6q
  unfold zi0
  simp only [pst]
  rcases Nat.lt_or_ge a s.length with h | h
  . rw [decide_eq_true (show (a : Int) < (s.length : Int) by omega), decide_eq_true h, z86 h, z88]
    simp only [cond_true, Bool.not_true, Bool.false_or, bne, show (124 : Int) = ((124 : Nat) : Int) from rfl, show (41 : Int) = ((41 : Nat) : Int) from rfl, eqI]
    by_cases e1 : gb s a = 124
    . have e2 : (gb s a == 124) = true := by simpa using e1
      rw [decide_eq_true e1, e2]; rfl
    . have e2 : (gb s a == 124) = false := by simpa using e1
      rw [decide_eq_false e1, e2]
      by_cases e3 : gb s a = 41
      . have e4 : (gb s a == 41) = true := by simpa using e3
        rw [decide_eq_true e3, e4]; rfl
      . have e4 : (gb s a == 41) = false := by simpa using e3
        rw [decide_eq_false e3, e4]; rfl
  . rw [decide_eq_false (show ¬ (a : Int) < (s.length : Int) by omega), decide_eq_false (show ¬ a < s.length by omega)]
    rfl

theorem zws (N : Nat) {s : List UInt8} {d : Nat} (hd : d <= 16) (hs : s.length <= 256) (hN : 300 <= N) (self : PSt -> Option (NodT.den × (PSt × Unit))) (hself : zx1 s d self) (x2 : NodT.den) (k0 : PSt -> List NodT.den -> Option (NodT.den × (PSt × Unit)))
    (hk : ∀ a ps, z21 ps <= 3 * a -> a <= s.length -> k0 (pst s a (16 - d)) (ps.map unN) = some (unN (ze4 2 ps), (pst s a (16 - d), ()))) : ∀ (k N' a : Nat) (ps : List Tree), k <= N' -> a <= s.length -> s.length < a + k -> z21 ps <= 3 * a →
    iter (fun (v : (PSt × (List NodT.den))) r => z4u N self x2 v.1 v.2 (fun p parts => (r (p, parts))) k0) N' (pst s a (16 - d), ps.map unN) = okP s (16 - d) unN (zk1 (zeu s d) s k a ps)
  | 0, N', a, ps, h1, h2, h3, h4 => by omega
  | k + 1, N', a, ps, h1, h2, h3, h4 => by
    obtain ⟨M, rfl⟩ : ∃ M, N' = M + 1 := ⟨N' - 1, by omega⟩
    rw [iter, zk1]
    dsimp only
    rw [z136]
    cases hst : zi0 s a with
    | true =>
      simp only [cond_true, if_true]
      rw [hk a ps h4 h2]
      rfl
    | false =>
      have hlt : a < s.length := by
        unfold zi0 at hst
        simp at hst
        exact hst.1
      simp only [cond_false, Bool.false_eq_true, if_false]
      rw [zzf N hd hlt hs hN self hself]
      cases hp : zeg (zeu s d) s a with
      | bad e c => rfl
      | ok t c =>
        have hc := z15 (zbl (z6e s d) hlt) hp
        have ht := (zhs (z6e s d) (zjd hs d) hlt t c hp).2
        have hl := z4q ps
        simp only [okP, Option.bind_some, PR.next]
        rw [z19n (by rw [List.length_map]; omega)]
        simp only [cond_true]
        have := zws N hd hs hN self hself x2 k0 hk k M c (ps ++ [t]) (by omega) hc.2 (by omega) (by rw [z3t, z3f]; omega)
        rw [List.map_append] at this
        exact this

theorem zt0 (N : Nat) {s : List UInt8} {d : Nat} (hd : d <= 16) (hs : s.length <= 256) (hN : 300 <= N) (self : PSt -> Option (Int × (Int × Unit))) (hself : z193 s d self) (hok : zx1 s d (zg N)) (x2 : NodT.den) (k0 : (Int × (Int × Unit)) -> Option (Int × (Int × Unit))) (k1 : PSt -> List NodT.den -> Option (Int × (Int × Unit))) (hk0 : ∀ z, k0 z = some z)
    (hk : ∀ a ps, z21 ps <= 3 * a -> a <= s.length -> k1 (pst s a (16 - d)) (ps.map unN) = none) : ∀ (k N' a : Nat) (ps : List Tree), k <= N' -> a <= s.length -> s.length < a + k -> z21 ps <= 3 * a →
    iter (fun (v : (PSt × (List NodT.den))) r => z36 N self x2 v.1 v.2 (fun p parts => (r (p, parts))) k0 k1) N' (pst s a (16 - d), ps.map unN) = zej (zk1 (zeu s d) s k a ps)
  | 0, N', a, ps, h1, h2, h3, h4 => by omega
  | k + 1, N', a, ps, h1, h2, h3, h4 => by
    obtain ⟨M, rfl⟩ : ∃ M, N' = M + 1 := ⟨N' - 1, by omega⟩
    rw [iter, zk1]
    dsimp only
    rw [z117]
    cases hst : zi0 s a with
    | true =>
      simp only [cond_true, if_true]
      rw [hk a ps h4 h2]
      rfl
    | false =>
      have hlt : a < s.length := by
        unfold zi0 at hst
        simp at hst
        exact hst.1
      simp only [cond_false, Bool.false_eq_true, if_false]
      rw [z15x N hd hlt hs hN self hself hok, zzf N hd hlt hs hN _ hok]
      cases hp : zeg (zeu s d) s a with
      | bad e c => exact hk0 _
      | ok t c =>
        have hc := z15 (zbl (z6e s d) hlt) hp
        have ht := (zhs (z6e s d) (zjd hs d) hlt t c hp).2
        have hl := z4q ps
        simp only [okP, zej, orP, Option.bind_some, PR.next]
        rw [z19n (by rw [List.length_map]; omega)]
        simp only [cond_true]
        have := zt0 N hd hs hN self hself hok x2 k0 k1 hk0 hk k M c (ps ++ [t]) (by omega) hc.2 (by omega) (by rw [z3t, z3f]; omega)
        rw [List.map_append] at this
        exact this

theorem zql {N : Nat} (hN : 2000 <= N) (k : Int) {ps : List Tree} (h : z21 ps <= 1000) : z8b N k (List.map Go.Lift.foN (ps.map unN)) = some (unN (ze4 k ps)) := by
  have h1 := z4q ps
  have h2 := Nat.le_trans (z4q (z7e k ps)) (zfg k ps)
  rw [zk0]
  exact z185 N k ps (by unfold maxLen; omega) (by omega) (by omega)

theorem z137 (N : Nat) {s : List UInt8} {a d : Nat} (hd : d <= 16) (ha : a <= s.length) (hs : s.length <= 256) (hN : 2000 <= N) (self : PSt -> Option (NodT.den × (PSt × Unit))) (hself : zx1 s d self) :
    z3j N self (pst s a (16 - d)) = okP s (16 - d) unN (zk1 (zeu s d) s (s.length + 1) a []) := by
  unfold z3j z9x zdc
  exact zws N hd hs (by omega) self hself _ _ (fun b ps h1 h2 => by (try dsimp only); rw [zql hN 2 (by omega)]; rfl) (s.length + 1) N a [] (by omega) ha (by omega) (Nat.zero_le _)

theorem z1l6 (N : Nat) {s : List UInt8} {a d : Nat} (hd : d <= 16) (ha : a <= s.length) (hs : s.length <= 256) (hN : 2000 <= N) (self : PSt -> Option (Int × (Int × Unit))) (hself : z193 s d self) (hok : zx1 s d (zg N)) :
    z3c N self (pst s a (16 - d)) = zej (zk1 (zeu s d) s (s.length + 1) a []) := by
  unfold z3c z6r zau
  exact zt0 N hd hs (by omega) self hself hok _ _ _ (fun z => rfl) (fun b ps h1 h2 => by (try dsimp only); rw [zql hN 2 (by omega)]; rfl) (s.length + 1) N a [] (by omega) ha (by omega) (Nat.zero_le _)

theorem zt7 (N : Nat) {s : List UInt8} {d : Nat} (hd : d <= 16) (hs : s.length <= 256) (hN : 2000 <= N) (self : PSt -> Option (NodT.den × (PSt × Unit))) (hself : zx1 s d self) (x2 : NodT.den) (k0 : PSt -> List NodT.den -> Option (NodT.den × (PSt × Unit)))
    (hk : ∀ a ps, z21 ps <= 3 * a + 1 -> a <= s.length -> k0 (pst s a (16 - d)) (ps.map unN) = some (unN (ze4 3 ps), (pst s a (16 - d), ()))) : ∀ (k N' a : Nat) (ps : List Tree), k <= N' -> a <= s.length -> s.length < a + k -> z21 ps <= 3 * a + 1 →
    iter (fun (v : (PSt × (List NodT.den))) r => z6t N self x2 v.1 v.2 (fun p parts => (r (p, parts))) k0) N' (pst s a (16 - d), ps.map unN) = okP s (16 - d) unN (zfc (zeu s d) s k a ps)
  | 0, N', a, ps, h1, h2, h3, h4 => by omega
  | k + 1, N', a, ps, h1, h2, h3, h4 => by
    obtain ⟨M, rfl⟩ : ∃ M, N' = M + 1 := ⟨N' - 1, by omega⟩
    rw [iter, zfc]
    dsimp only
    conv => lhs; unfold z6t
    rw [show (124 : Int) = ((124 : Nat) : Int) from rfl, zl9 N (16 - d) 124 h2 hs]
    cases hb : isB s a 124 with
    | false =>
      simp only [Option.bind_some, cond_false, Bool.false_eq_true, if_false]
      rw [hk a ps h4 h2]
      rfl
    | true =>
      have hlt : a + 1 <= s.length := by simp [isB] at hb; omega
      simp only [Option.bind_some, cond_true, if_true]
      rw [z137 N hd hlt hs hN self hself]
      cases hp : zk1 (zeu s d) s (s.length + 1) (a + 1) [] with
      | bad e c => rfl
      | ok t c =>
        have hc := z15 (z5h (z6e s d) _ (a + 1) [] hlt) hp
        have ht := (zcz hs (z6e s d) (zjd hs d) (a + 1) _ (a + 1) [] hlt (Nat.le_refl _) (fun x hx => by cases hx) (by simp [z21]) t c hp).2
        have hl := z4q ps
        simp only [okP, Option.bind_some, PR.next]
        rw [z19n (by rw [List.length_map]; omega)]
        simp only [cond_true]
        have := zt7 N hd hs hN self hself x2 k0 hk k M c (ps ++ [t]) (by omega) hc.2 (by omega) (by rw [z3t, z3f]; omega)
        rw [List.map_append] at this
        exact this

theorem zpt (N : Nat) {s : List UInt8} {d : Nat} (hd : d <= 16) (hs : s.length <= 256) (hN : 2000 <= N) (self : PSt -> Option (Int × (Int × Unit))) (hself : z193 s d self) (hok : zx1 s d (zg N)) (x2 : NodT.den) (k0 : (Int × (Int × Unit)) -> Option (Int × (Int × Unit))) (k1 : PSt -> List NodT.den -> Option (Int × (Int × Unit))) (hk0 : ∀ z, k0 z = some z)
    (hk : ∀ a ps, z21 ps <= 3 * a + 1 -> a <= s.length -> k1 (pst s a (16 - d)) (ps.map unN) = none) : ∀ (k N' a : Nat) (ps : List Tree), k <= N' -> a <= s.length -> s.length < a + k -> z21 ps <= 3 * a + 1 →
    iter (fun (v : (PSt × (List NodT.den))) r => z4j N self x2 v.1 v.2 (fun p parts => (r (p, parts))) k0 k1) N' (pst s a (16 - d), ps.map unN) = zej (zfc (zeu s d) s k a ps)
  | 0, N', a, ps, h1, h2, h3, h4 => by omega
  | k + 1, N', a, ps, h1, h2, h3, h4 => by
    obtain ⟨M, rfl⟩ : ∃ M, N' = M + 1 := ⟨N' - 1, by omega⟩
    rw [iter, zfc]
    dsimp only
    conv => lhs; unfold z4j
    rw [show (124 : Int) = ((124 : Nat) : Int) from rfl, zl9 N (16 - d) 124 h2 hs]
    cases hb : isB s a 124 with
    | false =>
      simp only [Option.bind_some, cond_false, Bool.false_eq_true, if_false]
      rw [hk a ps h4 h2]
      rfl
    | true =>
      have hlt : a + 1 <= s.length := by simp [isB] at hb; omega
      simp only [Option.bind_some, cond_true, if_true]
      rw [z1l6 N hd hlt hs hN self hself hok, z137 N hd hlt hs hN _ hok]
      cases hp : zk1 (zeu s d) s (s.length + 1) (a + 1) [] with
      | bad e c => exact hk0 _
      | ok t c =>
        have hc := z15 (z5h (z6e s d) _ (a + 1) [] hlt) hp
        have ht := (zcz hs (z6e s d) (zjd hs d) (a + 1) _ (a + 1) [] hlt (Nat.le_refl _) (fun x hx => by cases hx) (by simp [z21]) t c hp).2
        have hl := z4q ps
        simp only [okP, zej, orP, Option.bind_some, PR.next]
        rw [z19n (by rw [List.length_map]; omega)]
        simp only [cond_true]
        have := zpt N hd hs hN self hself hok x2 k0 k1 hk0 hk k M c (ps ++ [t]) (by omega) hc.2 (by omega) (by rw [z3t, z3f]; omega)
        rw [List.map_append] at this
        exact this

theorem zwz (N : Nat) {s : List UInt8} {a d : Nat} (hd : d <= 16) (ha : a <= s.length) (hs : s.length <= 256) (hN : 2000 <= N) (self : PSt -> Option (NodT.den × (PSt × Unit))) (hself : zx1 s d self) :
    z7h N self (pst s a (16 - d)) = okP s (16 - d) unN (zgj s d a) := by
  unfold z7h
  rw [z137 N hd ha hs hN self hself, zo4]
  cases hp : zk1 (zeu s d) s (s.length + 1) a [] with
  | bad e c => rfl
  | ok t c =>
    have hc := z15 (z5h (z6e s d) _ a [] ha) hp
    have ht := (zcz hs (z6e s d) (zjd hs d) a _ a [] ha (Nat.le_refl _) (fun x hx => by cases hx) (by simp [z21]) t c hp).2
    simp only [okP, Option.bind_some, PR.next]
    unfold zde
    exact zt7 N hd hs hN self hself _ _ (fun b ps h1 h2 => by (try dsimp only); rw [zql hN 3 (by omega)]; rfl) (s.length + 1) N c [t] (by omega) hc.2 (by omega) (by rw [z3f]; omega)

theorem z190 {s : List UInt8} (hs : s.length <= 256) : ∀ (d N : Nat), d <= 16 -> 2000 + d <= N -> ∀ a, a <= s.length -> zg N (pst s a (16 - d)) = okP s (16 - d) unN (zgj s d a)
  | 0, N, hd, hN, a, ha => by
    obtain ⟨M, rfl⟩ : ∃ M, N = M + 1 := ⟨N - 1, by omega⟩
    exact zwz (M + 1) hd ha hs (by omega) _ (fun d' h => by omega)
  | d + 1, N, hd, hN, a, ha => by
    obtain ⟨M, rfl⟩ : ∃ M, N = M + 1 := ⟨N - 1, by omega⟩
    exact zwz (M + 1) hd ha hs (by omega) _ (fun d' h b hb => by
      obtain rfl : d = d' := by omega
      exact z190 hs d M (by omega) (by omega) b hb)

theorem z1l8 {s : List UInt8} (hs : s.length <= 256) {d N : Nat} (hd : d <= 16) (hN : 2000 + d <= N) : zx1 s d (zg N) := fun d' h a ha => z190 hs d' N (by omega) (by omega) a ha

theorem alt_f {s : List UInt8} (hs : s.length <= 256) : ∀ (d N : Nat), d <= 16 -> 2000 + d <= N -> ∀ a, a <= s.length -> zr N (pst s a (16 - d)) = zej (zgj s d a) := by
  have step : ∀ (d M : Nat), d <= 16 -> 2000 + d <= M + 1 -> z193 s d (zr M) -> ∀ a, a <= s.length -> zr (M + 1) (pst s a (16 - d)) = zej (zgj s d a) := by
    intro d M hd hN hself a ha
    have hok := z1l8 hs hd hN
    show z52 (M + 1) (zr M) (pst s a (16 - d)) = _
    unfold z52
    rw [z1l6 (M + 1) hd ha hs (by omega) _ hself hok, z137 (M + 1) hd ha hs (by omega) _ hok, zo4]
    cases hp : zk1 (zeu s d) s (s.length + 1) a [] with
    | bad e c => rfl
    | ok t c =>
      have hc := z15 (z5h (z6e s d) _ a [] ha) hp
      have ht := (zcz hs (z6e s d) (zjd hs d) a _ a [] ha (Nat.le_refl _) (fun x hx => by cases hx) (by simp [z21]) t c hp).2
      simp only [okP, zej, orP, Option.bind_some, PR.next]
      unfold zav
      exact zpt (M + 1) hd hs (by omega) _ hself hok _ _ _ (fun z => rfl) (fun b ps h1 h2 => by (try dsimp only); rw [zql (by omega) 3 (by omega)]; rfl) (s.length + 1) (M + 1) c [t] (by omega) hc.2 (by omega) (by rw [z3f]; omega)
  intro d
  induction d with
  | zero =>
    intro N hd hN a ha
    obtain ⟨M, rfl⟩ : ∃ M, N = M + 1 := ⟨N - 1, by omega⟩
    exact step 0 M hd hN (fun d' h => by omega) a ha
  | succ d ih =>
    intro N hd hN a ha
    obtain ⟨M, rfl⟩ : ∃ M, N = M + 1 := ⟨N - 1, by omega⟩
    exact step (d + 1) M hd hN (fun d' h b hb => by
      obtain rfl : d = d' := by omega
      exact ih M (by omega) (by omega) b hb) a ha

def psF (r : PR Tree) : z5e [NodT, z13m] := match r with
  | .bad e a => (zs1, ((e, (a : Int), ()), ()))
  | .ok t _ => (unN t, ((0, 0, ()), ()))

theorem z15z {N : Nat} (hN : 2020 <= N) (s : List UInt8) : z6v N s = some (psF (zn6 s)) := by
  unfold z6v zn6
  by_cases h : 256 < s.length
  . rw [decide_eq_true (show (256 : Int) < (s.length : Int) by omega), if_pos h]; rfl
  . rw [decide_eq_false (show ¬ (256 : Int) < (s.length : Int) by omega), if_neg h]
    have hs : s.length <= 256 := by omega
    have h1 := z190 hs 16 N (Nat.le_refl _) (by omega) 0 (Nat.zero_le _)
    have h2 := alt_f hs 16 N (Nat.le_refl _) (by omega) 0 (Nat.zero_le _)
    unfold pst at h1 h2
    simp only [cond_false]
    have e1 : zr N (s, (0, (0, ()))) = zej (zgj s 16 0) := h2
    have e2 : zg N (s, (0, (0, ()))) = okP s 0 unN (zgj s 16 0) := h1
    rw [e1, e2]
    cases hm : zgj s 16 0 with
    | bad e a => rfl
    | ok t a =>
      simp only [okP, zej, orP, Option.bind_some, PR.next, pst]
      by_cases ha : a < s.length
      . rw [decide_eq_true (show (a : Int) < (s.length : Int) by omega), if_pos ha]; rfl
      . rw [decide_eq_false (show ¬ (a : Int) < (s.length : Int) by omega), if_neg ha]; rfl

end
end Go.Proofs.YtbfmhambfonpcaaDoorLg

set_option linter.all false
set_option maxRecDepth 100000
namespace Go.Proofs.YtbfmhambfonpcaaDoorLg
noncomputable section
open Go Go.Lift Go.Proofs.YtbfmhambfonpcaaDoorPx


theorem z1l9 {x k : Nat} (hx : x < 2 ^ 64) (hk : k < 64) (hb : x.testBit k = false) : (x + 2 ^ k) % 2 ^ 64 = x ||| 2 ^ k := by
  have hp : 2 ^ k < 2 ^ 64 := Nat.pow_lt_pow_right (by omega) hk
  have h : (BitVec.ofNat 64 x) &&& (BitVec.ofNat 64 (2 ^ k)) = 0#64 := by
    apply BitVec.eq_of_getLsbD_eq
    intro i hi
    rw [BitVec.getLsbD_and, BitVec.getLsbD_ofNat, BitVec.getLsbD_ofNat, Nat.testBit_two_pow]
    by_cases e : k = i
    . subst e; simp [hb]
    . simp [e]
  have h2 := congrArg BitVec.toNat (BitVec.add_eq_or_of_and_eq_zero _ _ h)
  rw [BitVec.toNat_add, BitVec.toNat_or, BitVec.toNat_ofNat, BitVec.toNat_ofNat, Nat.mod_eq_of_lt hx, Nat.mod_eq_of_lt hp] at h2
  exact h2

theorem z1ay {b : Nat} (hb : b < 256) : Go.IntKind.wrap .i64 (Int.tdiv (b : Int) (64 : Int)) = ((b / 64 : Nat) : Int) := by
  rw [show Int.tdiv (b : Int) (64 : Int) = ((b / 64 : Nat) : Int) from rfl]
  exact z4r (by unfold I64; omega)

theorem zww (N : Nat) (b : Nat) (s x4 : List Int) (k0 : Int -> Option (List Int)) : ∀ (j N' i : Nat), j < N' -> i + j = b % 64 →
    iter (fun (v : (Int × Int)) r => z3p N (b : Int) s x4 v.1 v.2 (fun bit i => (r (bit, i))) k0) N' (((2 ^ i : Nat) : Int), (i : Int)) = k0 ((2 ^ (b % 64) : Nat) : Int)
  | 0, N', i, h1, h2 => by
    obtain ⟨M, rfl⟩ : ∃ M, N' = M + 1 := ⟨N' - 1, by omega⟩
    rw [iter]
    dsimp only
    unfold z3p
    rw [z12q, decide_eq_false (by omega)]
    have : i = b % 64 := by omega
    rw [this]; rfl
  | j + 1, N', i, h1, h2 => by
    obtain ⟨M, rfl⟩ : ∃ M, N' = M + 1 := ⟨N' - 1, by omega⟩
    have ih := zww N b s x4 k0 j M (i + 1) (by omega) (by omega)
    rw [iter]
    dsimp only
    have step : ∀ rec, z3p N (b : Int) s x4 ((2 ^ i : Nat) : Int) (i : Int) rec k0 = rec ((2 ^ (i + 1) : Nat) : Int) ((i + 1 : Nat) : Int) := by
      intro rec
      unfold z3p
      rw [z12q, decide_eq_true (by omega)]
      simp only [cond_true]
      have hp : 2 ^ (i + 1) < 2 ^ 64 := Nat.pow_lt_pow_right (by omega) (by omega)
      have e : IntKind.wrap .u64 ((2 : Int) * ((2 ^ i : Nat) : Int)) = ((2 ^ (i + 1) : Nat) : Int) := by
        rw [zjb, Nat.pow_succ]
        omega
      rw [e, z6i (by omega)]
    rw [step]
    exact ih

theorem zhr {N : Nat} (hN : 300 <= N) {s : List Int} (hs : SetOk s) {b : Nat} (hb : b < 256) : z3k N s (b : Int) = some (zgl s b) := by
  unfold z3k zad zac
  rw [decide_eq_false (show ¬ ((b : Int) < 0) by omega), decide_eq_false (show ¬ ((255 : Int) < (b : Int)) by omega), zjo N hs hb (by omega)]
  simp only [cond_false, Option.bind_some]
  cases hh : hasS s b with
  | true =>
    simp only [cond_true]
    congr 1
    refine ztd hs (zbf hs hb) fun c hc => ?_
    rw [zm8 hs hb hc]
    by_cases e : b = c
    . subst e; simp [hh]
    . simp [e]
  | false =>
    simp only [cond_false]
    unfold zdo
    have := zww N b s [0, 0, 0, 0] (fun bit => cond (Go.Lift.inR (Go.IntKind.wrap Go.IntKind.i64 (Int.tdiv (b : Int) (64 : Int))) 4)
      (cond (decide ((Int.toNat (Go.IntKind.wrap Go.IntKind.i64 (Int.tdiv (b : Int) (64 : Int)))) < (List.length s)))
        (cond (Go.Lift.inR (Go.IntKind.wrap Go.IntKind.i64 (Int.tdiv (b : Int) (64 : Int))) 4)
          (cond (decide ((Int.toNat (Go.IntKind.wrap Go.IntKind.i64 (Int.tdiv (b : Int) (64 : Int)))) < (List.length s)))
            (some (List.set s (Int.toNat (Go.IntKind.wrap Go.IntKind.i64 (Int.tdiv (b : Int) (64 : Int)))) (Go.IntKind.wrap Go.IntKind.u64 ((List.getD s (Int.toNat (Go.IntKind.wrap Go.IntKind.i64 (Int.tdiv (b : Int) (64 : Int)))) (0 : Int)) + bit))))
            (none))
          (none))
        (none))
      (none)) (b % 64) N 0 (by omega) (by omega)
    refine Eq.trans this ?_
    rw [z1ay hb, zce (by omega : b / 64 < 4), Int.toNat_natCast, decide_eq_true (by rw [hs.length]; omega)]
    simp only [cond_true]
    have hw := hs.word (show b / 64 < 4 by omega)
    have hbit : (s.getD (b / 64) 0).toNat.testBit (b % 64) = false := hh
    have hlt : (s.getD (b / 64) 0).toNat < 2 ^ 64 := by unfold U64 at hw; omega
    unfold zgl
    rw [shl1 (by omega), z140 hw (zpu (by omega)), Int.toNat_natCast, <- z1l9 hlt (by omega) hbit]
    congr 2
    rw [zjb]
    unfold U64 at hw
    have hp : 2 ^ (b % 64) < 2 ^ 64 := Nat.pow_lt_pow_right (by omega) (by omega)
    omega

theorem zlu (N : Nat) (hN : 300 <= N) (hi : Nat) (hh : hi < 256) (x4 : List Int) (k0 : List Int -> Option (List Int)) : ∀ (n N' b : Nat) (s : List Int), n < N' -> SetOk s -> b + n = hi + 1 →
    iter (fun (v : ((List Int) × Int)) r => z2e N (hi : Int) x4 v.1 v.2 (fun s b => (r (s, b))) k0) N' (s, (b : Int)) = k0 (ofS n b s)
  | 0, N', b, s, h1, h2, h3 => by
    obtain ⟨M, rfl⟩ : ∃ M, N' = M + 1 := ⟨N' - 1, by omega⟩
    rw [iter]
    dsimp only
    unfold z2e
    rw [decide_eq_false (by omega)]
    rfl
  | n + 1, N', b, s, h1, h2, h3 => by
    obtain ⟨M, rfl⟩ : ∃ M, N' = M + 1 := ⟨N' - 1, by omega⟩
    have ih := zlu N hN hi hh x4 k0 n M (b + 1) (zgl s b) (by omega) (zbf h2 (by omega)) (by omega)
    rw [iter]
    dsimp only
    have step : ∀ rec, z2e N (hi : Int) x4 s (b : Int) rec k0 = rec (zgl s b) ((b + 1 : Nat) : Int) := by
      intro rec
      unfold z2e
      rw [decide_eq_true (by omega), zhr hN h2 (by omega), z6i (by omega)]
      rfl
    rw [step]
    exact ih

theorem zbu {N : Nat} (hN : 300 <= N) {lo hi : Nat} (hl : lo <= hi + 1) (hh : hi < 256) : zq N (lo : Int) (hi : Int) = some (ofS (hi + 1 - lo) lo z4) := by
  unfold zq zbd
  exact zlu N hN hi hh _ _ (hi + 1 - lo) N lo z4 (by omega) z85 (by omega)

theorem zg8 {N : Nat} (hN : 300 <= N) {b : Nat} (hb : b < 256) : zq N (b : Int) (b : Int) = some (zd7 b) := by
  rw [zbu hN (by omega) hb, Nat.add_sub_cancel_left]; rfl

def orF (t : List Int) : Nat -> Nat -> List Int -> List Int
  | 0, _, s => s
  | n + 1, b, s => orF t n (b + 1) (if hasS t b then zgl s b else s)

theorem zzp (t : List Int) : ∀ (n b : Nat) {s : List Int}, SetOk s -> b + n <= 256 -> SetOk (orF t n b s)
  | 0, b, s, h, _ => h
  | n + 1, b, s, h, hb => by
    unfold orF
    split
    . exact zzp t n (b + 1) (zbf h (by omega)) (by omega)
    . exact zzp t n (b + 1) h (by omega)

theorem zu7 (t : List Int) : ∀ (n b : Nat) {s : List Int}, SetOk s -> b + n <= 256 -> ∀ {c : Nat}, c < 256 -> hasS (orF t n b s) c = (hasS s c || (hasS t c && decide (b <= c /\ c < b + n)))
  | 0, b, s, h, _, c, _ => by
    have : decide (b <= c /\ c < b + 0) = false := decide_eq_false (by omega)
    rw [this, Bool.and_false, Bool.or_false]; rfl
  | n + 1, b, s, h, hb, c, hc => by
    unfold orF
    split
    . rename_i ht
      rw [zu7 t n (b + 1) (zbf h (by omega)) (by omega) hc, zm8 h (by omega) hc, Bool.or_assoc]
      congr 1
      by_cases e : b = c
      . subst e; simp [ht]
      . rw [decide_eq_false e, Bool.false_or]
        congr 1
        exact decide_eq_decide.2 (by omega)
    . rename_i ht
      rw [zu7 t n (b + 1) h (by omega) hc]
      congr 1
      by_cases e : b = c
      . subst e
        have ht : hasS t b = false := by simpa using ht
        simp [ht]
      . congr 1
        exact decide_eq_decide.2 (by omega)

theorem zzo (N : Nat) (hN : 300 <= N) {t : List Int} (ht : SetOk t) (x4 : List Int) (k0 : List Int -> Option (List Int)) : ∀ (n N' b : Nat) (s : List Int), n < N' -> SetOk s -> b + n = 256 →
    iter (fun (v : ((List Int) × Int)) r => z4o N t x4 v.1 v.2 (fun s b => (r (s, b))) k0) N' (s, (b : Int)) = k0 (orF t n b s)
  | 0, N', b, s, h1, h2, h3 => by
    obtain ⟨M, rfl⟩ : ∃ M, N' = M + 1 := ⟨N' - 1, by omega⟩
    rw [iter]
    dsimp only
    unfold z4o
    rw [decide_eq_false (by omega)]
    rfl
  | n + 1, N', b, s, h1, h2, h3 => by
    obtain ⟨M, rfl⟩ : ∃ M, N' = M + 1 := ⟨N' - 1, by omega⟩
    have hs' : SetOk (if hasS t b then zgl s b else s) := by
      split
      . exact zbf h2 (by omega)
      . exact h2
    have ih := zzo N hN ht x4 k0 n M (b + 1) _ (by omega) hs' (by omega)
    rw [iter]
    dsimp only
    have step : ∀ rec, z4o N t x4 s (b : Int) rec k0 = rec (if hasS t b then zgl s b else s) ((b + 1 : Nat) : Int) := by
      intro rec
      unfold z4o zbk
      rw [decide_eq_true (by omega), zjo N ht (by omega) (by omega), z6i (by omega)]
      simp only [cond_true, Option.bind_some]
      cases hasS t b with
      | true =>
        simp only [cond_true, if_true]
        rw [zhr hN h2 (by omega)]
        rfl
      | false => rfl
    rw [step]
    exact ih

theorem zq5 {N : Nat} (hN : 300 <= N) {s t : List Int} (hs : SetOk s) (ht : SetOk t) : z5n N s t = some (orS s t) := by
  unfold z5n zf7
  refine (zzo N hN ht _ _ 256 N 0 s (by omega) hs (by omega)).trans ?_
  congr 1
  refine ztd (zzp t 256 0 hs (by omega)) (zs0 hs ht) fun c hc => ?_
  rw [zu7 t 256 0 hs (by omega) hc, z1eo hs ht hc, decide_eq_true (by omega), Bool.and_true]

def z19o (t : List Int) : Nat -> Nat -> List Int -> List Int
  | 0, _, s => s
  | n + 1, b, s => z19o t n (b + 1) (if hasS t b then s else zgl s b)

theorem ztv (t : List Int) : ∀ (n b : Nat) {s : List Int}, SetOk s -> b + n <= 256 -> SetOk (z19o t n b s)
  | 0, b, s, h, _ => h
  | n + 1, b, s, h, hb => by
    unfold z19o
    split
    . exact ztv t n (b + 1) h (by omega)
    . exact ztv t n (b + 1) (zbf h (by omega)) (by omega)

theorem zqq (t : List Int) : ∀ (n b : Nat) {s : List Int}, SetOk s -> b + n <= 256 -> ∀ {c : Nat}, c < 256 -> hasS (z19o t n b s) c = (hasS s c || (!hasS t c && decide (b <= c /\ c < b + n)))
  | 0, b, s, h, _, c, _ => by
    have : decide (b <= c /\ c < b + 0) = false := decide_eq_false (by omega)
    rw [this, Bool.and_false, Bool.or_false]; rfl
  | n + 1, b, s, h, hb, c, hc => by
    unfold z19o
    split
    . rename_i ht
      rw [zqq t n (b + 1) h (by omega) hc]
      congr 1
      by_cases e : b = c
      . subst e; simp [ht]
      . congr 1
        exact decide_eq_decide.2 (by omega)
    . rename_i ht
      rw [zqq t n (b + 1) (zbf h (by omega)) (by omega) hc, zm8 h (by omega) hc, Bool.or_assoc]
      congr 1
      by_cases e : b = c
      . subst e
        have ht : hasS t b = false := by simpa using ht
        simp [ht]
      . rw [decide_eq_false e, Bool.false_or]
        congr 1
        exact decide_eq_decide.2 (by omega)

theorem zwc (N : Nat) (hN : 300 <= N) {t : List Int} (ht : SetOk t) (x4 : List Int) (k0 : List Int -> Option (List Int)) : ∀ (n N' b : Nat) (s : List Int), n < N' -> SetOk s -> b + n = 256 →
    iter (fun (v : ((List Int) × Int)) r => z4a N t x4 v.1 v.2 (fun t b => (r (t, b))) k0) N' (s, (b : Int)) = k0 (z19o t n b s)
  | 0, N', b, s, h1, h2, h3 => by
    obtain ⟨M, rfl⟩ : ∃ M, N' = M + 1 := ⟨N' - 1, by omega⟩
    rw [iter]
    dsimp only
    unfold z4a
    rw [decide_eq_false (by omega)]
    rfl
  | n + 1, N', b, s, h1, h2, h3 => by
    obtain ⟨M, rfl⟩ : ∃ M, N' = M + 1 := ⟨N' - 1, by omega⟩
    have hs' : SetOk (if hasS t b then s else zgl s b) := by
      split
      . exact h2
      . exact zbf h2 (by omega)
    have ih := zwc N hN ht x4 k0 n M (b + 1) _ (by omega) hs' (by omega)
    rw [iter]
    dsimp only
    have step : ∀ rec, z4a N t x4 s (b : Int) rec k0 = rec (if hasS t b then s else zgl s b) ((b + 1 : Nat) : Int) := by
      intro rec
      unfold z4a zb2
      rw [decide_eq_true (by omega), zjo N ht (by omega) (by omega), z6i (by omega)]
      simp only [cond_true, Option.bind_some]
      cases hasS t b with
      | true => rfl
      | false =>
        simp only [Bool.not_false, cond_true]
        rw [zhr hN h2 (by omega)]
        rfl
    rw [step]
    exact ih

theorem zzc {N : Nat} (hN : 300 <= N) {s : List Int} (hs : SetOk s) : z84 N s = some (z11w s) := by
  unfold z84 zee
  refine (zwc N hN hs _ _ 256 N 0 z4 (by omega) z85 (by omega)).trans ?_
  congr 1
  refine ztd (ztv s 256 0 z85 (by omega)) (z144 hs) fun c hc => ?_
  have h0 : hasS z4 c = false := zqr c
  rw [zqq s 256 0 (s := z4) z85 (by omega) hc, h0, Bool.false_or, z187 hs hc, decide_eq_true (by omega), Bool.and_true]

theorem zl1 (N : Nat) (hN : 300 <= N) {s : List Int} (hs : SetOk s) : ∀ (n N' b : Nat), n < N' -> b + n = 256 →
    iter (fun (v : Int) r => z3e N s v (fun b => (r b)) (fun x2 => some x2) (some (-(1 : Int)))) N' (b : Int) = some (zha s n b)
  | 0, N', b, h1, h3 => by
    obtain ⟨M, rfl⟩ : ∃ M, N' = M + 1 := ⟨N' - 1, by omega⟩
    rw [iter]
    unfold z3e
    rw [decide_eq_false (by omega)]
    rfl
  | n + 1, N', b, h1, h3 => by
    obtain ⟨M, rfl⟩ : ∃ M, N' = M + 1 := ⟨N' - 1, by omega⟩
    have ih := zl1 N hN hs n M (b + 1) (by omega) (by omega)
    rw [iter]
    have step : ∀ rec, z3e N s (b : Int) rec (fun x2 => some x2) (some (-(1 : Int))) = if hasS s b = true then some (b : Int) else rec ((b + 1 : Nat) : Int) := by
      intro rec
      unfold z3e
      rw [decide_eq_true (by omega), zjo N hs (by omega) (by omega), z6i (by omega)]
      simp only [cond_true, Option.bind_some]
      cases hasS s b <;> rfl
    rw [step, zha]
    split
    . rfl
    . exact ih

theorem zmo {N b : Nat} (hN : 300 <= N) (hb : b < 256) : z31 N (zd7 b) = some (b : Int) := by
  unfold z31 z9a
  rw [show (0 : Int) = ((0 : Nat) : Int) from rfl, zl1 N hN (zew hb) 256 N 0 (by omega) (by omega), zh9 hb]

theorem z111 {N : Nat} (hN : 300 <= N) : z5d N = some (ofS 10 48 z4) := by
  unfold z5d
  rw [show (48 : Int) = ((48 : Nat) : Int) from rfl, show (57 : Int) = ((57 : Nat) : Int) from rfl, zbu hN (by omega) (by omega)]
  rfl

theorem zr9 : zgl (orS (orS (ofS 10 48 z4) (ofS 26 65 z4)) (ofS 26 97 z4)) 95 = z15u zby z4 := by kernel_rfl

theorem z123 {N : Nat} (hN : 300 <= N) : z66 N = some (z15u zby z4) := by
  unfold z66
  have k1 : SetOk (ofS 10 48 z4) := zst
  have k2 : SetOk (ofS 26 65 z4) := ztt 26 65 z85 (by omega)
  have k3 : SetOk (ofS 26 97 z4) := ztt 26 97 z85 (by omega)
  rw [show (48 : Int) = ((48 : Nat) : Int) from rfl, show (57 : Int) = ((57 : Nat) : Int) from rfl, zbu hN (by omega) (by omega)]
  rw [show (65 : Int) = ((65 : Nat) : Int) from rfl, show (90 : Int) = ((90 : Nat) : Int) from rfl, zbu hN (by omega) (by omega)]
  rw [show (97 : Int) = ((97 : Nat) : Int) from rfl, show (122 : Int) = ((122 : Nat) : Int) from rfl, zbu hN (by omega) (by omega)]
  simp only [Option.bind_some]
  rw [zq5 hN k1 k2]
  simp only [Option.bind_some]
  rw [zq5 hN (zs0 k1 k2) k3]
  simp only [Option.bind_some]
  rw [show (95 : Int) = ((95 : Nat) : Int) from rfl, zhr hN (zs0 (zs0 k1 k2) k3) (by omega), Option.bind_some, zr9]

end
end Go.Proofs.YtbfmhambfonpcaaDoorLg

set_option linter.all false
set_option maxRecDepth 100000
namespace Go.Proofs.YtbfmhambfonpcaaDoorLg
noncomputable section
open Go Go.Lift Go.Proofs.YtbfmhambfonpcaaDoorPx

abbrev PP := NodT.den × (List Int × (Bool × (Int × ((Int × (Int × Unit)) × Unit))))

def zyn (e : Int) (a : Nat) : PP := (zs1, (z4, (false, ((0 : Int), ((e, ((a : Int), ())), ())))))
def mkP (n : NodT.den) (st : List Int) (c : Bool) (a : Nat) : PP := (n, (st, (c, ((a : Int), (((0 : Int), ((0 : Int), ())), ())))))

def zq4 {α : Type} (f : α -> Nat -> PP) : PR α -> PP
  | .bad e a => zyn e a
  | .ok x a => f x a

def Nz {α : Type} (r : PR α) : Prop := match r with
  | .bad e _ => (e != 0) = true
  | .ok _ _ => True

theorem Nz.next {α β : Type} {r : PR α} {f : α -> Nat -> PR β} (h : Nz r) (hf : ∀ x b, r = .ok x b -> Nz (f x b)) : Nz (r.next f) := by
  cases r with
  | bad e b => exact h
  | ok x b => exact hf x b rfl

theorem zn2 (s : List UInt8) (a : Nat) : Nz (zb5 s a) := by
  unfold zb5; split
  . trivial
  . rfl

theorem zit {s : List UInt8} {a : Nat} (h : a < s.length) : zb5 s a = .ok (gb s a) a := by unfold zb5; rw [if_pos h]
theorem zfs {s : List UInt8} {a : Nat} (h : s.length <= a) : zb5 s a = .bad 1 s.length := by unfold zb5; rw [if_neg (by omega)]

theorem z101 (s : List UInt8) (a b : Nat) : Nz (zds s a b) := by
  refine (zn2 s a).next fun c a1 _ => ?_
  split
  . trivial
  . rfl

theorem z14c (s : List UInt8) (fr a : Nat) : Nz (zqh s fr a) := by
  refine (zn2 s a).next fun c a1 _ => ?_
  split
  . trivial
  split
  . trivial
  . rfl

theorem z10w (s : List UInt8) (a : Nat) : Nz (ztx s a) := by
  refine (zn2 s _).next fun c a1 _ => ?_
  split
  . trivial
  split
  . trivial
  split
  . exact (z14c s a _).next fun h a2 _ => (z14c s a _).next fun l a3 _ => trivial
  split
  . trivial
  . rfl

theorem zpx (s : List UInt8) (a : Nat) : Nz (zh7 s a) := by
  refine (zn2 s _).next fun c a1 _ => ?_
  split
  . exact z10w s a
  split
  . rfl
  . trivial

theorem zqn (s : List UInt8) (a : Nat) : Nz (zfw s a) := by
  refine (zpx s _).next fun c a1 _ => ?_
  split
  . trivial
  . refine (zpx s _).next fun q a2 _ => ?_
    split
    . rfl
    . trivial

theorem zwh (s : List UInt8) : ∀ (k a : Nat) (acc : List Int), a <= s.length -> s.length < a + k -> Nz (zbe s k a acc)
  | 0, a, acc, h1, h2 => by omega
  | k + 1, a, acc, h1, h2 => by
    unfold zbe
    split
    . trivial
    . refine (zqn s a).next fun t a1 h => ?_
      have hc := z15 (z8e s a) h
      exact zwh s k a1 _ hc.2 (by omega)

theorem z135 (s : List UInt8) (a : Nat) : Nz (zdt s a) := by
  unfold zdt
  refine (zqn s _).next fun t a1 h => ?_
  have hc := z15 (z8e s _) h
  exact (zwh s _ a1 t hc.2 (by omega)).next fun acc a2 _ => trivial

theorem zwb (s : List UInt8) (a : Nat) : Nz (zs5 s a) := by
  refine (zn2 s _).next fun c a1 _ => ?_
  split
  . split
    . rfl
    split
    . rfl
    . trivial
  . rfl

theorem z14g (s : List UInt8) (lo hi fr a : Nat) : Nz (zxu s lo hi fr a) := by
  unfold zxu
  split
  . rfl
  . exact (z101 s a 125).next fun _ _ _ => trivial

theorem z11d (s : List UInt8) (a : Nat) : Nz (zbm s a) := by
  refine (zwb s _).next fun lo a1 _ => ?_
  split
  . split
    . trivial
    . exact (zwb s _).next fun hi a2 _ => z14g s _ _ _ _
  . exact z14g s _ _ _ _

theorem zju (N : Nat) {s : List UInt8} {a : Nat} (h : s.length <= a) : z13 N s (a : Int) = some (zyn 1 s.length) := by
  unfold z13
  rw [decide_eq_true (show (s.length : Int) <= (a : Int) by omega)]; rfl

theorem zd1 (N : Nat) {s : List UInt8} {a : Nat} (h : a < s.length) : z13 N s (a : Int) = some (zyn 2 a) := by
  unfold z13
  rw [decide_eq_false (show ¬ (s.length : Int) <= (a : Int) by omega)]; rfl

theorem zqo (N : Nat) (s : List UInt8) (a b : Nat) : z1m N s (a : Int) (b : Int) = some (isB s a b) := by
  unfold z1m isB
  rcases Nat.lt_or_ge a s.length with h | h
  . rw [decide_eq_true (show (a : Int) < (s.length : Int) by omega), decide_eq_true h, z86 h, z88, eqI]
    rfl
  . rw [decide_eq_false (show ¬ (a : Int) < (s.length : Int) by omega), decide_eq_false (show ¬ a < s.length by omega)]; rfl

theorem zps (N b : Nat) (l : List UInt8) (hl : l.length <= 100) : ∀ (n N' i : Nat), n < N' -> i + n = l.length →
    iter (fun (v : Int) r => z3d N (b : Int) l v (fun i => (r i)) (fun x4 => some x4) (some false)) N' (i : Int) = some ((l.drop i).any fun x => x.toNat == b)
  | 0, N', i, h1, h2 => by
    obtain ⟨M, rfl⟩ : ∃ M, N' = M + 1 := ⟨N' - 1, by omega⟩
    rw [iter]
    unfold z3d
    rw [decide_eq_false (by omega), List.drop_eq_nil_of_le (by omega)]
    rfl
  | n + 1, N', i, h1, h2 => by
    obtain ⟨M, rfl⟩ : ∃ M, N' = M + 1 := ⟨N' - 1, by omega⟩
    have ih := zps N b l hl n M (i + 1) (by omega) (by omega)
    rw [iter, List.drop_eq_getElem_cons (show i < l.length by omega), List.any_cons]
    have step : ∀ rec, z3d N (b : Int) l (i : Int) rec (fun x4 => some x4) (some false) = cond ((l[i]'(by omega)).toNat == b) (some true) (rec ((i + 1 : Nat) : Int)) := by
      intro rec
      unfold z3d
      rw [decide_eq_true (by omega), zce (show i < l.length by omega), z6i (by omega), Int.toNat_natCast, List.getD_eq_getElem?_getD, List.getElem?_eq_getElem (show i < l.length by omega)]
      simp only [Option.getD_some, cond_true, eqI]
      rfl
    rw [step]
    cases (l[i]'(by omega)).toNat == b with
    | true => rfl
    | false => simpa using ih

theorem zr3 {N b : Nat} {l : List UInt8} (hN : 300 <= N) (hl : l.length <= 100) : z1x N (b : Int) l = some (l.any fun x => x.toNat == b) := by
  unfold z1x zcp
  exact zps N b l hl l.length N 0 (by omega) (by omega)

theorem z11l : ((List.range 256).all fun b => (([(92 : UInt8), (46 : UInt8), (91 : UInt8), (93 : UInt8), (40 : UInt8), (41 : UInt8), (123 : UInt8), (125 : UInt8), (124 : UInt8), (42 : UInt8), (43 : UInt8), (63 : UInt8), (45 : UInt8), (94 : UInt8)] : List UInt8).any fun x => x.toNat == b) == escapes.contains b) = true := by kernel_rfl
theorem amE {N b : Nat} (hN : 300 <= N) (hb : b < 256) : z1x N (b : Int) ([(92 : UInt8), (46 : UInt8), (91 : UInt8), (93 : UInt8), (40 : UInt8), (41 : UInt8), (123 : UInt8), (125 : UInt8), (124 : UInt8), (42 : UInt8), (43 : UInt8), (63 : UInt8), (45 : UInt8), (94 : UInt8)] : List UInt8) = some (escapes.contains b) := by
  rw [zr3 hN (by decide)]; exact congrArg some (eq_of_beq (List.all_eq_true.1 z11l b (List.mem_range.2 hb)))

theorem z11k : ((List.range 256).all fun b => (([(91 : UInt8), (93 : UInt8), (45 : UInt8), (94 : UInt8)] : List UInt8).any fun x => x.toNat == b) == decide (b = 91 \/ b = 93 \/ b = 45 \/ b = 94)) = true := by kernel_rfl
theorem amS {N b : Nat} (hN : 300 <= N) (hb : b < 256) : z1x N (b : Int) ([(91 : UInt8), (93 : UInt8), (45 : UInt8), (94 : UInt8)] : List UInt8) = some (decide (b = 91 \/ b = 93 \/ b = 45 \/ b = 94)) := by
  rw [zr3 hN (by decide)]; exact congrArg some (eq_of_beq (List.all_eq_true.1 z11k b (List.mem_range.2 hb)))

theorem z11m : ((List.range 256).all fun b => (([(41 : UInt8), (93 : UInt8), (123 : UInt8), (125 : UInt8), (124 : UInt8), (42 : UInt8), (43 : UInt8), (63 : UInt8)] : List UInt8).any fun x => x.toNat == b) == (specials.contains b && !(b == 40 || b == 46 || b == 91 || b == 92))) = true := by kernel_rfl
theorem amA {N b : Nat} (hN : 300 <= N) (hb : b < 256) : z1x N (b : Int) ([(41 : UInt8), (93 : UInt8), (123 : UInt8), (125 : UInt8), (124 : UInt8), (42 : UInt8), (43 : UInt8), (63 : UInt8)] : List UInt8) = some (specials.contains b && !(b == 40 || b == 46 || b == 91 || b == 92)) := by
  rw [zr3 hN (by decide)]; exact congrArg some (eq_of_beq (List.all_eq_true.1 z11m b (List.mem_range.2 hb)))

def hexI (b : Nat) : Int := if zj3 b then ((b - 48 : Nat) : Int) else if 97 <= b /\ b <= 102 then ((b - 87 : Nat) : Int) else -1

theorem zrr (N : Nat) : ((List.range 256).all fun b => z63 N (b : Int) == some (hexI b)) = true := by kernel_rfl
theorem zzd (N : Nat) {b : Nat} (hb : b < 256) : z63 N (b : Int) = some (hexI b) := eq_of_beq (List.all_eq_true.1 (zrr N) b (List.mem_range.2 hb))

theorem z121 {x : Nat} (h : x <= 100000) : IntKind.wrap .i64 (x : Int) = (x : Int) := z4r (by unfold I64; omega)
theorem z120 {a : Nat} (k : Nat) (h : a + k <= 100000) : IntKind.wrap .i64 ((a : Int) + (k : Int)) = ((a + k : Nat) : Int) := by
  rw [z4r (by unfold I64; omega)]; omega

theorem zj0 (N : Nat) {s : List UInt8} {a i n : Nat} (hs : s.length <= 256) (ha : a <= s.length) (hi : i <= 1000) (hn : n <= 1000) (x4 : PP) (rec : Int -> Int -> Option PP) (k0 : PP -> Option PP) (k1 : Int -> Option PP) :
    z58 N s (a : Int) x4 (n : Int) (i : Int) rec k0 k1 = if i < a + 4 then (match zqh s a i with
      | .bad e c => k0 (zyn e c)
      | .ok h j => rec ((16 * n + h : Nat) : Int) (j : Int)) else k1 (n : Int) := by
  unfold z58
  rw [show (4 : Int) = ((4 : Nat) : Int) from rfl, z120 4 (by omega)]
  by_cases h : i < a + 4
  . rw [decide_eq_true (show (i : Int) < ((a + 4 : Nat) : Int) by omega), if_pos h]
    simp only [cond_true]
    unfold zqh
    rcases Nat.lt_or_ge i s.length with hl | hl
    . have hb := zlx s i
      rw [decide_eq_false (show ¬ (s.length : Int) <= (i : Int) by omega), z86 hl, z88, zzd N hb, zit hl]
      simp only [cond_false, cond_true, Option.bind_some, PR.next]
      unfold hexI
      cases hd : zj3 (gb s i) with
      | true =>
        have hd' : 48 <= gb s i /\ gb s i <= 57 := by simpa [zj3] using hd
        simp only [if_true]
        rw [decide_eq_false (show ¬ ((gb s i - 48 : Nat) : Int) < 0 by omega)]
        simp only [cond_false]
        rw [z4r (x := 16 * (n : Int)) (by unfold I64; omega), z4r (by unfold I64; omega), z6i (by omega)]
        congr 1
        all_goals omega
      | false =>
        simp only [Bool.false_eq_true, if_false]
        by_cases h2 : 97 <= gb s i /\ gb s i <= 102
        . rw [if_pos h2, if_pos h2, decide_eq_false (show ¬ ((gb s i - 87 : Nat) : Int) < 0 by omega)]
          simp only [cond_false]
          rw [z4r (x := 16 * (n : Int)) (by unfold I64; omega), z4r (by unfold I64; omega), z6i (by omega)]
          congr 1
          all_goals omega
        . rw [if_neg h2, if_neg h2]; rfl
    . rw [decide_eq_true (show (s.length : Int) <= (i : Int) by omega), zfs hl]; rfl
  . rw [decide_eq_false (show ¬ (i : Int) < ((a + 4 : Nat) : Int) by omega), if_neg h]; rfl

theorem z10l {s : List UInt8} {fr a x b : Nat} (h : zqh s fr a = .ok x b) : b = a + 1 := by
  unfold zqh at h
  rcases Nat.lt_or_ge a s.length with hl | hl
  . rw [zit hl] at h
    simp only [PR.next] at h
    split at h
    . cases h; rfl
    split at h
    . cases h; rfl
    . cases h
  . rw [zfs hl] at h; cases h

def sgP (r : Sg) (a : Nat) : PP := mkP zs1 r.1 r.2.1 a

theorem zrs {N : Nat} (hN : 300 <= N) {s : List UInt8} {a : Nat} (hs : s.length <= 256) (ha : a <= s.length) : z48 N s (a : Int) = some (zq4 sgP (ztx s a)) := by
  unfold z48 ztx
  rw [z6i (by omega)]
  rcases Nat.lt_or_ge (a + 1) s.length with h | h
  . have hb := zlx s (a + 1)
    rw [decide_eq_false (show ¬ (s.length : Int) <= ((a + 1 : Nat) : Int) by omega), z86 h, z88, zit h]
    simp only [cond_false, cond_true, PR.next, show (100 : Int) = ((100 : Nat) : Int) from rfl, show (119 : Int) = ((119 : Nat) : Int) from rfl, show (120 : Int) = ((120 : Nat) : Int) from rfl, show (2 : Int) = ((2 : Nat) : Int) from rfl, show (4 : Int) = ((4 : Nat) : Int) from rfl, eqI]
    rw [z120 2 (by omega), z120 4 (by omega)]
    by_cases e1 : gb s (a + 1) = 100
    . rw [decide_eq_true e1, if_pos e1, z111 hN]; rfl
    rw [decide_eq_false e1, if_neg e1]
    simp only [cond_false]
    by_cases e2 : gb s (a + 1) = 119
    . rw [decide_eq_true e2, if_pos e2, z123 hN]; rfl
    rw [decide_eq_false e2, if_neg e2]
    simp only [cond_false]
    by_cases e3 : gb s (a + 1) = 120
    . rw [decide_eq_true e3, if_pos e3]
      simp only [cond_true]
      unfold zc4
      obtain ⟨M, rfl⟩ : ∃ M, N = M + 1 + 1 + 1 := ⟨N - 3, by omega⟩
      rw [show (0 : Int) = ((0 : Nat) : Int) from rfl]
      rw [iter, zj0 _ hs ha (by omega) (by omega), if_pos (by omega)]
      cases q1 : zqh s a (a + 2) with
      | bad e c => rfl
      | ok x b =>
        obtain rfl := z10l q1
        have hx := zpf q1
        simp only [PR.next]
        rw [iter, zj0 _ hs ha (by omega) (by omega), if_pos (by omega)]
        cases q2 : zqh s a (a + 2 + 1) with
        | bad e c => rfl
        | ok y b =>
          obtain rfl := z10l q2
          have hy := zpf q2
          simp only [PR.next]
          rw [iter, zj0 _ hs ha (by omega) (by omega), if_neg (by omega), show 16 * (16 * 0 + x) + y = 16 * x + y by omega, zg8 hN (by omega)]
          rfl
    rw [decide_eq_false e3, if_neg e3]
    simp only [cond_false]
    rw [amE hN hb, z121 (by omega), zg8 hN hb]
    simp only [Option.bind_some]
    cases escapes.contains (gb s (a + 1)) <;> rfl
  . rw [decide_eq_true (show (s.length : Int) <= ((a + 1 : Nat) : Int) by omega), zfs h]; rfl

theorem zou {N : Nat} (hN : 300 <= N) {s : List UInt8} {a : Nat} (hs : s.length <= 256) (ha : a <= 1000) : z55 N s (a : Int) = some (zq4 sgP (zh7 s a)) := by
  unfold z55 z9z z9y zh7
  rcases Nat.lt_or_ge a s.length with h | h
  . have hb := zlx s a
    rw [decide_eq_false (show ¬ (s.length : Int) <= (a : Int) by omega), z86 h, z88, zit h, amS hN hb, z121 (by omega), zg8 hN hb, z6i (by omega), zrs hN hs (by omega)]
    simp only [cond_false, cond_true, PR.next, Option.bind_some, show (92 : Int) = ((92 : Nat) : Int) from rfl, eqI]
    by_cases e1 : gb s a = 92
    . rw [decide_eq_true e1, if_pos e1, decide_eq_false (by omega)]; rfl
    rw [decide_eq_false e1, if_neg e1]
    by_cases e2 : gb s a = 91 \/ gb s a = 93 \/ gb s a = 45 \/ gb s a = 94
    . rw [decide_eq_true e2, if_pos e2, zd1 N h]; rfl
    . rw [decide_eq_false e2, if_neg e2]; rfl
  . rw [decide_eq_true (show (s.length : Int) <= (a : Int) by omega), zfs h, zju N h]; rfl

theorem ztl {N : Nat} (hN : 300 <= N) {s : List Int} (hs : SetOk s) : z31 N s = some (zha s 256 0) := by
  unfold z31 z9a
  rw [show (0 : Int) = ((0 : Nat) : Int) from rfl, zl1 N hN hs 256 N 0 (by omega) (by omega)]

theorem zox {N : Nat} (hN : 300 <= N) {s : List UInt8} {a : Nat} (hs : s.length <= 256) (ha : a <= 500) : ∃ c, z4b N s (a : Int) = some (zq4 (fun t b => mkP zs1 t c b) (zfw s a)) := by
  unfold z4b za5 za4 zfw
  rw [zou hN hs (by omega)]
  have z := zpx s a
  cases h : zh7 s a with
  | bad e b =>
    rw [h] at z
    refine ⟨false, ?_⟩
    simp only [Option.bind_some, zq4, zyn]
    rw [show (e != (0 : Int)) = true from z]
    rfl
  | ok r a1 =>
    have hg := zkj h
    have hp := z15 (zho s a) h
    simp only [Option.bind_some, zq4, sgP, mkP, PR.next]
    rw [show ((0 : Int) != (0 : Int)) = false from rfl]
    simp only [cond_false]
    obtain ⟨st, cl, v⟩ := r
    cases cl with
    | true => exact ⟨true, rfl⟩
    | false =>
      obtain ⟨hgs, hgv⟩ := hg
      obtain ⟨e, hv⟩ := hgv rfl
      obtain rfl : st = zd7 v := e
      replace hv : v < 256 := hv
      dsimp only
      rw [show (45 : Int) = ((45 : Nat) : Int) from rfl, zqo]
      simp only [Option.bind_some, cond_false, Bool.false_or]
      cases isB s a1 45 with
      | false => exact ⟨false, rfl⟩
      | true =>
        refine ⟨false, ?_⟩
        simp only [Bool.not_true, cond_false, Bool.false_eq_true, if_false]
        rw [z6i (by omega), zou hN hs (by omega)]
        have z := zpx s (a1 + 1)
        cases h2 : zh7 s (a1 + 1) with
        | bad e b =>
          rw [h2] at z
          simp only [Option.bind_some, zq4, zyn]
          rw [show (e != (0 : Int)) = true from z]
          rfl
        | ok q a2 =>
          have hg2 := zkj h2
          obtain ⟨st2, cl2, v2⟩ := q
          simp only [Option.bind_some, zq4, sgP, mkP, PR.next]
          rw [show ((0 : Int) != (0 : Int)) = false from rfl, zmo hN hv, ztl hN hg2.1]
          simp only [cond_false, Option.bind_some]
          unfold za3 za2
          dsimp only
          rw [z6i (by omega)]
          cases cl2 with
          | true => rfl
          | false =>
            obtain ⟨e, hv2⟩ := hg2.2 rfl
            obtain rfl : st2 = zd7 v2 := e
            replace hv2 : v2 < 256 := hv2
            rw [zh9 hv2]
            simp only [cond_false, Bool.false_or]
            by_cases hlt : v2 < v
            . rw [decide_eq_true hlt, decide_eq_true (show (v2 : Int) < (v : Int) by omega)]; rfl
            . rw [decide_eq_false hlt, decide_eq_false (show ¬ (v2 : Int) < (v : Int) by omega)]
              simp only [cond_false, Bool.false_eq_true, if_false]
              rw [zbu hN (by omega) hv2]
              rfl

end
end Go.Proofs.YtbfmhambfonpcaaDoorLg

set_option linter.all false
set_option maxRecDepth 100000
namespace Go.Proofs.YtbfmhambfonpcaaDoorLg
noncomputable section
open Go Go.Lift Go.Proofs.YtbfmhambfonpcaaDoorPx

theorem zjn {N : Nat} (hN : 300 <= N) {s : List UInt8} (hs : s.length <= 256) (x4 : PP) (nt : Bool) (k1 : Int -> List Int -> Option PP) (G : List Int -> Nat -> PP) (hk : ∀ (b : Nat) t, b <= 256 -> SetOk t -> k1 (b : Int) t = some (G t (b + 1))) :
    ∀ (k N' a : Nat) (x6 : PP) (acc : List Int), k <= N' -> a <= s.length -> s.length < a + k -> SetOk acc →
    iter (fun (v : (Int × PP × (List Int))) r => z5r N s x4 nt v.1 v.2.1 v.2.2 (fun at_ x6 all => (r (at_, x6, all))) (fun x => some x) k1) N' ((a : Int), x6, acc) = some (zq4 G (zbe s k a acc))
  | 0, N', a, x6, acc, h1, h2, h3, h4 => by omega
  | k + 1, N', a, x6, acc, h1, h2, h3, h4 => by
    obtain ⟨M, rfl⟩ : ∃ M, N' = M + 1 := ⟨N' - 1, by omega⟩
    rw [iter, zbe]
    dsimp only
    conv => lhs; unfold z5r
    rw [show (93 : Int) = ((93 : Nat) : Int) from rfl, zqo]
    simp only [Option.bind_some]
    cases isB s a 93 with
    | true =>
      simp only [Bool.not_true, cond_false, if_true]
      exact hk a acc (by omega) h4
    | false =>
      simp only [Bool.not_false, cond_true, Bool.false_eq_true, if_false]
      obtain ⟨c, e⟩ := zox hN (s := s) (a := a) hs (by omega)
      rw [e]
      have z := zqn s a
      cases h : zfw s a with
      | bad e b =>
        rw [h] at z
        simp only [Option.bind_some, zq4, zyn]
        rw [show (e != (0 : Int)) = true from z]
        rfl
      | ok t b =>
        have hp := z15 (z8e s a) h
        have ht := zdv h
        simp only [Option.bind_some, zq4, mkP, PR.next]
        rw [show ((0 : Int) != (0 : Int)) = false from rfl, zq5 hN h4 ht]
        simp only [cond_false, Option.bind_some]
        exact zjn hN hs x4 nt k1 G hk k M b _ (orS acc t) (by omega) hp.2 (by omega) (zs0 h4 ht)

def trP (t : Tree) (a : Nat) : PP := mkP (unN t) z4 false a

theorem ztm {N : Nat} (hN : 300 <= N) {s : List UInt8} {a : Nat} (hs : s.length <= 256) (ha : a <= 400) : z64 N s (a : Int) = some (zq4 (fun st b => trP (zym st) b) (zdt s a)) := by
  unfold z64 z96 zdt
  rw [show (94 : Int) = ((94 : Nat) : Int) from rfl, zqo, z6i (by omega)]
  simp only [Option.bind_some]
  have key : ∀ (nt : Bool) (b : Nat), b <= 401 -> ((z4b N s (b : Int)).bind fun y1 =>
    cond (y1.2.2.2.2.1.1 != (0 : Int))
    (some y1)
    (z95 N s y1.2.2.2.1 (((0 : Int), (([(0 : Int), (0 : Int), (0 : Int), (0 : Int)] : List Int), (([] : List Go.Lift.Tree), ((0 : Int), ((0 : Int), ()))))), (([(0 : Int), (0 : Int), (0 : Int), (0 : Int)] : List Int), (false, ((0 : Int), (((0 : Int), ((0 : Int), ())), ()))))) nt y1 y1.2.1
      (fun x4 => some x4)
      (fun at_2 all => z5s N at_2 (((0 : Int), (([(0 : Int), (0 : Int), (0 : Int), (0 : Int)] : List Int), (([] : List Go.Lift.Tree), ((0 : Int), ((0 : Int), ()))))), (([(0 : Int), (0 : Int), (0 : Int), (0 : Int)] : List Int), (false, ((0 : Int), (((0 : Int), ((0 : Int), ())), ()))))) nt all
        (fun all1 => some (((1 : Int), (all1, (([] : List Go.Lift.Tree), ((0 : Int), ((0 : Int), ()))))), (([(0 : Int), (0 : Int), (0 : Int), (0 : Int)] : List Int), (false, ((Go.IntKind.wrap Go.IntKind.i64 (at_2 + (1 : Int))), (((0 : Int), ((0 : Int), ())), ()))))))))) =
    some (zq4 (fun st b => trP (zym st) b) ((zfw s b).next fun t a1 => (zbe s (s.length + 1) a1 t).next fun acc a2 => .ok (if nt then z11w acc else acc) a2)) := by
    intro nt b hb
    obtain ⟨c, e⟩ := zox hN (s := s) (a := b) hs (by omega)
    rw [e]
    have z := zqn s b
    cases h : zfw s b with
    | bad e b =>
      rw [h] at z
      simp only [Option.bind_some, zq4, zyn]
      rw [show (e != (0 : Int)) = true from z]
      rfl
    | ok t b1 =>
      have hp := z15 (z8e s b) h
      have ht := zdv h
      simp only [Option.bind_some, zq4, mkP, PR.next]
      rw [show ((0 : Int) != (0 : Int)) = false from rfl]
      simp only [cond_false]
      unfold z95
      refine (zjn hN hs _ nt _ (fun t b => trP (zym (if nt then z11w t else t)) b) ?_ (s.length + 1) N b1 _ t (by omega) hp.2 (by omega) ht).trans ?_
      . intro b t hb ht
        try dsimp only
        unfold z5s
        rw [z6i (by omega)]
        cases nt with
        | true =>
          rw [zzc hN ht]; rfl
        | false => rfl
      . cases zbe s (s.length + 1) b1 t <;> rfl
  cases hq : isB s a 94 with
  | true => exact key true (a + 1) (by omega)
  | false => exact key false a (by omega)

theorem zle (N : Nat) {s : List UInt8} (hs : s.length <= 256) (at_ : Int) (x5 : PP) (k0 : Int -> Int -> Option (Int × PP × Unit)) : ∀ (k N' i n : Nat), k <= N' -> i <= s.length -> s.length < i + k -> n <= 20000 →
    ∃ n', iter (fun (v : (Int × Int)) r => z30 N s at_ x5 v.1 v.2 (fun k n => (r (k, n))) k0) N' ((i : Int), (n : Int)) = k0 ((zar s k i (min n 17)).2 : Int) ((n' : Nat) : Int) /\ min n' 17 = (zar s k i (min n 17)).1 /\ n' <= 20000
  | 0, N', i, n, h1, h2, h3, h4 => by omega
  | k + 1, N', i, n, h1, h2, h3, h4 => by
    obtain ⟨M, rfl⟩ : ∃ M, N' = M + 1 := ⟨N' - 1, by omega⟩
    rw [iter]
    dsimp only
    by_cases hc : i < s.length /\ zj3 (gb s i) = true
    . have hd' : 48 <= gb s i /\ gb s i <= 57 := by simpa [zj3] using hc.2
      have step : ∀ rec k0, z30 N s at_ x5 (i : Int) (n : Int) rec k0 = rec ((i + 1 : Nat) : Int) ((if n < 1000 then 10 * n + gb s i - 48 else n : Nat) : Int) := by
        intro rec k0
        unfold z30 z57 z7y
        rw [decide_eq_true (show (i : Int) < (s.length : Int) by omega), z86 hc.1, z88, decide_eq_true (show (48 : Int) <= (gb s i : Int) by omega), decide_eq_true (show (gb s i : Int) <= 57 by omega), z6i (by omega)]
        simp only [cond_true]
        by_cases hn : n < 1000
        . rw [decide_eq_true (show (n : Int) < 1000 by omega), if_pos hn, z121 (x := gb s i) (by omega), z4r (x := 10 * (n : Int)) (by unfold I64; omega), z4r (x := 10 * (n : Int) + (gb s i : Int)) (by unfold I64; omega), z4r (by unfold I64; omega)]
          simp only [cond_true]
          congr 1
          omega
        . rw [decide_eq_false (show ¬ (n : Int) < 1000 by omega), if_neg hn]
          rfl
      rw [step]
      obtain ⟨n', q1, q2, q3⟩ := zle N hs at_ x5 k0 k M (i + 1) (if n < 1000 then 10 * n + gb s i - 48 else n) (by omega) (by omega) (by omega) (by split <;> omega)
      have e : min (if n < 1000 then 10 * n + gb s i - 48 else n) 17 = min (10 * min n 17 + (gb s i - 48)) 17 := by split <;> omega
      rw [e] at q1 q2
      refine ⟨n', ?_, ?_, q3⟩
      . conv => rhs; rw [zar, if_pos hc]
        exact q1
      . rw [zar, if_pos hc]; exact q2
    . refine ⟨n, ?_, ?_, h4⟩
      . conv => rhs; rw [zar, if_neg hc]
        unfold z30 z57
        rcases Nat.lt_or_ge i s.length with h | h
        . have hd : zj3 (gb s i) = false := by
            cases hd : zj3 (gb s i) with
            | true => exact absurd ⟨h, hd⟩ hc
            | false => rfl
          rw [decide_eq_true (show (i : Int) < (s.length : Int) by omega), z86 h, z88]
          simp only [cond_true]
          by_cases h5 : 48 <= gb s i
          . have h6 : ¬ gb s i <= 57 := by
              intro h6
              simp [zj3, h5, h6] at hd
            rw [decide_eq_true (show (48 : Int) <= (gb s i : Int) by omega), decide_eq_false (show ¬ (gb s i : Int) <= 57 by omega)]
            rfl
          . rw [decide_eq_false (show ¬ (48 : Int) <= (gb s i : Int) by omega)]
            rfl
        . rw [decide_eq_false (show ¬ (i : Int) < (s.length : Int) by omega)]
          rfl
      . rw [zar, if_neg hc]

def nuP : PR Nat -> Int × PP × Unit
  | .bad e c => (0, (zyn e c, ()))
  | .ok v c => ((v : Int), (mkP zs1 z4 false c, ()))

theorem zrp {N : Nat} (hN : 300 <= N) {s : List UInt8} {a : Nat} (hs : s.length <= 256) (ha : a <= s.length) : z46 N s (a : Int) = some (nuP (zs5 s a)) := by
  unfold z46 z7z zc3 zs5
  obtain ⟨n', q1, q2, q3⟩ := zle N hs (a : Int) (((0 : Int), (([(0 : Int), (0 : Int), (0 : Int), (0 : Int)] : List Int), (([] : List Go.Lift.Tree), ((0 : Int), ((0 : Int), ()))))), (([(0 : Int), (0 : Int), (0 : Int), (0 : Int)] : List Int), (false, ((0 : Int), (((0 : Int), ((0 : Int), ())), ()))))) 
    (fun k n => cond (k == (a : Int))
    ((z13 N s (a : Int)).bind fun y =>
      some ((0 : Int), (y, ())))
    (z56 N s (a : Int) (((0 : Int), (([(0 : Int), (0 : Int), (0 : Int), (0 : Int)] : List Int), (([] : List Go.Lift.Tree), ((0 : Int), ((0 : Int), ()))))), (([(0 : Int), (0 : Int), (0 : Int), (0 : Int)] : List Int), (false, ((0 : Int), (((0 : Int), ((0 : Int), ())), ()))))) k n
      (fun x4 x5 => some (x4, (x5, ())))
      (cond (decide ((16 : Int) < n))
        (some ((0 : Int), ((((0 : Int), (([(0 : Int), (0 : Int), (0 : Int), (0 : Int)] : List Int), (([] : List Go.Lift.Tree), ((0 : Int), ((0 : Int), ()))))), (([(0 : Int), (0 : Int), (0 : Int), (0 : Int)] : List Int), (false, ((0 : Int), (((3 : Int), ((a : Int), ())), ()))))), ())))
        (some (n, ((((0 : Int), (([(0 : Int), (0 : Int), (0 : Int), (0 : Int)] : List Int), (([] : List Go.Lift.Tree), ((0 : Int), ((0 : Int), ()))))), (([(0 : Int), (0 : Int), (0 : Int), (0 : Int)] : List Int), (false, (k, (((0 : Int), ((0 : Int), ())), ()))))), ())))))) (s.length + 1) N a 0 (by omega) ha (by omega) (by omega)
  refine Eq.trans q1 ?_
  clear q1
  rw [show min 0 17 = 0 from rfl] at q2 ⊢
  try dsimp only
  rw [eqI]
  rcases Nat.lt_or_ge a s.length with h | h
  . rw [zit h]
    simp only [PR.next]
    cases hd : zj3 (gb s a) with
    | false =>
      have e : zar s (s.length + 1) a 0 = (0, a) := by rw [zar, if_neg (by rw [hd]; simp)]
      rw [e, decide_eq_true rfl, zd1 N h]
      rfl
    | true =>
      have h1 := zrg (k := s.length) (v := 0) h hd
      simp only [if_true]
      generalize hq : zar s (s.length + 1) a 0 = q at *
      obtain ⟨v, b⟩ := q
      dsimp only at h1 q2 ⊢
      rw [decide_eq_false (by omega)]
      unfold z56 z7x
      rw [z86 h, z88, z6i (by omega)]
      simp only [cond_true, cond_false, show (48 : Int) = ((48 : Nat) : Int) from rfl, eqI]
      have tail : cond (decide ((16 : Int) < (n' : Int)))
          (some ((0 : Int), ((((0 : Int), (([(0 : Int), (0 : Int), (0 : Int), (0 : Int)] : List Int), (([] : List Go.Lift.Tree), ((0 : Int), ((0 : Int), ()))))), (([(0 : Int), (0 : Int), (0 : Int), (0 : Int)] : List Int), (false, ((0 : Int), (((3 : Int), ((a : Int), ())), ()))))), ())))
          (some ((n' : Int), ((((0 : Int), (([(0 : Int), (0 : Int), (0 : Int), (0 : Int)] : List Int), (([] : List Go.Lift.Tree), ((0 : Int), ((0 : Int), ()))))), (([(0 : Int), (0 : Int), (0 : Int), (0 : Int)] : List Int), (false, ((b : Int), (((0 : Int), ((0 : Int), ())), ()))))), ()))) = some (nuP (if 16 < v then .bad 3 a else .ok v b)) := by
        by_cases hv : 16 < v
        . rw [decide_eq_true (by omega), if_pos hv]; rfl
        . obtain rfl : n' = v := by omega
          rw [decide_eq_false (by omega), if_neg hv]; rfl
      by_cases h48 : gb s a = 48
      . rw [decide_eq_true h48]
        simp only [cond_true]
        by_cases hb : a + 1 < b
        . rw [decide_eq_true (show ((a + 1 : Nat) : Int) < (b : Int) by omega), if_pos ⟨h48, hb⟩]
          rfl
        . rw [decide_eq_false (show ¬ ((a + 1 : Nat) : Int) < (b : Int) by omega), if_neg (fun h => hb h.2)]
          exact tail
      . rw [decide_eq_false h48, if_neg (fun h => h48 h.1)]
        exact tail
  . have e : zar s (s.length + 1) a 0 = (0, a) := by rw [zar, if_neg (by omega)]
    rw [e, decide_eq_true rfl, zfs h, zju N h]
    rfl

theorem z13y {N : Nat} (hN : 300 <= N) {s : List UInt8} {a : Nat} (hs : s.length <= 256) (ha : a <= s.length) (t : Tree) (lo hi fr : Nat) (x6 : PP) :
    z5a N s (unN t) x6 (lo : Int) (mkP zs1 z4 false a) (hi : Int) (fr : Int)
        (fun x62 => some x62)
        ((z1m N s (mkP zs1 z4 false a).2.2.2.1 (125 : Int)).bind fun y1 =>
          cond (!y1)
          ((z13 N s (mkP zs1 z4 false a).2.2.2.1).bind fun y2 =>
            some y2)
          (some (((4 : Int), (([(0 : Int), (0 : Int), (0 : Int), (0 : Int)] : List Int), ((List.map Go.Lift.foN ([unN t] : List NodT.den)), ((lo : Int), ((hi : Int), ()))))), (([(0 : Int), (0 : Int), (0 : Int), (0 : Int)] : List Int), (false, ((Go.IntKind.wrap Go.IntKind.i64 ((mkP zs1 z4 false a).2.2.2.1 + (1 : Int))), (((0 : Int), ((0 : Int), ())), ()))))))) =
      some (zq4 (fun lh c => trP (zxh t lh.1 lh.2) c) (zxu s lo hi fr a)) := by
  unfold z5a z80 zxu
  simp only [mkP]
  rw [show (125 : Int) = ((125 : Nat) : Int) from rfl, zqo, z6i (by omega), zwl, show (0 : Int) = ((0 : Nat) : Int) from rfl, eqI]
  simp only [Option.bind_some]
  have tail : cond (!isB s a 125) ((z13 N s (a : Int)).bind fun y2 => some y2) (some (((4 : Int), (([((0 : Nat) : Int), ((0 : Nat) : Int), ((0 : Nat) : Int), ((0 : Nat) : Int)] : List Int), ([t], ((lo : Int), ((hi : Int), ()))))), (([((0 : Nat) : Int), ((0 : Nat) : Int), ((0 : Nat) : Int), ((0 : Nat) : Int)] : List Int), (false, (((a + 1 : Nat) : Int), ((((0 : Nat) : Int), (((0 : Nat) : Int), ())), ())))))) = some (zq4 (fun lh c => trP (zxh t lh.1 lh.2) c) ((zds s a 125).next fun _ a1 => .ok ((lo : Int), (hi : Int)) a1)) := by
    unfold zds
    rcases Nat.lt_or_ge a s.length with h | h
    . rw [zit h]
      simp only [PR.next]
      by_cases hb : gb s a = 125
      . have e : isB s a 125 = true := by simp [isB, h, hb]
        rw [e, if_pos hb]; rfl
      . have e : isB s a 125 = false := by simp [isB, hb]
        rw [e, if_neg hb, zd1 N h]; rfl
    . have e : isB s a 125 = false := by simp [isB]; omega
      rw [e, zfs h, zju N h]; rfl
  by_cases h0 : hi = 0
  . rw [decide_eq_true h0, if_pos (by omega)]; rfl
  . rw [decide_eq_false h0]
    simp only [cond_false]
    by_cases h1 : hi < lo
    . rw [decide_eq_true (show (hi : Int) < (lo : Int) by omega), if_pos (by omega)]; rfl
    . rw [decide_eq_false (show ¬ (hi : Int) < (lo : Int) by omega), if_neg (by omega)]
      exact tail

theorem zru {N : Nat} (hN : 300 <= N) {s : List UInt8} {a : Nat} (hs : s.length <= 256) (ha : a < s.length) (t : Tree) : z5b N s (unN t) (a : Int) = some (zq4 (fun lh c => trP (zxh t lh.1 lh.2) c) (zbm s (a + 1))) := by
  unfold z5b zbm
  rw [z6i (by omega), zrp hN hs (by omega)]
  have z := zwb s (a + 1)
  cases h : zs5 s (a + 1) with
  | bad e b =>
    rw [h] at z
    simp only [Option.bind_some, nuP, zyn]
    rw [show (e != (0 : Int)) = true from z]
    rfl
  | ok lo b =>
    have hp := z15 (zf9 s (a + 1)) h
    simp only [Option.bind_some, nuP, PR.next]
    rw [show ((mkP zs1 z4 false b).2.2.2.2.1.1 != (0 : Int)) = false from rfl]
    simp only [cond_false]
    unfold z83 z82 z81
    rw [show (mkP zs1 z4 false b).2.2.2.1 = (b : Int) from rfl, show (44 : Int) = ((44 : Nat) : Int) from rfl, zqo, z6i (by omega), show (2 : Int) = ((2 : Nat) : Int) from rfl, z120 2 (by omega), show (125 : Int) = ((125 : Nat) : Int) from rfl, zqo]
    simp only [Option.bind_some]
    cases h44 : isB s b 44 with
    | false =>
      simp only [cond_false, Bool.false_eq_true, if_false]
      exact z13y hN hs hp.2 t lo lo (a + 1) _
    | true =>
      have hlt : b < s.length := by simp [isB] at h44; omega
      simp only [cond_true, if_true]
      cases h125 : isB s (b + 1) 125 with
      | true =>
        simp only [cond_true, if_true]
        rw [zwl]; rfl
      | false =>
        simp only [cond_false, Bool.false_eq_true, if_false]
        rw [zrp hN hs (by omega)]
        have z := zwb s (b + 1)
        cases h2 : zs5 s (b + 1) with
        | bad e c =>
          rw [h2] at z
          simp only [Option.bind_some, nuP, zyn]
          rw [show (e != (0 : Int)) = true from z]
          rfl
        | ok hi c =>
          have hp2 := z15 (zf9 s (b + 1)) h2
          simp only [Option.bind_some, nuP, PR.next]
          rw [show ((mkP zs1 z4 false c).2.2.2.2.1.1 != (0 : Int)) = false from rfl]
          simp only [cond_false]
          exact z13y hN hs hp2.2 t lo hi (b + 1) _

end
end Go.Proofs.YtbfmhambfonpcaaDoorLg
