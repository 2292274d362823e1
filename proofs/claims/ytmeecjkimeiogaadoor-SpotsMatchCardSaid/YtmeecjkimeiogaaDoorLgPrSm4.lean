import Derived.Test.YtmeecjkimeiogaaDoorLgPrSm2
import Derived.Test.YtmeecjkimeiogaaDoorLgPn
import Derived.Test.YtmeecjkimeiogaaDoorLgPrSm3
import Derived.WalkKit
import Derived.Tactics
import Derived.Tactics2
import Derived.Defers
import Derived.Lib.Hide
import Derived.Below
import Derived.Recover
import Derived.Orders
import Derived.WalkSmall
import Derived.LoopN
import Derived.Test.YtmeecjkimeiogaaDoorChecked
import Derived.KernelRfl
set_option linter.all false
set_option maxRecDepth 100000
namespace Go.Proofs.YtmeecjkimeiogaaDoorLg
noncomputable section
open Go Go.Lift

abbrev PrsT : T := .pair .str TT0

theorem fail_walk {w : World} {v : Value} {e at_ : Int} :
    Calls Tryd.prog 41 #[v, .int .i64 e, .int .i64 at_] w fun r w' => r = .panicked [{ v := .iface 46 (.agg #[.int .i64 e, .int .i64 at_]), recovered := false }] /\ w' = w := by
  go_enter Tryd.func41, Tryd.ntmps41
  go_wp2
  exact ⟨rfl, rfl, rfl⟩

def zm (N : Nat) : List A -> PnRes := zf3 [(0, .box (.pair .str TT0)), (0, .v (.int .i64)), (0, .v (.int .i64))] (fun x => some ((x.2.1, (x.2.2.1, ())) : Int × (Int × Unit))) (fun z => ⟨.pair (.int .i64) (.pair (.int .i64) .unit), z⟩)

theorem zq (N : Nat) : ContractP Tryd.prog glob 41 46 (zm N) := by
  refine ContractP.hand ⟨_, Tryd.func41, by kernel_rfl, by decide⟩ ?_
  intro w S vals ob x y har hS hg hy
  obtain ⟨x, n, m, u⟩ := x
  cases u
  obtain ⟨⟨v0, hv0, hA0⟩, _⟩ := har.rel 0 _ rfl
  obtain ⟨⟨v1, hv1, hA1⟩, _⟩ := har.rel 1 _ rfl
  obtain ⟨⟨v2, hv2, hA2⟩, _⟩ := har.rel 2 _ rfl
  have hlen := har.len
  have hvals : vals = [v0, v1, v2] := by
    match vals, hlen with
    | [a, b, c], _ => cases hv0; cases hv1; cases hv2; rfl
  have e1 := VR.int_inv hA1.1
  have e2 := VR.int_inv hA2.1
  subst e1
  subst e2
  subst hvals
  cases hy
  refine fail_walk.mono ?_
  rintro r w' ⟨rfl, rfl⟩
  exact ⟨rfl, WF.refl _ _, hS⟩

def zrb : Code := (Tryd.f92.body).getD .skip

def L_54 : List (List Nat × List Nat) := [([0], [0]), ([0, 0, 1], [12, 0]), ([1, 0, 1], [0]), ([0, 1, 0, 1], [0]), ([0, 1, 1], [2, 0]), ([1, 1, 1], [2, 0])]

def E_54 (N : Nat) : Env := z1x tys glob [] [] [] [0] false [] []

theorem z1ez (N : Nat) : EnvOk Tryd.prog (E_54 N) := zg mixed zw (FnsOk.nil) (ItsOk.nil)

def z35 (N : Nat) : PnT := pnT [(41, 46, zm N)]

theorem z6r (N : Nat) : PnOk Tryd.prog glob (z35 N) := PnOk.cons (zq N) (PnOk.nil)

def z7b (N : Nat) (p : DT2) (k0 : (Int × (Int × Unit)) -> Option (Int × (Int × Unit))) (k1 : Option (Int × (Int × Unit))) : Option (Int × (Int × Unit)) :=
 cond (p.2.1 == (((List.length p.1) : Nat) : Int))
 (k0 ((1 : Int), (p.2.1, ())))
 (k1)

def z1cu (N : Nat) (x : z17 SQ0) (K : ExP -> List A -> Option (Int × (Int × Unit))) : Option (Int × (Int × Unit)) :=
 z7b N x.1 (fun a0 => (K (.pan 46) (mkS [(0, .v TT0)] 0 (a0, ())))) (K .normal (mkS SQ0 27 (x.1, ())))

def z1a0 (N : Nat) : HdP (Int × (Int × Unit)) := fun st K => (unS SQ0 27 (restr [0] 0 st)).bind fun x => z1cu N x K

def t1_54 (N : Nat) : zae (Int × (Int × Unit)) := []

theorem z16m {N : Nat} {c : Ctx} (hb : Base Tryd.prog (E_54 N) c) (hP : PnOk Tryd.prog glob (z35 N)) : z1r Tryd.prog c (ze zrb [0, 1]) (z1a0 N) :=
  z1w (s := SQ0) (m := 27) (g := z1cu N) [0] (z1f hb hP N (t1_54 N) L_54 zrb TabOkP.nil [0, 1] _ rfl) (fun x K => by kernel_rfl)

def z1u (N : Nat) (p : DT2) : Option (Int × (Int × Unit)) :=
 z7b N p
 (fun p1 => some p1)
 (cond (inR p.2.1 (List.length p.1))
 (none)
 (none))

def t_54 (N : Nat) : zae (Int × (Int × Unit)) := [([0, 1], z1a0 N)]

theorem z118 (N : Nat) (x : z17 SQ0) : zf4 (E_54 N) (z35 N) N (t_54 N) L_54 Tryd.f92 46 TT0 (mkS SQ0 0 x) (fun z => some z) = z1u N x.1 := by kernel_rfl

def z1n (N : Nat) : List A -> PnRes := zf3 SQ0 (fun x => z1u N x.1) (fun z => ⟨TT0, z⟩)

theorem z28 (N : Nat) : ContractP Tryd.prog glob 92 46 (z1n N) :=
  ContractP.of (E := E_54 N) (Pn := z35 N) (H := t_54 N) (L := L_54) (N := N) (body := zrb) (t := TT0) (z1ez N) (z6r N) Tryd.func92 (by kernel_rfl) (by decide) (fun _ hb => (TabOkP.cons (z16m hb (z6r N)) TabOkP.nil)) (fun x y h => by rw [z118]; exact h)

def zra : Code := (Tryd.f87.body).getD .skip

def L_55 : List (List Nat × List Nat) := [([0, 0], [7, 0]), ([1, 0], [0]), ([0, 1, 0], [0]), ([1], [0])]

def E_55 (N : Nat) : Env := z1x tys glob [(92, zu N)] [] [] [0] false [] []

theorem z1ey (N : Nat) : EnvOk Tryd.prog (E_55 N) := zg mixed zw (FnsOk.cons (z16 N) (FnsOk.nil)) (ItsOk.nil)

def z36 (N : Nat) : PnT := pnT [(92, 46, z1n N), (41, 46, zm N)]

theorem z6s (N : Nat) : PnOk Tryd.prog glob (z36 N) := PnOk.cons (z28 N) (PnOk.cons (zq N) (PnOk.nil))

def z7c (N : Nat) (p : DT2) (b : Int) (k0 : (Int × (Int × Unit)) -> Option (Int × (Int × Unit))) (k1 : DT2 -> Option (Int × (Int × Unit))) : Option (Int × (Int × Unit)) :=
 orP ((z1u N p)) (fun z => k0 z)
 ((z19 N p).bind fun y =>
 cond (y.1 != b)
 (k0 ((2 : Int), (y.2.1.2.1, ())))
 (k1 y.2.1))

def z1ct (N : Nat) (x : z17 SQ7) (K : ExP -> List A -> Option (Int × (Int × Unit))) : Option (Int × (Int × Unit)) :=
 z7c N x.1 x.2.1 (fun a0 => (K (.pan 46) (mkS [(0, .v TT0)] 0 (a0, ())))) (fun a0 => (K .normal (mkS SQ0 20 (a0, ()))))

def z19z (N : Nat) : HdP (Int × (Int × Unit)) := fun st K => (unS SQ7 19 (restr [0, 1] 0 st)).bind fun x => z1ct N x K

def t1_55 (N : Nat) : zae (Int × (Int × Unit)) := []

theorem z16l {N : Nat} {c : Ctx} (hb : Base Tryd.prog (E_55 N) c) (hP : PnOk Tryd.prog glob (z36 N)) : z1r Tryd.prog c (ze zra [0]) (z19z N) :=
  z1w (s := SQ7) (m := 19) (g := z1ct N) [0, 1] (z1f hb hP N (t1_55 N) L_55 zra TabOkP.nil [0] _ rfl) (fun x K => by kernel_rfl)

def z1v (N : Nat) (p : DT2) (b : Int) : Option (Int × (Int × Unit)) :=
 z7c N p b
 (fun p1 => some p1)
 (fun p2 => none)

def t_55 (N : Nat) : zae (Int × (Int × Unit)) := [([0], z19z N)]

theorem z117 (N : Nat) (x : z17 SQ7) : zf4 (E_55 N) (z36 N) N (t_55 N) L_55 Tryd.f87 46 TT0 (mkS SQ7 0 x) (fun z => some z) = z1v N x.1 x.2.1 := by kernel_rfl

def z22 (N : Nat) : List A -> PnRes := zf3 SQ7 (fun x => z1v N x.1 x.2.1) (fun z => ⟨TT0, z⟩)

theorem z2z (N : Nat) : ContractP Tryd.prog glob 87 46 (z22 N) :=
  ContractP.of (E := E_55 N) (Pn := z36 N) (H := t_55 N) (L := L_55) (N := N) (body := zra) (t := TT0) (z1ey N) (z6s N) Tryd.func87 (by kernel_rfl) (by decide) (fun _ hb => (TabOkP.cons (z16l hb (z6s N)) TabOkP.nil)) (fun x y h => by rw [z117]; exact h)

def z8y : Code := (Tryd.f86.body).getD .skip

def zzs : List (List Nat × List Nat) := [([0], [0]), ([0, 1], [0, 3]), ([0, 0, 1, 1], [12, 0, 3]), ([1, 0, 1, 1], [0, 3]), ([0, 1, 0, 1, 1], [0, 3]), ([0, 1, 1, 1], [0, 4, 3]), ([0, 0, 1, 1, 1, 1], [0, 4, 3]), (zxa, [37, 4, 0, 3]), (zx9, [4, 0, 3]), (z1e8, [0, 3, 4]), ([0, 0, 1, 0, 0, 0, 1, 1, 1, 1], [0, 4, 3]), ([1, 0, 1, 0, 0, 0, 1, 1, 1, 1], [0, 4, 3]), (zx4, [0, 4, 3]), ([0, 1, 1, 1, 1], [0, 3, 4]), (zm0, [75, 0, 3, 4]), (zx2, [4, 0, 3]), (zug, [4, 0, 3]), (zx7, [80, 0, 3, 4]), (zx6, [4, 0]), (zzp, [4, 0]), (zx3, [2, 0]), (zzo, [2, 0])]

def zyu (N : Nat) : Env := z1x tys glob [(92, zu N), (96, z5l N)] [] [] [0] false [] []

theorem z1ex (N : Nat) : EnvOk Tryd.prog (zyu N) := zg mixed zw (FnsOk.cons (z16 N) (FnsOk.cons (z90 N) (FnsOk.nil))) (ItsOk.nil)

def z14 (N : Nat) : PnT := pnT [(92, 46, z1n N), (41, 46, zm N)]

theorem z2y (N : Nat) : PnOk Tryd.prog glob (z14 N) := PnOk.cons (z28 N) (PnOk.cons (zq N) (PnOk.nil))

def z80 (N : Nat) (p : DT2) (from_ : Int) (k0 : (Int × (Int × Unit)) -> Option (Int × (Int × Unit))) (k1 : DT2 -> Option (Int × (Int × Unit))) : Option (Int × (Int × Unit)) :=
 orP ((z1u N p)) (fun z => k0 z)
 ((z19 N p).bind fun y =>
 (z5m N y.1).bind fun y1 =>
 cond (!y1)
 (k0 ((2 : Int), (from_, ())))
 (k1 y.2.1))

def z1cs (N : Nat) (x : z17 zzk) (K : ExP -> List A -> Option (Int × (Int × Unit))) : Option (Int × (Int × Unit)) :=
 z80 N x.1 x.2.1 (fun a0 => (K (.pan 46) (mkS [(0, .v TT0)] 0 (a0, ())))) (fun a0 => (K .normal (mkS zzk 81 (a0, x.2.1, ()))))

def z19y (N : Nat) : HdP (Int × (Int × Unit)) := fun st K => (unS zzk 81 (restr [0, 3] 0 st)).bind fun x => z1cs N x K

def t1_56 (N : Nat) : zae (Int × (Int × Unit)) := []

theorem z16k {N : Nat} {c : Ctx} (hb : Base Tryd.prog (zyu N) c) (hP : PnOk Tryd.prog glob (z14 N)) : z1r Tryd.prog c (ze z8y [0, 1, 1]) (z19y N) :=
  z1w (s := zzk) (m := 81) (g := z1cs N) [0, 3] (z1f hb hP N (t1_56 N) zzs z8y TabOkP.nil [0, 1, 1] _ rfl) (fun x K => by kernel_rfl)

def z7y (N : Nat) (p : DT2) (from_ : Int) (n : Int) (k0 : Option (Int × (Int × Unit))) (k1 : Option (Int × (Int × Unit))) : Option (Int × (Int × Unit)) :=
 cond (decide (p.2.1 < (((List.length p.1) : Nat) : Int)))
 (cond (inR p.2.1 (List.length p.1))
 ((z5m N (((UInt8.toNat (List.getD p.1 (Int.toNat p.2.1) (0 : UInt8))) : Nat) : Int)).bind fun y =>
 cond y
 (k0)
 (k1))
 (none))
 (k1)

def z1b8 (N : Nat) (x : z17 SQ1) (K : ExP -> List A -> Option (Int × (Int × Unit))) : Option (Int × (Int × Unit)) :=
 z7y N x.1 x.2.1 x.2.2.1 (K .normal (mkS SQ1 80 (x.1, x.2.1, x.2.2.1, ()))) (K (.exit 0) (mkS SQ1 80 (x.1, x.2.1, x.2.2.1, ())))

def z18e (N : Nat) : HdP (Int × (Int × Unit)) := fun st K => (unS SQ1 80 (restr [0, 4, 3] 0 st)).bind fun x => z1b8 N x K

def t4_56 (N : Nat) : zae (Int × (Int × Unit)) := []

theorem z150 {N : Nat} {c : Ctx} (hb : Base Tryd.prog (zyu N) c) (hP : PnOk Tryd.prog glob (z14 N)) : z1r Tryd.prog c (ze z8y z140) (z18e N) :=
  z1w (s := SQ1) (m := 80) (g := z1b8 N) [0, 4, 3] (z1f hb hP N (t4_56 N) zzs z8y TabOkP.nil z140 _ rfl) (fun x K => by kernel_rfl)

def z7v (N : Nat) (from_ : Int) (p : DT2) (n : Int) (rec : DT2 -> Int -> Option (Int × (Int × Unit))) (k0 : DT2 -> Int -> Option (Int × (Int × Unit))) : Option (Int × (Int × Unit)) :=
 z7y N p from_ n
 (cond (inR p.2.1 (List.length p.1))
 (rec (p.1, ((IntKind.wrap IntKind.i64 (p.2.1 + (1 : Int))), p.2.2)) (if ((17 : Int) < (IntKind.wrap IntKind.i64 ((IntKind.wrap IntKind.i64 ((10 : Int) * n)) + (IntKind.wrap IntKind.i64 (IntKind.wrap IntKind.u8 ((((UInt8.toNat (List.getD p.1 (Int.toNat p.2.1) (0 : UInt8))) : Nat) : Int) - (48 : Int))))))) then (17 : Int) else (IntKind.wrap IntKind.i64 ((IntKind.wrap IntKind.i64 ((10 : Int) * n)) + (IntKind.wrap IntKind.i64 (IntKind.wrap IntKind.u8 ((((UInt8.toNat (List.getD p.1 (Int.toNat p.2.1) (0 : UInt8))) : Nat) : Int) - (48 : Int))))))))
 (none))
 (k0 p n)

def zdh (N : Nat) (p : DT2) (from_ : Int) (n : Int) (k0 : DT2 -> Int -> Option (Int × (Int × Unit))) : Option (Int × (Int × Unit)) :=
 iter (fun (v : (DT2 × Int)) r => z7v N from_ v.1 v.2 (fun p n => (r (p, n))) k0) N (p, n)

def z1bg (N : Nat) (i : Int) (v : (DT2 × Int)) (r : (DT2 × Int) -> Option (Int × (Int × Unit))) (K : ExP -> List A -> Option (Int × (Int × Unit))) : Option (Int × (Int × Unit)) :=
 z7v N i v.1 v.2 (fun p n => (r (p, n))) (fun a0 a2 => (K (.exit 0) (mkS SQ1 80 (a0, i, a2, ()))))

def z18m (N : Nat) : HdP (Int × (Int × Unit)) := fun st K => (unS SQ1 80 (restr [0, 4, 3] 0 st)).bind fun x => iter (fun v r => z1bg N ((fun x => x.2.1) x) v r K) N ((fun x => (x.1, x.2.2.1)) x)

def t3_56 (N : Nat) : zae (Int × (Int × Unit)) := [(z140, z18e N)]

theorem z158 {N : Nat} {c : Ctx} (hb : Base Tryd.prog (zyu N) c) (hP : PnOk Tryd.prog glob (z14 N)) : z1r Tryd.prog c (ze z8y [0, 0, 1, 1, 1, 1]) (z18m N) :=
  zk5 (s := SQ1) (m := 80) (z1bg N) [0, 4, 3] N (fun x => x.2.1) (fun x => (x.1, x.2.2.1)) (fun i v => (v.1, i, v.2, ())) (fun _ => rfl) (z1f hb hP N (t3_56 N) zzs z8y (TabOkP.cons (z150 hb hP) TabOkP.nil) [0, 0, 0, 1, 1, 1, 1] _ rfl) (fun i v r K => by kernel_rfl)

def z7z (N : Nat) (p : DT2) (from_ : Int) (n : Int) (k0 : DT2 -> Int -> Option (Int × (Int × Unit))) : Option (Int × (Int × Unit)) :=
 zdh N p from_ n
 (fun p1 n1 => k0 p1 n1)

def z1bx (N : Nat) (x : z17 SQ1) (K : ExP -> List A -> Option (Int × (Int × Unit))) : Option (Int × (Int × Unit)) :=
 z7z N x.1 x.2.1 x.2.2.1 (fun a0 a2 => (K .normal (mkS SQ1 80 (a0, x.2.1, a2, ()))))

def z193 (N : Nat) : HdP (Int × (Int × Unit)) := fun st K => (unS SQ1 80 (restr [0, 4, 3] 0 st)).bind fun x => z1bx N x K

def t2_56 (N : Nat) : zae (Int × (Int × Unit)) := [([0, 0, 1, 1, 1, 1], z18m N)]

theorem z15p {N : Nat} {c : Ctx} (hb : Base Tryd.prog (zyu N) c) (hP : PnOk Tryd.prog glob (z14 N)) : z1r Tryd.prog c (ze z8y [0, 1, 1, 1, 1]) (z193 N) :=
  z1w (s := SQ1) (m := 80) (g := z1bx N) [0, 4, 3] (z1f hb hP N (t2_56 N) zzs z8y (TabOkP.cons (z158 hb hP) TabOkP.nil) [0, 1, 1, 1, 1] _ rfl) (fun x K => by kernel_rfl)

def z7w (N : Nat) (p : DT2) (from_ : Int) (n : Int) (k0 : Bool -> Option (Int × (Int × Unit))) : Option (Int × (Int × Unit)) :=
 cond (inR from_ (List.length p.1))
 (cond ((((UInt8.toNat (List.getD p.1 (Int.toNat from_) (0 : UInt8))) : Nat) : Int) == (48 : Int))
 (k0 (decide ((IntKind.wrap IntKind.i64 (from_ + (1 : Int))) < p.2.1)))
 (k0 false))
 (none)

def z1b2 (N : Nat) (x : z17 SQ1) (K : ExP -> List A -> Option (Int × (Int × Unit))) : Option (Int × (Int × Unit)) :=
 z7w N x.1 x.2.1 x.2.2.1 (fun a3 => (K .normal (mkS SQ81 9 (x.1, x.2.1, x.2.2.1, a3, ()))))

def z188 (N : Nat) : HdP (Int × (Int × Unit)) := fun st K => (unS SQ1 80 (restr [0, 3, 4] 0 st)).bind fun x => z1b2 N x K

def t6_56 (N : Nat) : zae (Int × (Int × Unit)) := []

theorem z14u {N : Nat} {c : Ctx} (hb : Base Tryd.prog (zyu N) c) (hP : PnOk Tryd.prog glob (z14 N)) : z1r Tryd.prog c (ze z8y zm0) (z188 N) :=
  z1w (s := SQ1) (m := 80) (g := z1b2 N) [0, 3, 4] (z1f hb hP N (t6_56 N) zzs z8y TabOkP.nil zm0 _ rfl) (fun x K => by kernel_rfl)

def z7x (N : Nat) (p : DT2) (from_ : Int) (n : Int) (k0 : (Int × (Int × Unit)) -> Option (Int × (Int × Unit))) (k1 : Option (Int × (Int × Unit))) : Option (Int × (Int × Unit)) :=
 z7w N p from_ n
 (fun x75 => cond x75
 (k0 ((2 : Int), (from_, ())))
 (k1))

def z1b4 (N : Nat) (x : z17 SQ1) (K : ExP -> List A -> Option (Int × (Int × Unit))) : Option (Int × (Int × Unit)) :=
 z7x N x.1 x.2.1 x.2.2.1 (fun a0 => (K (.pan 46) (mkS [(0, .v TT0)] 0 (a0, ())))) (K .normal (mkS SQ1 80 (x.1, x.2.1, x.2.2.1, ())))

def z18a (N : Nat) : HdP (Int × (Int × Unit)) := fun st K => (unS SQ1 80 (restr [0, 3, 4] 0 st)).bind fun x => z1b4 N x K

def t5_56 (N : Nat) : zae (Int × (Int × Unit)) := [(zm0, z188 N)]

theorem z14w {N : Nat} {c : Ctx} (hb : Base Tryd.prog (zyu N) c) (hP : PnOk Tryd.prog glob (z14 N)) : z1r Tryd.prog c (ze z8y [0, 1, 1, 1, 1, 1]) (z18a N) :=
  z1w (s := SQ1) (m := 80) (g := z1b4 N) [0, 3, 4] (z1f hb hP N (t5_56 N) zzs z8y (TabOkP.cons (z14u hb hP) TabOkP.nil) [0, 1, 1, 1, 1, 1] _ rfl) (fun x K => by kernel_rfl)

def z45 (N : Nat) (p : DT2) : Option (Int × (Int × Unit)) :=
 z80 N p p.2.1
 (fun p1 => some p1)
 (fun p2 => z7z N p2 p.2.1 (0 : Int)
 (fun p3 n => z7x N p3 p.2.1 n
 (fun p4 => some p4)
 (cond (decide ((16 : Int) < n))
 (some ((3 : Int), (p.2.1, ())))
 (none))))

def t_56 (N : Nat) : zae (Int × (Int × Unit)) := [([0, 1, 1], z19y N), ([0, 1, 1, 1, 1], z193 N), ([0, 1, 1, 1, 1, 1], z18a N)]

theorem z116 (N : Nat) (x : z17 SQ0) : zf4 (zyu N) (z14 N) N (t_56 N) zzs Tryd.f86 46 TT0 (mkS SQ0 0 x) (fun z => some z) = z45 N x.1 := by kernel_rfl

def z7a (N : Nat) : List A -> PnRes := zf3 SQ0 (fun x => z45 N x.1) (fun z => ⟨TT0, z⟩)

theorem zdi (N : Nat) : ContractP Tryd.prog glob 86 46 (z7a N) :=
  ContractP.of (E := zyu N) (Pn := z14 N) (H := t_56 N) (L := zzs) (N := N) (body := z8y) (t := TT0) (z1ex N) (z2y N) Tryd.func86 (by kernel_rfl) (by decide) (fun _ hb => (TabOkP.cons (z16k hb (z2y N)) (TabOkP.cons (z15p hb (z2y N)) (TabOkP.cons (z14w hb (z2y N)) TabOkP.nil)))) (fun x y h => by rw [z116]; exact h)

def zlp : Code := (Tryd.f94.body).getD .skip

def L_57 : List (List Nat × List Nat) := [([0], [0, 1]), ([0, 1], [0, 5, 1]), ([0, 1, 1], [5, 0, 1]), ([0, 0, 1, 1, 1], [16, 5, 0, 1]), ([1, 0, 1, 1, 1], [5, 0, 1]), (zxh, [4, 0]), (zue, [4, 0]), ([0, 0, 1, 1, 1, 1], [24, 0, 1, 5]), ([1, 0, 1, 1, 1, 1], [5, 0]), (z13b, [5, 0]), ([0, 1, 1, 1, 1, 1], [4, 0]), ([1, 1, 1, 1, 1, 1], [4, 0])]

def z1ga (N : Nat) : Env := z1x tys glob [(92, zu N), (96, z5l N)] [] [] [0] false [] []

theorem z1ew (N : Nat) : EnvOk Tryd.prog (z1ga N) := zg mixed zw (FnsOk.cons (z16 N) (FnsOk.cons (z90 N) (FnsOk.nil))) (ItsOk.nil)

def z2m (N : Nat) : PnT := pnT [(92, 46, z1n N), (41, 46, zm N)]

theorem z7i (N : Nat) : PnOk Tryd.prog glob (z2m N) := PnOk.cons (z28 N) (PnOk.cons (zq N) (PnOk.nil))

def z81 (N : Nat) (p : DT2) (from_ : Int) (b : Int) (k0 : Bool -> Option (Int × (Int × Unit))) : Option (Int × (Int × Unit)) :=
 cond (decide (b < (97 : Int)))
 (k0 true)
 (k0 (decide ((102 : Int) < b)))

def z1bw (N : Nat) (x : z17 SQ9) (K : ExP -> List A -> Option (Int × (Int × Unit))) : Option (Int × (Int × Unit)) :=
 z81 N x.1 x.2.1 x.2.2.1 (fun a3 => (K .normal (mkS [(0, .box (.pair .str TT0)), (0, .v (.int .i64)), (3, .v (.int .u8)), (18, .v .bool)] 6 (x.1, x.2.1, x.2.2.1, a3, ()))))

def z192 (N : Nat) : HdP (Int × (Int × Unit)) := fun st K => (unS SQ9 25 (restr [5, 0, 1] 0 st)).bind fun x => z1bw N x K

def t2_57 (N : Nat) : zae (Int × (Int × Unit)) := []

theorem z15o {N : Nat} {c : Ctx} (hb : Base Tryd.prog (z1ga N) c) (hP : PnOk Tryd.prog glob (z2m N)) : z1r Tryd.prog c (ze zlp [0, 0, 1, 1, 1, 1]) (z192 N) :=
  z1w (s := SQ9) (m := 25) (g := z1bw N) [5, 0, 1] (z1f hb hP N (t2_57 N) L_57 zlp TabOkP.nil [0, 0, 1, 1, 1, 1] _ rfl) (fun x K => by kernel_rfl)

def z82 (N : Nat) (p : DT2) (from_ : Int) (b : Int) (k0 : (Int × (Int × Unit)) -> Option (Int × (Int × Unit))) (k1 : Option (Int × (Int × Unit))) : Option (Int × (Int × Unit)) :=
 z81 N p from_ b
 (fun x24 => cond x24
 (k0 ((2 : Int), (from_, ())))
 (k1))

def z1cr (N : Nat) (x : z17 SQ9) (K : ExP -> List A -> Option (Int × (Int × Unit))) : Option (Int × (Int × Unit)) :=
 z82 N x.1 x.2.1 x.2.2.1 (fun a0 => (K (.pan 46) (mkS [(0, .v TT0)] 0 (a0, ())))) (K .normal (mkS [(0, .box (.pair .str TT0)), (4, .v (.int .u8))] 25 (x.1, x.2.2.1, ())))

def z19x (N : Nat) : HdP (Int × (Int × Unit)) := fun st K => (unS SQ9 25 (restr [5, 0, 1] 0 st)).bind fun x => z1cr N x K

def t1_57 (N : Nat) : zae (Int × (Int × Unit)) := [([0, 0, 1, 1, 1, 1], z192 N)]

theorem z16j {N : Nat} {c : Ctx} (hb : Base Tryd.prog (z1ga N) c) (hP : PnOk Tryd.prog glob (z2m N)) : z1r Tryd.prog c (ze zlp [0, 1, 1, 1, 1]) (z19x N) :=
  z1w (s := SQ9) (m := 25) (g := z1cr N) [5, 0, 1] (z1f hb hP N (t1_57 N) L_57 zlp (TabOkP.cons (z15o hb hP) TabOkP.nil) [0, 1, 1, 1, 1] _ rfl) (fun x K => by kernel_rfl)

def z46 (N : Nat) (p : DT2) (from_ : Int) : Option (Int × (Int × Unit)) :=
 orP ((z1u N p)) (fun z => some z)
 ((z19 N p).bind fun y =>
 (z5m N y.1).bind fun y1 =>
 cond y1
 (none)
 (z82 N (y.2.1.1, ((IntKind.wrap IntKind.i64 (y.2.1.2.1 + (1 : Int))), y.2.1.2.2)) from_ y.1
 (fun p1 => some p1)
 (none)))

def t_57 (N : Nat) : zae (Int × (Int × Unit)) := [([0, 1, 1, 1, 1], z19x N)]

theorem z115 (N : Nat) (x : z17 z13r) : zf4 (z1ga N) (z2m N) N (t_57 N) L_57 Tryd.f94 46 TT0 (mkS z13r 0 x) (fun z => some z) = z46 N x.1 x.2.1 := by kernel_rfl

def z7h (N : Nat) : List A -> PnRes := zf3 z13r (fun x => z46 N x.1 x.2.1) (fun z => ⟨TT0, z⟩)

theorem zdj (N : Nat) : ContractP Tryd.prog glob 94 46 (z7h N) :=
  ContractP.of (E := z1ga N) (Pn := z2m N) (H := t_57 N) (L := L_57) (N := N) (body := zlp) (t := TT0) (z1ew N) (z7i N) Tryd.func94 (by kernel_rfl) (by decide) (fun _ hb => (TabOkP.cons (z16j hb (z7i N)) TabOkP.nil)) (fun x y h => by rw [z115]; exact h)

def zr9 : Code := (Tryd.f84.body).getD .skip

def L_58 : List (List Nat × List Nat) := [([0], [0, 2]), ([0, 1], [0, 2, 4]), ([0, 1, 1], [0, 2, 4]), ([0, 1, 1, 1], [0, 5, 2, 4]), ([0, 1, 1, 1, 1], [5, 2, 0, 4]), ([0, 0, 0, 1, 1, 1, 1, 1], [22, 2, 0, 5, 4]), ([1, 0, 0, 1, 1, 1, 1, 1], [5, 2, 0]), ([0, 1, 1, 0, 0, 1, 1, 1, 1, 1], [26, 2, 0, 5, 4]), ([1, 1, 1, 0, 0, 1, 1, 1, 1, 1], [5, 2, 0]), ([0, 1, 1, 1, 1, 0, 0, 1, 1, 1, 1, 1], [30, 0, 4, 2, 5]), ([1, 1, 1, 1, 1, 0, 0, 1, 1, 1, 1, 1], [5, 2, 0]), ([0, 1, 1, 1, 1, 1, 1, 0, 0, 1, 1, 1, 1, 1], [42, 0, 4, 5, 2]), ([1, 1, 1, 1, 1, 1, 1, 0, 0, 1, 1, 1, 1, 1], [5, 2, 0]), ([0, 1, 1, 1, 1, 1, 1, 1, 0, 0, 1, 1, 1, 1, 1], [5, 2, 0]), ([0, 0, 1, 1, 1, 1, 1, 0, 0, 1, 1, 1, 1, 1], [6, 0, 4, 2]), ([1, 0, 1, 1, 1, 1, 1, 0, 0, 1, 1, 1, 1, 1], [5, 2, 0]), ([0, 0, 1, 1, 1, 0, 0, 1, 1, 1, 1, 1], [2, 3, 0]), ([1, 0, 1, 1, 1, 0, 0, 1, 1, 1, 1, 1], [2, 3, 0]), ([0, 0, 1, 0, 0, 1, 1, 1, 1, 1], [2, 3, 0]), ([1, 0, 1, 0, 0, 1, 1, 1, 1, 1], [2, 3, 0]), ([0, 1, 1, 1, 1, 1], [5, 2, 0]), (zx1, [2, 3, 0]), (z137, [2, 3, 0])]

def E_58 (N : Nat) : Env := z1x tys glob [(82, z2s N), (85, z2u N), (87, z1d N), (92, zu N), (93, z8w N), (94, z69 N)] [] [] [0] false [] []

theorem z1ev (N : Nat) : EnvOk Tryd.prog (E_58 N) := zg mixed zw (FnsOk.cons (z3r N) (FnsOk.cons (z44 N) (FnsOk.cons (z1p N) (FnsOk.cons (z16 N) (FnsOk.cons (zeb N) (FnsOk.cons (zb8 N) (FnsOk.nil))))))) (ItsOk.nil)

def z2r (N : Nat) : PnT := pnT [(94, 46, z7h N), (87, 46, z22 N), (92, 46, z1n N), (41, 46, zm N)]

theorem z5h (N : Nat) : PnOk Tryd.prog glob (z2r N) := PnOk.cons (zdj N) (PnOk.cons (z2z N) (PnOk.cons (z28 N) (PnOk.cons (zq N) (PnOk.nil))))

def z63 (N : Nat) (p : DT2) (set_ : (List Int)) (from_ : Int) (b : Int) (k0 : (List Int) -> Bool -> Option (Int × (Int × Unit))) (k1 : (Int × (Int × Unit)) -> Option (Int × (Int × Unit))) (k2 : DT2 -> Int -> Option (Int × (Int × Unit))) : Option (Int × (Int × Unit)) :=
 cond (b == (100 : Int))
 ((z32 N (48 : Int) (57 : Int)).bind fun y =>
 k0 y true)
 (cond (b == (119 : Int))
 ((zal N ((48 : UInt8) :: (49 : UInt8) :: (50 : UInt8) :: (51 : UInt8) :: (52 : UInt8) :: (53 : UInt8) :: (54 : UInt8) :: (55 : UInt8) :: (56 : UInt8) :: (57 : UInt8) :: (65 : UInt8) :: (66 : UInt8) :: (67 : UInt8) :: (68 : UInt8) :: (69 : UInt8) :: (70 : UInt8) :: (71 : UInt8) :: (72 : UInt8) :: (73 : UInt8) :: (74 : UInt8) :: (75 : UInt8) :: (76 : UInt8) :: (77 : UInt8) :: (78 : UInt8) :: (79 : UInt8) :: (80 : UInt8) :: (81 : UInt8) :: (82 : UInt8) :: (83 : UInt8) :: (84 : UInt8) :: (85 : UInt8) :: (86 : UInt8) :: (87 : UInt8) :: (88 : UInt8) :: (89 : UInt8) :: (90 : UInt8) :: (95 : UInt8) :: (97 : UInt8) :: (98 : UInt8) :: (99 : UInt8) :: (100 : UInt8) :: (101 : UInt8) :: (102 : UInt8) :: (103 : UInt8) :: (104 : UInt8) :: (105 : UInt8) :: (106 : UInt8) :: (107 : UInt8) :: (108 : UInt8) :: (109 : UInt8) :: (110 : UInt8) :: (111 : UInt8) :: (112 : UInt8) :: (113 : UInt8) :: (114 : UInt8) :: (115 : UInt8) :: (116 : UInt8) :: (117 : UInt8) :: (118 : UInt8) :: (119 : UInt8) :: (120 : UInt8) :: (121 : UInt8) :: (122 : UInt8) :: ([] : List UInt8))).bind fun y1 =>
 k0 y1 true)
 (cond (b == (120 : Int))
 (orP ((z46 N p from_)) (fun z => k1 z)
 ((z3m N p from_).bind fun y2 =>
 orP ((z46 N y2.2.1 from_)) (fun z1 => k1 z1)
 ((z3m N y2.2.1 from_).bind fun y3 =>
 k2 y3.2.1 (z67 Go.BinOp.or IntKind.u8 (z14m IntKind.u8 y2.1 (4 : Int)) y3.1))))
 (cond (decide ((Go.Lib.indexByte ([(92 : UInt8), (46 : UInt8), (91 : UInt8), (93 : UInt8), (40 : UInt8), (41 : UInt8), (123 : UInt8), (125 : UInt8), (124 : UInt8), (42 : UInt8), (43 : UInt8), (63 : UInt8), (45 : UInt8), (94 : UInt8)] : List UInt8) (Nat.toUInt8 (Int.toNat b))) < (0 : Int)))
 (k1 ((2 : Int), (from_, ())))
 (k2 p b))))

def z1cq (N : Nat) (x : z17 z13w) (K : ExP -> List A -> Option (Int × (Int × Unit))) : Option (Int × (Int × Unit)) :=
 z63 N x.1 x.2.1 x.2.2.1 x.2.2.2.1 (fun a1 a2 => (K .ret (mkS SQ34 48 (x.1, a1, a2, ())))) (fun a0 => (K (.pan 46) (mkS [(0, .v TT0)] 0 (a0, ())))) (fun a0 a2 => (K .normal (mkS [(0, .box (.pair .str TT0)), (1, .box (.arr 4 (.int .u64))), (2, .v (.int .u8))] 46 (a0, x.2.1, a2, ()))))

def z19w (N : Nat) : HdP (Int × (Int × Unit)) := fun st K => (unS z13w 46 (restr [5, 2, 0, 4] 0 st)).bind fun x => z1cq N x K

def t1_58 (N : Nat) : zae (Int × (Int × Unit)) := []

theorem z16i {N : Nat} {c : Ctx} (hb : Base Tryd.prog (E_58 N) c) (hP : PnOk Tryd.prog glob (z2r N)) : z1r Tryd.prog c (ze zr9 [0, 1, 1, 1, 1, 1]) (z19w N) :=
  z1w (s := z13w) (m := 46) (g := z1cq N) [5, 2, 0, 4] (z1f hb hP N (t1_58 N) L_58 zr9 TabOkP.nil [0, 1, 1, 1, 1, 1] _ rfl) (fun x K => by kernel_rfl)

def z37 (N : Nat) (p : DT2) : Option (Int × (Int × Unit)) :=
 orP ((z1v N p (92 : Int))) (fun z => some z)
 ((z1a N p (92 : Int)).bind fun y =>
 orP ((z1u N y.2.1)) (fun z1 => some z1)
 ((z19 N y.2.1).bind fun y1 =>
 z63 N (y1.2.1.1, ((IntKind.wrap IntKind.i64 (y1.2.1.2.1 + (1 : Int))), y1.2.1.2.2)) ([(0 : Int), (0 : Int), (0 : Int), (0 : Int)] : List Int) p.2.1 y1.1
 (fun set_ class_ => none)
 (fun p1 => some p1)
 (fun p2 b => (z32 N b b).bind fun y2 =>
 none)))

def t_58 (N : Nat) : zae (Int × (Int × Unit)) := [([0, 1, 1, 1, 1, 1], z19w N)]

theorem z114 (N : Nat) (x : z17 SQ0) : zf4 (E_58 N) (z2r N) N (t_58 N) L_58 Tryd.f84 46 TT0 (mkS SQ0 0 x) (fun z => some z) = z37 N x.1 := by kernel_rfl

def z3g (N : Nat) : List A -> PnRes := zf3 SQ0 (fun x => z37 N x.1) (fun z => ⟨TT0, z⟩)

theorem z64 (N : Nat) : ContractP Tryd.prog glob 84 46 (z3g N) :=
  ContractP.of (E := E_58 N) (Pn := z2r N) (H := t_58 N) (L := L_58) (N := N) (body := zr9) (t := TT0) (z1ev N) (z5h N) Tryd.func84 (by kernel_rfl) (by decide) (fun _ hb => (TabOkP.cons (z16i hb (z5h N)) TabOkP.nil)) (fun x y h => by rw [z114]; exact h)

def zlo : Code := (Tryd.f97.body).getD .skip

def L_59 : List (List Nat × List Nat) := [([0], [0, 2]), ([0, 1], [4, 0, 2]), ([0, 0, 1, 1], [7, 0, 2, 4]), ([0, 0, 1, 0, 1, 1], [8, 0, 2, 7, 4]), ([1, 0, 1, 0, 1, 1], [0, 4, 2]), ([0, 0, 1, 1, 0, 1, 0, 1, 1], [14, 0, 4, 2, 7]), ([1, 0, 1, 1, 0, 1, 0, 1, 1], [14, 0, 4, 2]), ([0, 1, 1, 0, 1, 1, 0, 1, 0, 1, 1], [14, 0, 4, 2, 7]), ([1, 1, 1, 0, 1, 1, 0, 1, 0, 1, 1], [14, 0, 4, 2]), ([0, 1, 1, 1, 1, 0, 1, 1, 0, 1, 0, 1, 1], [14, 0, 4, 2, 7]), ([1, 1, 1, 1, 1, 0, 1, 1, 0, 1, 0, 1, 1], [14, 0, 4, 2]), ([1, 1, 1, 1, 1, 1, 0, 1, 1, 0, 1, 0, 1, 1], [14, 0, 4, 2]), ([1, 1, 1, 0, 1, 0, 1, 1], [0, 4, 2]), ([0, 1, 1, 1, 0, 1, 0, 1, 1], [0, 4, 2]), ([0, 0, 1, 0, 1, 0, 1, 1], [2, 3, 0]), ([1, 0, 1, 0, 1, 0, 1, 1], [2, 3, 0]), ([1, 0, 1, 1], [0, 4, 2]), ([0, 1, 1, 1], [4, 2, 0]), ([0, 1, 1, 1, 1], [2, 3, 0]), ([1, 1, 1, 1, 1], [2, 3, 0])]

def z1g9 (N : Nat) : Env := z1x tys glob [(82, z2s N), (84, z2d N), (92, zu N)] [] [] [0] false [] []

theorem z1eu (N : Nat) : EnvOk Tryd.prog (z1g9 N) := zg mixed zw (FnsOk.cons (z3r N) (FnsOk.cons (z3j N) (FnsOk.cons (z16 N) (FnsOk.nil)))) (ItsOk.nil)

def z2c (N : Nat) : PnT := pnT [(84, 46, z3g N), (92, 46, z1n N), (41, 46, zm N)]

theorem z6p (N : Nat) : PnOk Tryd.prog glob (z2c N) := PnOk.cons (z64 N) (PnOk.cons (z28 N) (PnOk.cons (zq N) (PnOk.nil)))

def z78 (N : Nat) (p : DT2) (set_ : (List Int)) (b : Int) (x7 : Int) (k0 : Bool -> Option (Int × (Int × Unit))) : Option (Int × (Int × Unit)) :=
 cond (x7 == (91 : Int))
 (k0 (x7 == (91 : Int)))
 (cond (x7 == (93 : Int))
 (k0 (x7 == (93 : Int)))
 (cond (x7 == (45 : Int))
 (k0 (x7 == (45 : Int)))
 (k0 (x7 == (94 : Int)))))

def z1bv (N : Nat) (x : z17 z13v) (K : ExP -> List A -> Option (Int × (Int × Unit))) : Option (Int × (Int × Unit)) :=
 z78 N x.1 x.2.1 x.2.2.1 x.2.2.2.1 (fun a3 => (K .normal (mkS SQ71 20 (x.1, x.2.1, x.2.2.1, a3, ()))))

def z191 (N : Nat) : HdP (Int × (Int × Unit)) := fun st K => (unS z13v 27 (restr [7, 0, 4, 2] 0 st)).bind fun x => z1bv N x K

def t2_59 (N : Nat) : zae (Int × (Int × Unit)) := []

theorem z15n {N : Nat} {c : Ctx} (hb : Base Tryd.prog (z1g9 N) c) (hP : PnOk Tryd.prog glob (z2c N)) : z1r Tryd.prog c (ze zlo z13d) (z191 N) :=
  z1w (s := z13v) (m := 27) (g := z1bv N) [7, 0, 4, 2] (z1f hb hP N (t2_59 N) L_59 zlo TabOkP.nil z13d _ rfl) (fun x K => by kernel_rfl)

def z79 (N : Nat) (p : DT2) (set_ : (List Int)) (b : Int) (k0 : (Int × (Int × Unit)) -> Option (Int × (Int × Unit))) (k1 : DT2 -> (List Int) -> Bool -> Option (Int × (Int × Unit))) (k2 : Option (Int × (Int × Unit))) : Option (Int × (Int × Unit)) :=
 cond (b == (92 : Int))
 (orP ((z37 N p)) (fun z => k0 z)
 ((z2n N p).bind fun y =>
 k1 y.2.1 y.1.1 y.1.2.1))
 (z78 N p set_ b b
 (fun x14 => cond x14
 (k0 ((2 : Int), (p.2.1, ())))
 (k2)))

def z1cp (N : Nat) (x : z17 zzm) (K : ExP -> List A -> Option (Int × (Int × Unit))) : Option (Int × (Int × Unit)) :=
 z79 N x.1 x.2.1 x.2.2.1 (fun a0 => (K (.pan 46) (mkS [(0, .v TT0)] 0 (a0, ())))) (fun a0 a1 a2 => (K .ret (mkS SQ34 31 (a0, a1, a2, ())))) (K .normal (mkS zzm 30 (x.1, x.2.1, x.2.2.1, ())))

def z19v (N : Nat) : HdP (Int × (Int × Unit)) := fun st K => (unS zzm 30 (restr [4, 0, 2] 0 st)).bind fun x => z1cp N x K

def t1_59 (N : Nat) : zae (Int × (Int × Unit)) := [(z13d, z191 N)]

theorem z16h {N : Nat} {c : Ctx} (hb : Base Tryd.prog (z1g9 N) c) (hP : PnOk Tryd.prog glob (z2c N)) : z1r Tryd.prog c (ze zlo [0, 1, 1]) (z19v N) :=
  z1w (s := zzm) (m := 30) (g := z1cp N) [4, 0, 2] (z1f hb hP N (t1_59 N) L_59 zlo (TabOkP.cons (z15n hb hP) TabOkP.nil) [0, 1, 1] _ rfl) (fun x K => by kernel_rfl)

def z3o (N : Nat) (p : DT2) : Option (Int × (Int × Unit)) :=
 orP ((z1u N p)) (fun z => some z)
 ((z19 N p).bind fun y =>
 z79 N y.2.1 ([(0 : Int), (0 : Int), (0 : Int), (0 : Int)] : List Int) y.1
 (fun p1 => some p1)
 (fun p2 set_ class_ => none)
 ((z32 N y.1 y.1).bind fun y1 =>
 none))

def t_59 (N : Nat) : zae (Int × (Int × Unit)) := [([0, 1, 1], z19v N)]

theorem z113 (N : Nat) (x : z17 SQ0) : zf4 (z1g9 N) (z2c N) N (t_59 N) L_59 Tryd.f97 46 TT0 (mkS SQ0 0 x) (fun z => some z) = z3o N x.1 := by kernel_rfl

def z6o (N : Nat) : List A -> PnRes := zf3 SQ0 (fun x => z3o N x.1) (fun z => ⟨TT0, z⟩)

theorem zcu (N : Nat) : ContractP Tryd.prog glob 97 46 (z6o N) :=
  ContractP.of (E := z1g9 N) (Pn := z2c N) (H := t_59 N) (L := L_59) (N := N) (body := zlo) (t := TT0) (z1eu N) (z6p N) Tryd.func97 (by kernel_rfl) (by decide) (fun _ hb => (TabOkP.cons (z16h hb (z6p N)) TabOkP.nil)) (fun x y h => by rw [z113]; exact h)

def ze0 : Code := (Tryd.f89.body).getD .skip

def z142 : List (List Nat × List Nat) := [([0], [0, 2]), ([0, 1], [4, 0, 3, 2]), ([0, 0, 1, 1], [17, 3, 2, 0]), ([1, 0, 1, 1], [0, 3, 2]), ([0, 0, 1, 0, 1, 1], [2, 0]), ([1, 0, 1, 0, 1, 1], [2, 0]), ([0, 1, 1, 1], [0, 3, 5, 2]), ([0, 1, 1, 1, 1], [4, 6, 3, 0, 5, 2]), (zm0, [35, 0, 5, 3, 6, 2]), (zx2, [3, 6, 2, 0]), (zug, [3, 6, 2, 0]), (zx1, [2, 0]), (z137, [2, 0])]

def z13i (N : Nat) : Env := z1x tys glob [(57, z1c N), (82, z2s N), (97, z5f N), (98, z8x N)] [] [] [0] false [] []

theorem z1et (N : Nat) : EnvOk Tryd.prog (z13i N) := zg mixed zw (FnsOk.cons (z1o N) (FnsOk.cons (z3r N) (FnsOk.cons (za0 N) (FnsOk.cons (zed N) (FnsOk.nil))))) (ItsOk.nil)

def z1k (N : Nat) : PnT := pnT [(97, 46, z6o N), (41, 46, zm N)]

theorem z3t (N : Nat) : PnOk Tryd.prog glob (z1k N) := PnOk.cons (zcu N) (PnOk.cons (zq N) (PnOk.nil))

def z7f (N : Nat) (p : DT2) (x2 : (List Int)) (first : (List Int)) (class_ : Bool) (k0 : DT2 -> Bool -> Option (Int × (Int × Unit))) : Option (Int × (Int × Unit)) :=
 cond class_
 (k0 p true)
 ((zy N p (45 : Int)).bind fun y =>
 k0 y.2.1 (!y.1))

def z1bu (N : Nat) (x : z17 SQ4) (K : ExP -> List A -> Option (Int × (Int × Unit))) : Option (Int × (Int × Unit)) :=
 z7f N x.1 x.2.1 x.2.2.1 x.2.2.2.1 (fun a0 a3 => (K .normal (mkS SQ62 28 (a0, x.2.1, x.2.2.1, a3, ()))))

def z190 (N : Nat) : HdP (Int × (Int × Unit)) := fun st K => (unS SQ4 41 (restr [4, 0, 3, 2] 0 st)).bind fun x => z1bu N x K

def t2_60 (N : Nat) : zae (Int × (Int × Unit)) := []

theorem z15m {N : Nat} {c : Ctx} (hb : Base Tryd.prog (z13i N) c) (hP : PnOk Tryd.prog glob (z1k N)) : z1r Tryd.prog c (ze ze0 [0, 0, 1, 1]) (z190 N) :=
  z1w (s := SQ4) (m := 41) (g := z1bu N) [4, 0, 3, 2] (z1f hb hP N (t2_60 N) z142 ze0 TabOkP.nil [0, 0, 1, 1] _ rfl) (fun x K => by kernel_rfl)

def z7g (N : Nat) (p : DT2) (x2 : (List Int)) (first : (List Int)) (class_ : Bool) (k0 : DT2 -> Option (Int × (Int × Unit))) (k1 : DT2 -> Option (Int × (Int × Unit))) : Option (Int × (Int × Unit)) :=
 z7f N p x2 first class_
 (fun p1 x17 => cond x17
 (k0 p1)
 (k1 p1))

def z1co (N : Nat) (x : z17 SQ4) (K : ExP -> List A -> Option (Int × (Int × Unit))) : Option (Int × (Int × Unit)) :=
 z7g N x.1 x.2.1 x.2.2.1 x.2.2.2.1 (fun a0 => (K .ret (mkS [(0, .box (.pair .str TT0)), (1, .box (.arr 4 (.int .u64)))] 43 (a0, x.2.2.1, ())))) (fun a0 => (K .normal (mkS SQ74 42 (a0, x.2.1, x.2.2.1, ()))))

def z19u (N : Nat) : HdP (Int × (Int × Unit)) := fun st K => (unS SQ4 41 (restr [4, 0, 3, 2] 0 st)).bind fun x => z1co N x K

def t1_60 (N : Nat) : zae (Int × (Int × Unit)) := [([0, 0, 1, 1], z190 N)]

theorem z16g {N : Nat} {c : Ctx} (hb : Base Tryd.prog (z13i N) c) (hP : PnOk Tryd.prog glob (z1k N)) : z1r Tryd.prog c (ze ze0 [0, 1, 1]) (z19u N) :=
  z1w (s := SQ4) (m := 41) (g := z1co N) [4, 0, 3, 2] (z1f hb hP N (t1_60 N) z142 ze0 (TabOkP.cons (z15m hb hP) TabOkP.nil) [0, 1, 1] _ rfl) (fun x K => by kernel_rfl)

def z7d (N : Nat) (p : DT2) (x2 : (List Int)) (first : (List Int)) (class_ : Bool) (from_ : Int) (last : (List Int)) (k0 : Bool -> Option (Int × (Int × Unit))) : Option (Int × (Int × Unit)) :=
 cond class_
 (k0 true)
 ((z2t N last).bind fun y =>
 (z2t N first).bind fun y1 =>
 k0 (decide (y < y1)))

def z1b7 (N : Nat) (x : z17 SQ2) (K : ExP -> List A -> Option (Int × (Int × Unit))) : Option (Int × (Int × Unit)) :=
 z7d N x.1 x.2.1 x.2.2.1 x.2.2.2.1 x.2.2.2.2.1 x.2.2.2.2.2.1 (fun a5 => (K .normal (mkS SQ30 10 (x.1, x.2.1, x.2.2.1, x.2.2.2.2.1, x.2.2.2.2.2.1, a5, ()))))

def z18d (N : Nat) : HdP (Int × (Int × Unit)) := fun st K => (unS SQ2 39 (restr [4, 6, 3, 0, 5, 2] 0 st)).bind fun x => z1b7 N x K

def t4_60 (N : Nat) : zae (Int × (Int × Unit)) := []

theorem z14z {N : Nat} {c : Ctx} (hb : Base Tryd.prog (z13i N) c) (hP : PnOk Tryd.prog glob (z1k N)) : z1r Tryd.prog c (ze ze0 zm0) (z18d N) :=
  z1w (s := SQ2) (m := 39) (g := z1b7 N) [4, 6, 3, 0, 5, 2] (z1f hb hP N (t4_60 N) z142 ze0 TabOkP.nil zm0 _ rfl) (fun x K => by kernel_rfl)

def z7e (N : Nat) (p : DT2) (x2 : (List Int)) (first : (List Int)) (class_ : Bool) (from_ : Int) (last : (List Int)) (k0 : (Int × (Int × Unit)) -> Option (Int × (Int × Unit))) (k1 : Option (Int × (Int × Unit))) : Option (Int × (Int × Unit)) :=
 z7d N p x2 first class_ from_ last
 (fun x35 => cond x35
 (k0 ((2 : Int), (from_, ())))
 (k1))

def z1bf (N : Nat) (x : z17 SQ2) (K : ExP -> List A -> Option (Int × (Int × Unit))) : Option (Int × (Int × Unit)) :=
 z7e N x.1 x.2.1 x.2.2.1 x.2.2.2.1 x.2.2.2.2.1 x.2.2.2.2.2.1 (fun a0 => (K (.pan 46) (mkS [(0, .v TT0)] 0 (a0, ())))) (K .normal (mkS SQ45 39 (x.1, x.2.1, x.2.2.1, x.2.2.2.2.2.1, ())))

def z18l (N : Nat) : HdP (Int × (Int × Unit)) := fun st K => (unS SQ2 39 (restr [4, 6, 3, 0, 5, 2] 0 st)).bind fun x => z1bf N x K

def t3_60 (N : Nat) : zae (Int × (Int × Unit)) := [(zm0, z18d N)]

theorem z157 {N : Nat} {c : Ctx} (hb : Base Tryd.prog (z13i N) c) (hP : PnOk Tryd.prog glob (z1k N)) : z1r Tryd.prog c (ze ze0 [0, 1, 1, 1, 1, 1]) (z18l N) :=
  z1w (s := SQ2) (m := 39) (g := z1bf N) [4, 6, 3, 0, 5, 2] (z1f hb hP N (t3_60 N) z142 ze0 (TabOkP.cons (z14z hb hP) TabOkP.nil) [0, 1, 1, 1, 1, 1] _ rfl) (fun x K => by kernel_rfl)

def z3p (N : Nat) (p : DT2) : Option (Int × (Int × Unit)) :=
 orP ((z3o N p)) (fun z => some z)
 ((z3a N p).bind fun y =>
 z7g N y.2.1 ([(0 : Int), (0 : Int), (0 : Int), (0 : Int)] : List Int) y.1.1 y.1.2.1
 (fun p1 => none)
 (fun p2 => orP ((z3o N p2)) (fun z1 => some z1)
 ((z3a N p2).bind fun y1 =>
 z7e N y1.2.1 ([(0 : Int), (0 : Int), (0 : Int), (0 : Int)] : List Int) y.1.1 y1.1.2.1 p2.2.1 y1.1.1
 (fun p3 => some p3)
 ((z2t N y.1.1).bind fun y2 =>
 (z2t N y1.1.1).bind fun y3 =>
 (z32 N (IntKind.wrap IntKind.u8 y2) (IntKind.wrap IntKind.u8 y3)).bind fun y4 =>
 none))))

def t_60 (N : Nat) : zae (Int × (Int × Unit)) := [([0, 1, 1], z19u N), ([0, 1, 1, 1, 1, 1], z18l N)]

theorem z112 (N : Nat) (x : z17 SQ0) : zf4 (z13i N) (z1k N) N (t_60 N) z142 Tryd.f89 46 TT0 (mkS SQ0 0 x) (fun z => some z) = z3p N x.1 := by kernel_rfl

def z6t (N : Nat) : List A -> PnRes := zf3 SQ0 (fun x => z3p N x.1) (fun z => ⟨TT0, z⟩)

theorem zcv (N : Nat) : ContractP Tryd.prog glob 89 46 (z6t N) :=
  ContractP.of (E := z13i N) (Pn := z1k N) (H := t_60 N) (L := z142) (N := N) (body := ze0) (t := TT0) (z1et N) (z3t N) Tryd.func89 (by kernel_rfl) (by decide) (fun _ hb => (TabOkP.cons (z16g hb (z3t N)) (TabOkP.cons (z157 hb (z3t N)) TabOkP.nil))) (fun x y h => by rw [z112]; exact h)

def zr8 : Code := (Tryd.f83.body).getD .skip

def L_61 : List (List Nat × List Nat) := [([0], [0, 2]), ([0, 1], [0, 2]), ([0, 1, 1], [0, 3, 2]), ([0, 1, 1, 1], [0, 4, 3, 2]), ([0, 0, 1, 1, 1, 1], [0, 4, 3, 2]), (zxa, [13, 4, 0, 3, 2]), (zx9, [4, 0, 3, 2]), (z1e8, [3, 4, 2, 0]), ([0, 1, 0, 0, 0, 1, 1, 1, 1], [0, 4, 3, 2]), (zx4, [0, 4, 3, 2]), ([0, 1, 1, 1, 1], [3, 4, 2, 0]), (zm0, [18, 4, 2, 0]), (zx2, [4, 2, 0]), (zxb, [2, 0]), ([1, 0, 1, 0, 1, 1, 1, 1, 1], [2, 0]), (zx1, [2, 0]), (z137, [2, 0])]

def E_61 (N : Nat) : Env := z1x tys glob [(57, z1c N), (87, z1d N), (89, z5g N), (90, zcl N), (91, zbo N)] [] [] [0] false [] []

theorem z1es (N : Nat) : EnvOk Tryd.prog (E_61 N) := zg mixed zw (FnsOk.cons (z1o N) (FnsOk.cons (z1p N) (FnsOk.cons (za7 N) (FnsOk.cons (zic N) (FnsOk.cons (zgk N) (FnsOk.nil)))))) (ItsOk.nil)

def z2e (N : Nat) : PnT := pnT [(89, 46, z6t N), (87, 46, z22 N)]

theorem z4r (N : Nat) : PnOk Tryd.prog glob (z2e N) := PnOk.cons (zcv N) (PnOk.cons (z2z N) (PnOk.nil))

def z58 (N : Nat) (x2 : (List Int)) (not_ : Bool) (p : DT2) (set_ : (List Int)) (rec : DT2 -> (List Int) -> Option (Int × (Int × Unit))) (k0 : (Int × (Int × Unit)) -> Option (Int × (Int × Unit))) (k1 : DT2 -> (List Int) -> Option (Int × (Int × Unit))) : Option (Int × (Int × Unit)) :=
 (zy N p (93 : Int)).bind fun y =>
 cond (!y.1)
 (orP ((z3p N y.2.1)) (fun z => k0 z)
 ((z3b N y.2.1).bind fun y1 =>
 (zfr N set_ y1.1).bind fun y2 =>
 rec y1.2.1 y2))
 (k1 y.2.1 set_)

def zaf (N : Nat) (p : DT2) (x2 : (List Int)) (not_ : Bool) (set_ : (List Int)) (k0 : (Int × (Int × Unit)) -> Option (Int × (Int × Unit))) (k1 : DT2 -> (List Int) -> Option (Int × (Int × Unit))) : Option (Int × (Int × Unit)) :=
 iter (fun (v : (DT2 × (List Int))) r => z58 N x2 not_ v.1 v.2 (fun p set_ => (r (p, set_))) k0 k1) N (p, set_)

def z1cn (N : Nat) (i : ((List Int) × Bool)) (v : (DT2 × (List Int))) (r : (DT2 × (List Int)) -> Option (Int × (Int × Unit))) (K : ExP -> List A -> Option (Int × (Int × Unit))) : Option (Int × (Int × Unit)) :=
 z58 N i.1 i.2 v.1 v.2 (fun p set_ => (r (p, set_))) (fun a0 => (K (.pan 46) (mkS [(0, .v TT0)] 0 (a0, ())))) (fun a0 a3 => (K (.exit 0) (mkS z13x 17 (a0, i.1, i.2, a3, ()))))

def z19t (N : Nat) : HdP (Int × (Int × Unit)) := fun st K => (unS z13x 17 (restr [0, 4, 3, 2] 0 st)).bind fun x => iter (fun v r => z1cn N ((fun x => (x.2.1, x.2.2.1)) x) v r K) N ((fun x => (x.1, x.2.2.2.1)) x)

def t1_61 (N : Nat) : zae (Int × (Int × Unit)) := []

theorem z16f {N : Nat} {c : Ctx} (hb : Base Tryd.prog (E_61 N) c) (hP : PnOk Tryd.prog glob (z2e N)) : z1r Tryd.prog c (ze zr8 [0, 0, 1, 1, 1, 1]) (z19t N) :=
  zk5 (s := z13x) (m := 17) (z1cn N) [0, 4, 3, 2] N (fun x => (x.2.1, x.2.2.1)) (fun x => (x.1, x.2.2.2.1)) (fun i v => (v.1, i.1, i.2, v.2, ())) (fun _ => rfl) (z1f hb hP N (t1_61 N) L_61 zr8 TabOkP.nil [0, 0, 0, 1, 1, 1, 1] _ rfl) (fun i v r K => by kernel_rfl)

def z3v (N : Nat) (p : DT2) : Option (Int × (Int × Unit)) :=
 orP ((z1v N p (91 : Int))) (fun z => some z)
 ((z1a N p (91 : Int)).bind fun y =>
 (zy N y.2.1 (94 : Int)).bind fun y1 =>
 orP ((z3p N y1.2.1)) (fun z1 => some z1)
 ((z3b N y1.2.1).bind fun y2 =>
 zaf N y2.2.1 ([(0 : Int), (0 : Int), (0 : Int), (0 : Int)] : List Int) y1.1 y2.1
 (fun p1 => some p1)
 (fun p2 set_ => cond y1.1
 ((zdy N set_).bind fun y3 =>
 none)
 (none))))

def t_61 (N : Nat) : zae (Int × (Int × Unit)) := [([0, 0, 1, 1, 1, 1], z19t N)]

theorem z111 (N : Nat) (x : z17 SQ0) : zf4 (E_61 N) (z2e N) N (t_61 N) L_61 Tryd.f83 46 TT0 (mkS SQ0 0 x) (fun z => some z) = z3v N x.1 := by kernel_rfl

def z4q (N : Nat) : List A -> PnRes := zf3 SQ0 (fun x => z3v N x.1) (fun z => ⟨TT0, z⟩)

theorem zag (N : Nat) : ContractP Tryd.prog glob 83 46 (z4q N) :=
  ContractP.of (E := E_61 N) (Pn := z2e N) (H := t_61 N) (L := L_61) (N := N) (body := zr8) (t := TT0) (z1es N) (z4r N) Tryd.func83 (by kernel_rfl) (by decide) (fun _ hb => (TabOkP.cons (z16f hb (z4r N)) TabOkP.nil)) (fun x y h => by rw [z111]; exact h)

def zln : Code := (Tryd.f72.body).getD .skip

def L_62 : List (List Nat × List Nat) := [([0], [0]), ([0, 1], [0, 4]), ([0, 1, 1], [2, 0, 4]), ([0, 1, 1, 1], [0, 2, 3, 4]), ([0, 0, 1, 1, 1, 1], [13, 0, 2, 3, 4]), ([1, 0, 1, 1, 1, 1], [3, 2, 0, 4]), ([0, 0, 0, 1, 0, 1, 1, 1, 1], [15, 2, 0]), ([1, 0, 0, 1, 0, 1, 1, 1, 1], [0, 2]), ([0, 0, 1, 0, 0, 1, 0, 1, 1, 1, 1], [2, 3, 0]), ([1, 0, 1, 0, 0, 1, 0, 1, 1, 1, 1], [2, 3, 0]), ([0, 1, 0, 1, 0, 1, 1, 1, 1], [0, 2, 4]), ([1, 1, 0, 1, 0, 1, 1, 1, 1], [3, 2, 0, 4]), (zm0, [26, 0, 4, 2, 3]), (zx2, [0, 2, 3]), (zug, [0, 2, 3]), (zx1, [2, 3, 0]), (zx3, [2, 3, 0]), (zzo, [2, 3, 0])]

def z1g8 (N : Nat) : Env := z1x tys glob [(57, z1c N), (86, z68 N), (87, z1d N)] [] [] [0] false [] []

theorem z1er (N : Nat) : EnvOk Tryd.prog (z1g8 N) := zg mixed zw (FnsOk.cons (z1o N) (FnsOk.cons (zb5 N) (FnsOk.cons (z1p N) (FnsOk.nil)))) (ItsOk.nil)

def z23 (N : Nat) : PnT := pnT [(86, 46, z7a N), (87, 46, z22 N), (41, 46, zm N)]

theorem z3h (N : Nat) : PnOk Tryd.prog glob (z23 N) := PnOk.cons (zdi N) (PnOk.cons (z2z N) (PnOk.cons (zq N) (PnOk.nil)))

def z66 (N : Nat) (p : DT2) (low : Int) (high : Int) (from_ : Int) (k0 : DT2 -> Int -> Option (Int × (Int × Unit))) (k1 : (Int × (Int × Unit)) -> Option (Int × (Int × Unit))) (k2 : DT2 -> Int -> Int -> Option (Int × (Int × Unit))) : Option (Int × (Int × Unit)) :=
 (zy N p (44 : Int)).bind fun y =>
 cond y.1
 ((zy N y.2.1 (125 : Int)).bind fun y1 =>
 cond y1.1
 (k0 y1.2.1 (-(1 : Int)))
 (orP ((z45 N y1.2.1)) (fun z => k1 z)
 ((z3l N y1.2.1).bind fun y2 =>
 k2 y2.2.1 y2.1 y1.2.1.2.1)))
 (k2 y.2.1 high from_)

def z1cm (N : Nat) (x : z17 SQ5) (K : ExP -> List A -> Option (Int × (Int × Unit))) : Option (Int × (Int × Unit)) :=
 z66 N x.1 x.2.1 x.2.2.1 x.2.2.2.1 (fun a0 a2 => (K .ret (mkS SQ40 30 (a0, x.2.1, a2, ())))) (fun a0 => (K (.pan 46) (mkS [(0, .v TT0)] 0 (a0, ())))) (fun a0 a2 a3 => (K .normal (mkS SQ5 29 (a0, x.2.1, a2, a3, ()))))

def z19s (N : Nat) : HdP (Int × (Int × Unit)) := fun st K => (unS SQ5 29 (restr [0, 2, 3, 4] 0 st)).bind fun x => z1cm N x K

def t1_62 (N : Nat) : zae (Int × (Int × Unit)) := []

theorem z16e {N : Nat} {c : Ctx} (hb : Base Tryd.prog (z1g8 N) c) (hP : PnOk Tryd.prog glob (z23 N)) : z1r Tryd.prog c (ze zln [0, 1, 1, 1, 1]) (z19s N) :=
  z1w (s := SQ5) (m := 29) (g := z1cm N) [0, 2, 3, 4] (z1f hb hP N (t1_62 N) L_62 zln TabOkP.nil [0, 1, 1, 1, 1] _ rfl) (fun x K => by kernel_rfl)

def z65 (N : Nat) (p : DT2) (low : Int) (high : Int) (from_ : Int) (k0 : (Int × (Int × Unit)) -> Option (Int × (Int × Unit))) (k1 : Option (Int × (Int × Unit))) : Option (Int × (Int × Unit)) :=
 cond (decide (high < (if ((1 : Int) > low) then (1 : Int) else low)))
 (k0 ((2 : Int), (from_, ())))
 (k1)

def z1bt (N : Nat) (x : z17 SQ5) (K : ExP -> List A -> Option (Int × (Int × Unit))) : Option (Int × (Int × Unit)) :=
 z65 N x.1 x.2.1 x.2.2.1 x.2.2.2.1 (fun a0 => (K (.pan 46) (mkS [(0, .v TT0)] 0 (a0, ())))) (K .normal (mkS SQ40 30 (x.1, x.2.1, x.2.2.1, ())))

def z18z (N : Nat) : HdP (Int × (Int × Unit)) := fun st K => (unS SQ5 29 (restr [3, 2, 0, 4] 0 st)).bind fun x => z1bt N x K

def t2_62 (N : Nat) : zae (Int × (Int × Unit)) := []

theorem z15l {N : Nat} {c : Ctx} (hb : Base Tryd.prog (z1g8 N) c) (hP : PnOk Tryd.prog glob (z23 N)) : z1r Tryd.prog c (ze zln [0, 1, 1, 1, 1, 1]) (z18z N) :=
  z1w (s := SQ5) (m := 29) (g := z1bt N) [3, 2, 0, 4] (z1f hb hP N (t2_62 N) L_62 zln TabOkP.nil [0, 1, 1, 1, 1, 1] _ rfl) (fun x K => by kernel_rfl)

def z4j (N : Nat) (p : DT2) : Option (Int × (Int × Unit)) :=
 orP ((z45 N p)) (fun z => some z)
 ((z3l N p).bind fun y =>
 z66 N y.2.1 y.1 y.1 p.2.1
 (fun p1 high => none)
 (fun p2 => some p2)
 (fun p3 high1 from_ => z65 N p3 y.1 high1 from_
 (fun p4 => some p4)
 (orP ((z1v N p3 (125 : Int))) (fun z1 => some z1)
 ((z1a N p3 (125 : Int)).bind fun y1 =>
 none))))

def t_62 (N : Nat) : zae (Int × (Int × Unit)) := [([0, 1, 1, 1, 1], z19s N), ([0, 1, 1, 1, 1, 1], z18z N)]

theorem z110 (N : Nat) (x : z17 SQ0) : zf4 (z1g8 N) (z23 N) N (t_62 N) L_62 Tryd.f72 46 TT0 (mkS SQ0 0 x) (fun z => some z) = z4j N x.1 := by kernel_rfl

def z5i (N : Nat) : List A -> PnRes := zf3 SQ0 (fun x => z4j N x.1) (fun z => ⟨TT0, z⟩)

theorem zbs (N : Nat) : ContractP Tryd.prog glob 72 46 (z5i N) :=
  ContractP.of (E := z1g8 N) (Pn := z23 N) (H := t_62 N) (L := L_62) (N := N) (body := zln) (t := TT0) (z1er N) (z3h N) Tryd.func72 (by kernel_rfl) (by decide) (fun _ hb => (TabOkP.cons (z16e hb (z3h N)) (TabOkP.cons (z15l hb (z3h N)) TabOkP.nil))) (fun x y h => by rw [z110]; exact h)

abbrev z6 : Type := DT2 -> Option (Int × (Int × Unit))

def zr7 : Code := (Tryd.f80.body).getD .skip

def L_63 : List (List Nat × List Nat) := [([0], [0, 2]), ([0, 0, 1], [8, 0, 2]), ([1, 0, 1], [0, 2]), ([0, 1, 0, 1], [0, 2]), ([0, 1, 1], [0, 2]), ([0, 1, 1, 1], [0, 2]), ([0, 1, 1, 1, 1], [0, 3, 2]), ([0, 1, 1, 1, 1, 1], [0, 3, 2]), (zx1, [3, 2, 0]), (zx3, [2, 0]), (zzo, [2, 0])]

def E_63 (N : Nat) (self : z6) : Env := z1x tys glob [(40, zaa N), (87, z1d N)] [] [] [0] false [] []

theorem z1eq (N : Nat) (self : z6) : EnvOk Tryd.prog (E_63 N self) := zg mixed zw (FnsOk.cons (z27 N) (FnsOk.cons (z1p N) (FnsOk.nil))) (ItsOk.nil)

def z30 (N : Nat) (self : z6) : PnT := pnT [(87, 46, z22 N), (41, 46, zm N), (40, 46, zf3 SQ0 (fun x => self x.1) (fun z => ⟨TT0, z⟩))]

theorem z62 (N : Nat) (self : z6) (hself : ContractP Tryd.prog glob 40 46 (zf3 SQ0 (fun x => self x.1) (fun z => ⟨TT0, z⟩))) : PnOk Tryd.prog glob (z30 N self) := PnOk.cons (z2z N) (PnOk.cons (zq N) (PnOk.cons (hself) (PnOk.nil)))

def z6u (N : Nat) (self : z6) (p : DT2) (x2 : DT4) (k0 : (Int × (Int × Unit)) -> Option (Int × (Int × Unit))) (k1 : Option (Int × (Int × Unit))) : Option (Int × (Int × Unit)) :=
 cond (p.2.2.1 == (16 : Int))
 (k0 ((3 : Int), (p.2.1, ())))
 (k1)

def z1cl (N : Nat) (self : z6) (x : z17 zzj) (K : ExP -> List A -> Option (Int × (Int × Unit))) : Option (Int × (Int × Unit)) :=
 z6u N self x.1 x.2.1 (fun a0 => (K (.pan 46) (mkS [(0, .v TT0)] 0 (a0, ())))) (K .normal (mkS zzj 33 (x.1, x.2.1, ())))

def z19r (N : Nat) (self : z6) : HdP (Int × (Int × Unit)) := fun st K => (unS zzj 33 (restr [0, 2] 0 st)).bind fun x => z1cl N self x K

def t1_63 (N : Nat) (self : z6) : zae (Int × (Int × Unit)) := []

theorem z16d {N : Nat} {self : z6} {c : Ctx} (hb : Base Tryd.prog (E_63 N self) c) (hP : PnOk Tryd.prog glob (z30 N self)) : z1r Tryd.prog c (ze zr7 [0, 1]) (z19r N self) :=
  z1w (s := zzj) (m := 33) (g := z1cl N self) [0, 2] (z1f hb hP N (t1_63 N self) L_63 zr7 TabOkP.nil [0, 1] _ rfl) (fun x K => by kernel_rfl)

def z53 (N : Nat) (self : z6) (p : DT2) : Option (Int × (Int × Unit)) :=
 z6u N self p ((0 : Int), (([(0 : Int), (0 : Int), (0 : Int), (0 : Int)] : List Int), (([] : List Tree), ((0 : Int), ((0 : Int), ())))))
 (fun p1 => some p1)
 (orP ((z1v N (p.1, (p.2.1, ((IntKind.wrap IntKind.i64 (p.2.2.1 + (1 : Int))), p.2.2.2))) (40 : Int))) (fun z => some z)
 ((z1a N (p.1, (p.2.1, ((IntKind.wrap IntKind.i64 (p.2.2.1 + (1 : Int))), p.2.2.2))) (40 : Int)).bind fun y =>
 orP ((self y.2.1)) (fun z1 => some z1)
 ((zj N y.2.1).bind fun y1 =>
 orP ((z1v N y1.2.1 (41 : Int))) (fun z2 => some z2)
 ((z1a N y1.2.1 (41 : Int)).bind fun y2 =>
 none))))

def t_63 (N : Nat) (self : z6) : zae (Int × (Int × Unit)) := [([0, 1], z19r N self)]

theorem z10z (N : Nat) (self : z6) (x : z17 SQ0) : zf4 (E_63 N self) (z30 N self) N (t_63 N self) L_63 Tryd.f80 46 TT0 (mkS SQ0 0 x) (fun z => some z) = z53 N self x.1 := by kernel_rfl

def z61 (N : Nat) (self : z6) : List A -> PnRes := zf3 SQ0 (fun x => z53 N self x.1) (fun z => ⟨TT0, z⟩)

theorem zcj (N : Nat) (self : z6) (hself : ContractP Tryd.prog glob 40 46 (zf3 SQ0 (fun x => self x.1) (fun z => ⟨TT0, z⟩))) : ContractP Tryd.prog glob 80 46 (z61 N self) :=
  ContractP.of (E := E_63 N self) (Pn := z30 N self) (H := t_63 N self) (L := L_63) (N := N) (body := zr7) (t := TT0) (z1eq N self) (z62 N self hself) Tryd.func80 (by kernel_rfl) (by decide) (fun _ hb => (TabOkP.cons (z16d hb (z62 N self hself)) TabOkP.nil)) (fun x y h => by rw [z10z]; exact h)

def zr6 : Code := (Tryd.f71.body).getD .skip

def L_64 : List (List Nat × List Nat) := [([0], [0, 2]), ([0, 1], [3, 0, 2]), ([0, 1, 1], [15, 0, 2, 3]), ([0, 0, 1, 1, 1], [36, 0, 2, 15, 3]), ([1, 0, 1, 1, 1], [2, 0]), ([0, 1, 1, 0, 1, 1, 1], [40, 0, 2, 15, 3]), ([1, 1, 1, 0, 1, 1, 1], [2, 0]), ([0, 1, 1, 1, 1, 0, 1, 1, 1], [51, 0, 2, 15, 3]), ([1, 1, 1, 1, 1, 0, 1, 1, 1], [2, 0]), ([0, 1, 1, 1, 1, 1, 1, 0, 1, 1, 1], [56, 0, 2, 3]), ([1, 1, 1, 1, 1, 1, 1, 0, 1, 1, 1], [2, 0]), ([0, 0, 1, 1, 1, 1, 1, 1, 1, 1, 0, 1, 1, 1], [18, 0, 3, 2]), ([1, 0, 1, 1, 1, 1, 1, 1, 1, 1, 0, 1, 1, 1], [0, 3, 2]), ([0, 1, 0, 1, 1, 1, 1, 1, 1, 1, 1, 0, 1, 1, 1], [0, 3, 2]), ([0, 1, 1, 1, 1, 1, 1, 1, 1, 1, 0, 1, 1, 1], [3, 2, 0]), ([0, 1, 1, 1, 1, 1, 1, 1, 1, 1, 1, 0, 1, 1, 1], [2, 0]), ([1, 1, 1, 1, 1, 1, 1, 1, 1, 1, 1, 0, 1, 1, 1], [2, 0]), ([0, 0, 1, 1, 1, 1, 1, 1, 1, 0, 1, 1, 1], [4, 2, 0]), ([0, 1, 0, 1, 1, 1, 1, 1, 1, 1, 0, 1, 1, 1], [2, 0]), ([1, 1, 0, 1, 1, 1, 1, 1, 1, 1, 0, 1, 1, 1], [2, 0]), ([0, 0, 1, 1, 1, 1, 1, 0, 1, 1, 1], [2, 0]), ([1, 0, 1, 1, 1, 1, 1, 0, 1, 1, 1], [2, 0]), ([0, 0, 1, 1, 1, 0, 1, 1, 1], [2, 0]), ([0, 1, 0, 1, 1, 1, 0, 1, 1, 1], [2, 0]), ([1, 1, 0, 1, 1, 1, 0, 1, 1, 1], [2, 0]), (zxh, [2, 0]), (zue, [2, 0]), ([1, 1, 1], [2, 0])]

def E_64 (N : Nat) (self : z6) : Env := z1x tys glob [(80, z52 N (zj N)), (81, zdn N), (82, z2s N), (83, z3u N), (84, z2d N), (85, z2u N)] [] [] [0] false [] []

theorem z1ep (N : Nat) (self : z6) : EnvOk Tryd.prog (E_64 N self) := zg mixed zw (FnsOk.cons (z9d N (zj N) (z27 N)) (FnsOk.cons (zjd N) (FnsOk.cons (z3r N) (FnsOk.cons (z7m N) (FnsOk.cons (z3j N) (FnsOk.cons (z44 N) (FnsOk.nil))))))) (ItsOk.nil)

def z38 (N : Nat) (self : z6) : PnT := pnT [(80, 46, z61 N self), (83, 46, z4q N), (84, 46, z3g N), (41, 46, zm N), (40, 46, zf3 SQ0 (fun x => self x.1) (fun z => ⟨TT0, z⟩))]

theorem z6w (N : Nat) (self : z6) (hself : ContractP Tryd.prog glob 40 46 (zf3 SQ0 (fun x => self x.1) (fun z => ⟨TT0, z⟩))) : PnOk Tryd.prog glob (z38 N self) := PnOk.cons (zcj N self hself) (PnOk.cons (zag N) (PnOk.cons (z64 N) (PnOk.cons (zq N) (PnOk.cons (hself) (PnOk.nil)))))

def z7n (N : Nat) (self : z6) (p : DT2) (x2 : DT4) (b : Int) (k0 : (Int × (Int × Unit)) -> Option (Int × (Int × Unit))) (k1 : Option (Int × (Int × Unit))) : Option (Int × (Int × Unit)) :=
 cond (decide ((0 : Int) <= (Go.Lib.indexByte ([(92 : UInt8), (46 : UInt8), (91 : UInt8), (93 : UInt8), (40 : UInt8), (41 : UInt8), (123 : UInt8), (125 : UInt8), (124 : UInt8), (42 : UInt8), (43 : UInt8), (63 : UInt8)] : List UInt8) (Nat.toUInt8 (Int.toNat b)))))
 (k0 ((2 : Int), (p.2.1, ())))
 (k1)

def z1ck (N : Nat) (self : z6) (x : z17 zzl) (K : ExP -> List A -> Option (Int × (Int × Unit))) : Option (Int × (Int × Unit)) :=
 z7n N self x.1 x.2.1 x.2.2.1 (fun a0 => (K (.pan 46) (mkS [(0, .v TT0)] 0 (a0, ())))) (K .normal (mkS zzl 61 (x.1, x.2.1, x.2.2.1, ())))

def z19q (N : Nat) (self : z6) : HdP (Int × (Int × Unit)) := fun st K => (unS zzl 61 (restr [3, 0, 2] 0 st)).bind fun x => z1ck N self x K

def t1_64 (N : Nat) (self : z6) : zae (Int × (Int × Unit)) := []

theorem z16c {N : Nat} {self : z6} {c : Ctx} (hb : Base Tryd.prog (E_64 N self) c) (hP : PnOk Tryd.prog glob (z38 N self)) : z1r Tryd.prog c (ze zr6 z141) (z19q N self) :=
  z1w (s := zzl) (m := 61) (g := z1ck N self) [3, 0, 2] (z1f hb hP N (t1_64 N self) L_64 zr6 TabOkP.nil z141 _ rfl) (fun x K => by kernel_rfl)

def z5k (N : Nat) (self : z6) (p : DT2) : Option (Int × (Int × Unit)) :=
 cond (inR p.2.1 (List.length p.1))
 (cond ((((UInt8.toNat (List.getD p.1 (Int.toNat p.2.1) (0 : UInt8))) : Nat) : Int) == (40 : Int))
 (orP ((z53 N self p)) (fun z => some z)
 ((z57 N (zj N) p).bind fun y =>
 none))
 (cond ((((UInt8.toNat (List.getD p.1 (Int.toNat p.2.1) (0 : UInt8))) : Nat) : Int) == (46 : Int))
 ((z32 N (0 : Int) (255 : Int)).bind fun y1 =>
 none)
 (cond ((((UInt8.toNat (List.getD p.1 (Int.toNat p.2.1) (0 : UInt8))) : Nat) : Int) == (91 : Int))
 (orP ((z3v N p)) (fun z1 => some z1)
 ((z3q N p).bind fun y2 =>
 none))
 (cond ((((UInt8.toNat (List.getD p.1 (Int.toNat p.2.1) (0 : UInt8))) : Nat) : Int) == (92 : Int))
 (orP ((z37 N p)) (fun z2 => some z2)
 ((z2n N p).bind fun y3 =>
 none))
 (z7n N self p ((0 : Int), (([(0 : Int), (0 : Int), (0 : Int), (0 : Int)] : List Int), (([] : List Tree), ((0 : Int), ((0 : Int), ()))))) (((UInt8.toNat (List.getD p.1 (Int.toNat p.2.1) (0 : UInt8))) : Nat) : Int)
 (fun p1 => some p1)
 ((z32 N (((UInt8.toNat (List.getD p.1 (Int.toNat p.2.1) (0 : UInt8))) : Nat) : Int) (((UInt8.toNat (List.getD p.1 (Int.toNat p.2.1) (0 : UInt8))) : Nat) : Int)).bind fun y4 =>
 none))))))
 (none)

def t_64 (N : Nat) (self : z6) : zae (Int × (Int × Unit)) := [(z141, z19q N self)]

theorem z10y (N : Nat) (self : z6) (x : z17 SQ0) : zf4 (E_64 N self) (z38 N self) N (t_64 N self) L_64 Tryd.f71 46 TT0 (mkS SQ0 0 x) (fun z => some z) = z5k N self x.1 := by kernel_rfl

def z6v (N : Nat) (self : z6) : List A -> PnRes := zf3 SQ0 (fun x => z5k N self x.1) (fun z => ⟨TT0, z⟩)

theorem zcx (N : Nat) (self : z6) (hself : ContractP Tryd.prog glob 40 46 (zf3 SQ0 (fun x => self x.1) (fun z => ⟨TT0, z⟩))) : ContractP Tryd.prog glob 71 46 (z6v N self) :=
  ContractP.of (E := E_64 N self) (Pn := z38 N self) (H := t_64 N self) (L := L_64) (N := N) (body := zr6) (t := TT0) (z1ep N self) (z6w N self hself) Tryd.func71 (by kernel_rfl) (by decide) (fun _ hb => (TabOkP.cons (z16c hb (z6w N self hself)) TabOkP.nil)) (fun x y h => by rw [z10y]; exact h)

def zr5 : Code := (Tryd.f66.body).getD .skip

def L_65 : List (List Nat × List Nat) := [([0], [0, 2]), ([0, 1], [0, 3, 2]), ([0, 0, 1, 1], [16, 3, 2, 0]), ([1, 0, 1, 1], [3, 0, 2]), ([0, 0, 1, 0, 1, 1], [2, 0]), ([1, 0, 1, 0, 1, 1], [2, 0]), ([0, 1, 1, 1], [0, 4, 2, 3]), ([0, 0, 1, 1, 1, 1], [29, 4, 0, 2, 3]), ([0, 0, 0, 0, 0, 0, 0, 0, 0, 0, 0, 0, 0, 0, 1, 0, 1, 1, 1, 1], [30, 4, 0, 2, 29, 3]), ([1, 0, 0, 0, 0, 0, 0, 0, 0, 0, 0, 0, 0, 0, 1, 0, 1, 1, 1, 1], [29, 0, 4, 2, 3]), ([0, 1, 0, 0, 0, 0, 0, 0, 0, 0, 0, 0, 0, 0, 0, 1, 0, 1, 1, 1, 1], [4, 0, 2]), ([0, 0, 1, 0, 0, 0, 0, 0, 0, 0, 0, 0, 0, 0, 0, 1, 0, 1, 1, 1, 1], [32, 0, 4, 2, 29, 3]), ([1, 0, 1, 0, 0, 0, 0, 0, 0, 0, 0, 0, 0, 0, 0, 1, 0, 1, 1, 1, 1], [29, 0, 4, 2, 3]), ([0, 1, 0, 1, 0, 0, 0, 0, 0, 0, 0, 0, 0, 0, 0, 0, 1, 0, 1, 1, 1, 1], [0, 4, 2]), ([0, 0, 1, 1, 0, 0, 0, 0, 0, 0, 0, 0, 0, 0, 0, 0, 1, 0, 1, 1, 1, 1], [34, 0, 4, 2, 29, 3]), ([1, 0, 1, 1, 0, 0, 0, 0, 0, 0, 0, 0, 0, 0, 0, 0, 1, 0, 1, 1, 1, 1], [29, 0, 4, 2, 3]), ([0, 1, 0, 1, 1, 0, 0, 0, 0, 0, 0, 0, 0, 0, 0, 0, 0, 1, 0, 1, 1, 1, 1], [0, 4, 2]), ([0, 1, 1, 1, 0, 0, 0, 0, 0, 0, 0, 0, 0, 0, 0, 0, 1, 0, 1, 1, 1, 1], [36, 0, 4, 2, 3]), ([1, 1, 1, 1, 0, 0, 0, 0, 0, 0, 0, 0, 0, 0, 0, 0, 1, 0, 1, 1, 1, 1], [3, 2, 0]), ([0, 1, 1, 1, 1, 0, 0, 0, 0, 0, 0, 0, 0, 0, 0, 0, 0, 1, 0, 1, 1, 1, 1], [0, 4, 2]), ([1, 0, 0, 0, 0, 0, 0, 0, 0, 0, 0, 0, 1, 0, 1, 1, 1, 1], [3, 2, 0]), ([0, 0, 0, 0, 0, 0, 0, 0, 0, 0, 1, 0, 1, 1, 1, 1], [4, 0, 2]), ([1, 0, 0, 0, 0, 0, 0, 0, 0, 0, 1, 0, 1, 1, 1, 1], [0, 4, 2]), (zzr, [0, 4, 2]), ([0, 1, 0, 0, 0, 0, 0, 0, 0, 1, 0, 1, 1, 1, 1], [4, 2, 0]), ([1, 1, 0, 0, 0, 0, 0, 0, 0, 1, 0, 1, 1, 1, 1], [4, 2, 0]), ([0, 0, 0, 0, 0, 0, 1, 0, 1, 1, 1, 1], [0, 4, 2]), ([0, 0, 1, 0, 0, 0, 0, 0, 1, 0, 1, 1, 1, 1], [4, 2, 0]), ([1, 0, 1, 0, 0, 0, 0, 0, 1, 0, 1, 1, 1, 1], [4, 2, 0]), ([1, 1, 0, 0, 0, 0, 0, 1, 0, 1, 1, 1, 1], [4, 2, 0]), ([0, 0, 0, 0, 1, 0, 1, 1, 1, 1], [0, 4, 2]), ([0, 0, 1, 0, 0, 0, 1, 0, 1, 1, 1, 1], [0, 4, 2]), ([1, 0, 1, 0, 0, 0, 1, 0, 1, 1, 1, 1], [4, 2, 0]), ([1, 1, 0, 0, 0, 1, 0, 1, 1, 1, 1], [4, 2, 0]), ([0, 0, 1, 0, 1, 1, 1, 1], [3, 2, 0]), ([0, 0, 1, 0, 1, 0, 1, 1, 1, 1], [2, 0]), ([1, 0, 1, 0, 1, 0, 1, 1, 1, 1], [2, 0]), ([1, 1, 0, 1, 0, 1, 1, 1, 1], [4, 2, 0]), ([1, 0, 1, 1, 1, 1], [4, 2, 0]), ([0, 1, 1, 1, 1, 1], [2, 0]), ([1, 1, 1, 1, 1, 1], [2, 0])]

def E_65 (N : Nat) (self : z6) : Env := z1x tys glob [(71, z5j N (zj N)), (72, z4i N)] [] [] [0] false [] []

theorem z1eo (N : Nat) (self : z6) : EnvOk Tryd.prog (E_65 N self) := zg mixed zw (FnsOk.cons (za9 N (zj N) (z27 N)) (FnsOk.cons (z8i N) (FnsOk.nil))) (ItsOk.nil)

def z2x (N : Nat) (self : z6) : PnT := pnT [(71, 46, z6v N self), (72, 46, z5i N), (40, 46, zf3 SQ0 (fun x => self x.1) (fun z => ⟨TT0, z⟩))]

theorem z60 (N : Nat) (self : z6) (hself : ContractP Tryd.prog glob 40 46 (zf3 SQ0 (fun x => self x.1) (fun z => ⟨TT0, z⟩))) : PnOk Tryd.prog glob (z2x N self) := PnOk.cons (zcx N self hself) (PnOk.cons (zbs N) (PnOk.cons (hself) (PnOk.nil)))

def z6q (N : Nat) (self : z6) (p : DT2) (x2 : DT4) (kid : DT4) (rep : DT4) (x29 : Int) (k0 : DT4 -> Option (Int × (Int × Unit))) (k1 : Option (Int × (Int × Unit))) (k2 : Option (Int × (Int × Unit))) (k3 : Option (Int × (Int × Unit))) : Option (Int × (Int × Unit)) :=
 cond (x29 == (43 : Int))
 (k0 (rep.1, (rep.2.1, (rep.2.2.1, ((1 : Int), rep.2.2.2.2)))))
 (cond (x29 == (42 : Int))
 (k0 rep)
 (cond (x29 == (63 : Int))
 (k1)
 (cond (x29 == (123 : Int))
 (k2)
 (k3))))

def z1cj (N : Nat) (self : z6) (x : z17 z13u) (K : ExP -> List A -> Option (Int × (Int × Unit))) : Option (Int × (Int × Unit)) :=
 z6q N self x.1 x.2.1 x.2.2.1 x.2.2.2.1 x.2.2.2.2.1 (fun a2 => (K .normal (mkS z13t 65 (x.1, x.2.1, a2, ())))) (K (.exit 3) (mkS z13t 65 (x.1, x.2.1, x.2.2.2.1, ()))) (K (.exit 4) (mkS z13t 65 (x.1, x.2.1, x.2.2.2.1, ()))) (K (.exit 5) (mkS [(0, .box (.pair .str TT0)), (1, .box TT1), (0, .box TT1)] 66 (x.1, x.2.1, x.2.2.1, ())))

def z19p (N : Nat) (self : z6) : HdP (Int × (Int × Unit)) := fun st K => (unS z13u 40 (restr [29, 4, 0, 2, 3] 0 st)).bind fun x => z1cj N self x K

def t1_65 (N : Nat) (self : z6) : zae (Int × (Int × Unit)) := []

theorem z16b {N : Nat} {self : z6} {c : Ctx} (hb : Base Tryd.prog (E_65 N self) c) (hP : PnOk Tryd.prog glob (z2x N self)) : z1r Tryd.prog c (ze zr5 zzr) (z19p N self) :=
  z1w (s := z13u) (m := 40) (g := z1cj N self) [29, 4, 0, 2, 3] (z1f hb hP N (t1_65 N self) L_65 zr5 TabOkP.nil zzr _ rfl) (fun x K => by kernel_rfl)

def z51 (N : Nat) (self : z6) (p : DT2) : Option (Int × (Int × Unit)) :=
 orP ((z5k N self p)) (fun z => some z)
 ((z5u N (zj N) p).bind fun y =>
 cond (y.2.1.2.1 == (((List.length y.2.1.1) : Nat) : Int))
 (none)
 (cond (inR y.2.1.2.1 (List.length y.2.1.1))
 (z6q N self y.2.1 ((0 : Int), (([(0 : Int), (0 : Int), (0 : Int), (0 : Int)] : List Int), (([] : List Tree), ((0 : Int), ((0 : Int), ()))))) y.1 ((4 : Int), (([(0 : Int), (0 : Int), (0 : Int), (0 : Int)] : List Int), ((List.map foN ([y.1] : List zt7)), ((0 : Int), ((-(1 : Int)), ()))))) (((UInt8.toNat (List.getD y.2.1.1 (Int.toNat y.2.1.2.1) (0 : UInt8))) : Nat) : Int)
 (fun rep => none)
 (none)
 (orP ((z4j N (y.2.1.1, ((IntKind.wrap IntKind.i64 (y.2.1.2.1 + (1 : Int))), y.2.1.2.2)))) (fun z1 => some z1)
 ((z4k N (y.2.1.1, ((IntKind.wrap IntKind.i64 (y.2.1.2.1 + (1 : Int))), y.2.1.2.2))).bind fun y1 =>
 none))
 (none))
 (none)))

def t_65 (N : Nat) (self : z6) : zae (Int × (Int × Unit)) := [(zzr, z19p N self)]

theorem z10x (N : Nat) (self : z6) (x : z17 SQ0) : zf4 (E_65 N self) (z2x N self) N (t_65 N self) L_65 Tryd.f66 46 TT0 (mkS SQ0 0 x) (fun z => some z) = z51 N self x.1 := by kernel_rfl

def z5z (N : Nat) (self : z6) : List A -> PnRes := zf3 SQ0 (fun x => z51 N self x.1) (fun z => ⟨TT0, z⟩)

theorem zci (N : Nat) (self : z6) (hself : ContractP Tryd.prog glob 40 46 (zf3 SQ0 (fun x => self x.1) (fun z => ⟨TT0, z⟩))) : ContractP Tryd.prog glob 66 46 (z5z N self) :=
  ContractP.of (E := E_65 N self) (Pn := z2x N self) (H := t_65 N self) (L := L_65) (N := N) (body := zr5) (t := TT0) (z1eo N self) (z60 N self hself) Tryd.func66 (by kernel_rfl) (by decide) (fun _ hb => (TabOkP.cons (z16b hb (z60 N self hself)) TabOkP.nil)) (fun x y h => by rw [z10x]; exact h)

def zh7 : Code := (Tryd.f56.body).getD .skip

def z1ec : List (List Nat × List Nat) := [([0], [0, 2]), ([0, 1], [0, 3, 2]), ([0, 0, 1, 1], [0, 3, 2]), ([0, 0, 0, 0, 0, 1, 1], [37, 3, 0, 2]), ([1, 0, 0, 0, 0, 1, 1], [3, 0, 2]), (zx5, [3, 2, 0]), ([0, 1, 0, 0, 0, 1, 1], [0, 3, 2]), ([1, 0, 0, 0, 1, 1], [0, 3, 2]), ([0, 1, 1], [3, 2, 0]), ([0, 1, 1, 1], [2, 0]), ([1, 1, 1, 1], [2, 0])]

def z146 (N : Nat) (self : z6) : Env := z1x tys glob [(58, z6x N), (66, z50 N (zj N))] [(3, TT1)] [] [0] false [] []

theorem z1en (N : Nat) (self : z6) : EnvOk Tryd.prog (z146 N self) := zg mixed zw (FnsOk.cons (zah N) (FnsOk.cons (z9b N (zj N) (z27 N)) (FnsOk.nil))) (ItsOk.nil)

def z1z (N : Nat) (self : z6) : PnT := pnT [(66, 46, z5z N self), (40, 46, zf3 SQ0 (fun x => self x.1) (fun z => ⟨TT0, z⟩))]

theorem z7k (N : Nat) (self : z6) (hself : ContractP Tryd.prog glob 40 46 (zf3 SQ0 (fun x => self x.1) (fun z => ⟨TT0, z⟩))) : PnOk Tryd.prog glob (z1z N self) := PnOk.cons (zci N self hself) (PnOk.cons (hself) (PnOk.nil))

def z84 (N : Nat) (self : z6) (p : DT2) (x2 : DT4) (parts : (List DT4)) (k0 : Option (Int × (Int × Unit))) (k1 : Option (Int × (Int × Unit))) : Option (Int × (Int × Unit)) :=
 cond (decide (p.2.1 < (((List.length p.1) : Nat) : Int)))
 (cond (inR p.2.1 (List.length p.1))
 (cond ((((UInt8.toNat (List.getD p.1 (Int.toNat p.2.1) (0 : UInt8))) : Nat) : Int) != (124 : Int))
 (cond (inR p.2.1 (List.length p.1))
 (cond ((((UInt8.toNat (List.getD p.1 (Int.toNat p.2.1) (0 : UInt8))) : Nat) : Int) != (41 : Int))
 (k0)
 (k1))
 (none))
 (k1))
 (none))
 (k1)

def z1be (N : Nat) (self : z6) (x : z17 SQ3) (K : ExP -> List A -> Option (Int × (Int × Unit))) : Option (Int × (Int × Unit)) :=
 z84 N self x.1 x.2.1 x.2.2.1 (K .normal (mkS SQ3 41 (x.1, x.2.1, x.2.2.1, ()))) (K (.exit 0) (mkS SQ3 41 (x.1, x.2.1, x.2.2.1, ())))

def z18k (N : Nat) (self : z6) : HdP (Int × (Int × Unit)) := fun st K => (unS SQ3 41 (restr [0, 3, 2] 0 st)).bind fun x => z1be N self x K

def t3_66 (N : Nat) (self : z6) : zae (Int × (Int × Unit)) := []

theorem z156 {N : Nat} {self : z6} {c : Ctx} (hb : Base Tryd.prog (z146 N self) c) (hP : PnOk Tryd.prog glob (z1z N self)) : z1r Tryd.prog c (ze zh7 [0, 0, 0, 0, 1, 1]) (z18k N self) :=
  z1w (s := SQ3) (m := 41) (g := z1be N self) [0, 3, 2] (z1f hb hP N (t3_66 N self) z1ec zh7 TabOkP.nil [0, 0, 0, 0, 1, 1] _ rfl) (fun x K => by kernel_rfl)

def z83 (N : Nat) (self : z6) (x2 : DT4) (p : DT2) (parts : (List DT4)) (rec : DT2 -> (List DT4) -> Option (Int × (Int × Unit))) (k0 : (Int × (Int × Unit)) -> Option (Int × (Int × Unit))) (k1 : DT2 -> (List DT4) -> Option (Int × (Int × Unit))) : Option (Int × (Int × Unit)) :=
 z84 N self p x2 parts
 (orP ((z51 N self p)) (fun z => k0 z)
 ((z56 N (zj N) p).bind fun y =>
 cond (decide ((((List.length parts) + 1) * 80) <= 70368744177664))
 (rec y.2.1 (parts ++ ([y.1] : List zt7)))
 (none)))
 (k1 p parts)

def zdk (N : Nat) (self : z6) (p : DT2) (x2 : DT4) (parts : (List DT4)) (k0 : (Int × (Int × Unit)) -> Option (Int × (Int × Unit))) (k1 : DT2 -> (List DT4) -> Option (Int × (Int × Unit))) : Option (Int × (Int × Unit)) :=
 iter (fun (v : (DT2 × (List DT4))) r => z83 N self x2 v.1 v.2 (fun p parts => (r (p, parts))) k0 k1) N (p, parts)

def z1bs (N : Nat) (self : z6) (i : DT4) (v : (DT2 × (List DT4))) (r : (DT2 × (List DT4)) -> Option (Int × (Int × Unit))) (K : ExP -> List A -> Option (Int × (Int × Unit))) : Option (Int × (Int × Unit)) :=
 z83 N self i v.1 v.2 (fun p parts => (r (p, parts))) (fun a0 => (K (.pan 46) (mkS [(0, .v TT0)] 0 (a0, ())))) (fun a0 a2 => (K (.exit 0) (mkS SQ3 41 (a0, i, a2, ()))))

def z18y (N : Nat) (self : z6) : HdP (Int × (Int × Unit)) := fun st K => (unS SQ3 41 (restr [0, 3, 2] 0 st)).bind fun x => iter (fun v r => z1bs N self ((fun x => x.2.1) x) v r K) N ((fun x => (x.1, x.2.2.1)) x)

def t2_66 (N : Nat) (self : z6) : zae (Int × (Int × Unit)) := [([0, 0, 0, 0, 1, 1], z18k N self)]

theorem z15k {N : Nat} {self : z6} {c : Ctx} (hb : Base Tryd.prog (z146 N self) c) (hP : PnOk Tryd.prog glob (z1z N self)) : z1r Tryd.prog c (ze zh7 [0, 0, 1, 1]) (z18y N self) :=
  zk5 (s := SQ3) (m := 41) (z1bs N self) [0, 3, 2] N (fun x => x.2.1) (fun x => (x.1, x.2.2.1)) (fun i v => (v.1, i, v.2, ())) (fun _ => rfl) (z1f hb hP N (t2_66 N self) z1ec zh7 (TabOkP.cons (z156 hb hP) TabOkP.nil) [0, 0, 0, 1, 1] _ rfl) (fun i v r K => by kernel_rfl)

def z85 (N : Nat) (self : z6) (p : DT2) (x2 : DT4) (parts : (List DT4)) (k0 : (Int × (Int × Unit)) -> Option (Int × (Int × Unit))) (k1 : DT2 -> (List DT4) -> Option (Int × (Int × Unit))) : Option (Int × (Int × Unit)) :=
 zdk N self p x2 parts
 (fun p1 => k0 p1)
 (fun p2 zhy => k1 p2 zhy)

def z1ci (N : Nat) (self : z6) (x : z17 SQ3) (K : ExP -> List A -> Option (Int × (Int × Unit))) : Option (Int × (Int × Unit)) :=
 z85 N self x.1 x.2.1 x.2.2.1 (fun a0 => (K (.pan 46) (mkS [(0, .v TT0)] 0 (a0, ())))) (fun a0 a2 => (K .normal (mkS SQ3 41 (a0, x.2.1, a2, ()))))

def z19o (N : Nat) (self : z6) : HdP (Int × (Int × Unit)) := fun st K => (unS SQ3 41 (restr [0, 3, 2] 0 st)).bind fun x => z1ci N self x K

def t1_66 (N : Nat) (self : z6) : zae (Int × (Int × Unit)) := [([0, 0, 1, 1], z18y N self)]

theorem z16a {N : Nat} {self : z6} {c : Ctx} (hb : Base Tryd.prog (z146 N self) c) (hP : PnOk Tryd.prog glob (z1z N self)) : z1r Tryd.prog c (ze zh7 [0, 1, 1]) (z19o N self) :=
  z1w (s := SQ3) (m := 41) (g := z1ci N self) [0, 3, 2] (z1f hb hP N (t1_66 N self) z1ec zh7 (TabOkP.cons (z15k hb hP) TabOkP.nil) [0, 1, 1] _ rfl) (fun x K => by kernel_rfl)

def z47 (N : Nat) (self : z6) (p : DT2) : Option (Int × (Int × Unit)) :=
 z85 N self p ((0 : Int), (([(0 : Int), (0 : Int), (0 : Int), (0 : Int)] : List Int), (([] : List Tree), ((0 : Int), ((0 : Int), ()))))) ([] : List zt7)
 (fun p1 => some p1)
 (fun p2 parts => (zap N (2 : Int) (List.map foN parts)).bind fun y =>
 none)

def t_66 (N : Nat) (self : z6) : zae (Int × (Int × Unit)) := [([0, 1, 1], z19o N self)]

theorem z10w (N : Nat) (self : z6) (x : z17 SQ0) : zf4 (z146 N self) (z1z N self) N (t_66 N self) z1ec Tryd.f56 46 TT0 (mkS SQ0 0 x) (fun z => some z) = z47 N self x.1 := by kernel_rfl

def z7j (N : Nat) (self : z6) : List A -> PnRes := zf3 SQ0 (fun x => z47 N self x.1) (fun z => ⟨TT0, z⟩)

theorem zdl (N : Nat) (self : z6) (hself : ContractP Tryd.prog glob 40 46 (zf3 SQ0 (fun x => self x.1) (fun z => ⟨TT0, z⟩))) : ContractP Tryd.prog glob 56 46 (z7j N self) :=
  ContractP.of (E := z146 N self) (Pn := z1z N self) (H := t_66 N self) (L := z1ec) (N := N) (body := zh7) (t := TT0) (z1en N self) (z7k N self hself) Tryd.func56 (by kernel_rfl) (by decide) (fun _ hb => (TabOkP.cons (z16a hb (z7k N self hself)) TabOkP.nil)) (fun x y h => by rw [z10w]; exact h)

def zo8 : Code := (Tryd.f40.body).getD .skip

def L_67 : List (List Nat × List Nat) := [([0], [0, 2]), ([0, 1], [0, 3, 2]), ([0, 0, 1, 1], [0, 3, 2]), ([0, 0, 0, 0, 0, 1, 1], [8, 3, 0, 2]), ([1, 0, 0, 0, 0, 1, 1], [3, 0, 2]), (zx5, [3, 2, 0]), ([0, 1, 0, 0, 0, 1, 1], [0, 3, 2]), ([1, 0, 0, 0, 1, 1], [0, 3, 2]), ([0, 1, 1], [3, 2, 0]), ([0, 1, 1, 1], [2, 0]), ([1, 1, 1, 1], [2, 0])]

def E_67 (N : Nat) (self : DT2 -> Option (Int × (Int × Unit))) : Env := z1x tys glob [(56, z6a N (zj N)), (57, z1c N), (58, z6x N)] [(3, TT1)] [] [0] false [] []

theorem z1em (N : Nat) (self : DT2 -> Option (Int × (Int × Unit))) : EnvOk Tryd.prog (E_67 N self) := zg mixed zw (FnsOk.cons (zbc N (zj N) (z27 N)) (FnsOk.cons (z1o N) (FnsOk.cons (zah N) (FnsOk.nil)))) (ItsOk.nil)

def z3k (N : Nat) (self : DT2 -> Option (Int × (Int × Unit))) : PnT := pnT [(56, 46, z7j N self), (40, 46, zf3 SQ0 (fun x => self x.1) (fun z => ⟨TT0, z⟩))]

theorem z7o (N : Nat) (self : DT2 -> Option (Int × (Int × Unit))) (hself : ContractP Tryd.prog glob 40 46 (zf3 SQ0 (fun x => self x.1) (fun z => ⟨TT0, z⟩))) : PnOk Tryd.prog glob (z3k N self) := PnOk.cons (zdl N self hself) (PnOk.cons (hself) (PnOk.nil))

def z86 (N : Nat) (self : DT2 -> Option (Int × (Int × Unit))) (x2 : DT4) (p : DT2) (parts : (List DT4)) (rec : DT2 -> (List DT4) -> Option (Int × (Int × Unit))) (k0 : (Int × (Int × Unit)) -> Option (Int × (Int × Unit))) (k1 : DT2 -> (List DT4) -> Option (Int × (Int × Unit))) : Option (Int × (Int × Unit)) :=
 (zy N p (124 : Int)).bind fun y =>
 cond y.1
 (orP ((z47 N self y.2.1)) (fun z => k0 z)
 ((z3n N (zj N) y.2.1).bind fun y1 =>
 cond (decide ((((List.length parts) + 1) * 80) <= 70368744177664))
 (rec y1.2.1 (parts ++ ([y1.1] : List zt7)))
 (none)))
 (k1 y.2.1 parts)

def zdm (N : Nat) (self : DT2 -> Option (Int × (Int × Unit))) (p : DT2) (x2 : DT4) (parts : (List DT4)) (k0 : (Int × (Int × Unit)) -> Option (Int × (Int × Unit))) (k1 : DT2 -> (List DT4) -> Option (Int × (Int × Unit))) : Option (Int × (Int × Unit)) :=
 iter (fun (v : (DT2 × (List DT4))) r => z86 N self x2 v.1 v.2 (fun p parts => (r (p, parts))) k0 k1) N (p, parts)

def z1ch (N : Nat) (self : DT2 -> Option (Int × (Int × Unit))) (i : DT4) (v : (DT2 × (List DT4))) (r : (DT2 × (List DT4)) -> Option (Int × (Int × Unit))) (K : ExP -> List A -> Option (Int × (Int × Unit))) : Option (Int × (Int × Unit)) :=
 z86 N self i v.1 v.2 (fun p parts => (r (p, parts))) (fun a0 => (K (.pan 46) (mkS [(0, .v TT0)] 0 (a0, ())))) (fun a0 a2 => (K (.exit 0) (mkS SQ3 12 (a0, i, a2, ()))))

def z19n (N : Nat) (self : DT2 -> Option (Int × (Int × Unit))) : HdP (Int × (Int × Unit)) := fun st K => (unS SQ3 12 (restr [0, 3, 2] 0 st)).bind fun x => iter (fun v r => z1ch N self ((fun x => x.2.1) x) v r K) N ((fun x => (x.1, x.2.2.1)) x)

def t1_67 (N : Nat) (self : DT2 -> Option (Int × (Int × Unit))) : zae (Int × (Int × Unit)) := []

theorem z169 {N : Nat} {self : DT2 -> Option (Int × (Int × Unit))} {c : Ctx} (hb : Base Tryd.prog (E_67 N self) c) (hP : PnOk Tryd.prog glob (z3k N self)) : z1r Tryd.prog c (ze zo8 [0, 0, 1, 1]) (z19n N self) :=
  zk5 (s := SQ3) (m := 12) (z1ch N self) [0, 3, 2] N (fun x => x.2.1) (fun x => (x.1, x.2.2.1)) (fun i v => (v.1, i, v.2, ())) (fun _ => rfl) (z1f hb hP N (t1_67 N self) L_67 zo8 TabOkP.nil [0, 0, 0, 1, 1] _ rfl) (fun i v r K => by kernel_rfl)

def z8j (N : Nat) (self : DT2 -> Option (Int × (Int × Unit))) (p : DT2) : Option (Int × (Int × Unit)) :=
 orP ((z47 N self p)) (fun z => some z)
 ((z3n N (zj N) p).bind fun y =>
 zdm N self y.2.1 ((0 : Int), (([(0 : Int), (0 : Int), (0 : Int), (0 : Int)] : List Int), (([] : List Tree), ((0 : Int), ((0 : Int), ()))))) ([y.1] : List zt7)
 (fun p1 => some p1)
 (fun p2 parts => (zap N (3 : Int) (List.map foN parts)).bind fun y1 =>
 none))

def t_67 (N : Nat) (self : DT2 -> Option (Int × (Int × Unit))) : zae (Int × (Int × Unit)) := [([0, 0, 1, 1], z19n N self)]

theorem z10v (N : Nat) (self : DT2 -> Option (Int × (Int × Unit))) (x : z17 SQ0) : zf4 (E_67 N self) (z3k N self) N (t_67 N self) L_67 Tryd.f40 46 TT0 (mkS SQ0 0 x) (fun z => some z) = z8j N self x.1 := by kernel_rfl

def z1g : Nat -> DT2 -> Option (Int × (Int × Unit))
  | 0 => fun _ => none
  | N + 1 => z8j (N + 1) (z1g N)

def zcy (N : Nat) : List A -> PnRes := zf3 SQ0 (fun x => z1g N x.1) (fun z => ⟨TT0, z⟩)

theorem z4l : ∀ N : Nat, ContractP Tryd.prog glob 40 46 (zcy N)
  | 0 => ContractP.zero Tryd.func40 (body := zo8) (by kernel_rfl) (by decide) (fun _ => rfl)
  | N + 1 => ContractP.of (E := E_67 (N + 1) (z1g N)) (Pn := z3k (N + 1) (z1g N)) (H := t_67 (N + 1) (z1g N)) (L := L_67) (N := (N + 1)) (body := zo8) (t := TT0) (z1em (N + 1) (z1g N)) (z7o (N + 1) (z1g N) (z4l N)) Tryd.func40 (by kernel_rfl) (by decide) (fun _ hb => (TabOkP.cons (z169 hb (z7o (N + 1) (z1g N) (z4l N))) TabOkP.nil)) (fun x y h => by rw [z10v]; exact h)

end
end Go.Proofs.YtmeecjkimeiogaaDoorLg

set_option linter.all false
set_option maxRecDepth 100000
namespace Go.Proofs.YtmeecjkimeiogaaDoorLg
noncomputable section
open Go Go.Lift

def Cl (w : World) (n : Nat) (cs : List Value) : Prop := ∀ i v, cs[i]? = some v -> w.cell? ⟨n, i, none⟩ = some v /\ w.frozen? ⟨n, i, none⟩ = false

def PsW (w0 : World) (S0 S : Hp) (W : World) : Prop := WF w0 (fun _ => False) W /\ Lift.Sub S0 S /\ Lift.Sub S (hp W) /\ ∀ k, S k ≠ none -> S0 k ≠ none \/ w0.heap.size <= k

theorem PsW.drew {w0 W : World} {S0 S : Hp} (h : PsW w0 S0 S W) : PsW w0 S0 S W.drew := by
  obtain ⟨h1, h2, h3, h4⟩ := h
  exact ⟨⟨h1.size, h1.same, h1.tape, h1.os, h1.output⟩, h2, h3, h4⟩

theorem PsW.alloc {w0 W : World} {S0 S : Hp} (h : PsW w0 S0 S W) (cs : Array Value) (E : Nat) : PsW w0 S0 S (W.alloc (.cells cs E)) := by
  obtain ⟨h1, h2, h3, h4⟩ := h
  have hh : (W.alloc (.cells cs E)).heap = W.heap.push (.cells cs E (0, 0)) := rfl
  have hk : ∀ k, k < W.heap.size -> (W.alloc (.cells cs E)).heap[k]? = W.heap[k]? := fun k hk => by
    rw [hh, Array.getElem?_push, if_neg (by omega)]
  refine ⟨⟨by rw [hh, Array.size_push]; have := h1.size; omega, fun k h1' h2' => by rw [hk k (by have := h1.size; omega)]; exact h1.same k h1' h2', h1.tape, h1.os, h1.output⟩, h2, fun k q ho => ?_, h4⟩
  have := h3 k q ho
  simp only [hp] at this ⊢
  rw [hk k (Array.getElem?_eq_some_iff.1 this).1]
  exact this

theorem zf9 {W : World} {p i : Nat} {v : Value} {k : Nat} (hk : k ≠ p) : (W.setCell ⟨p, i, none⟩ v).heap[k]? = W.heap[k]? := by
  unfold World.setCell
  split <;> simp [Array.getElem?_modify, Ne.symm hk]

theorem PsW.setCell {w0 W : World} {S0 S : Hp} {p i : Nat} {v : Value} (h : PsW w0 S0 S W) (hp' : w0.heap.size <= p) (hS : S p = none) : PsW w0 S0 S (W.setCell ⟨p, i, none⟩ v) := by
  obtain ⟨h1, h2, h3, h4⟩ := h
  have hsz : (W.setCell ⟨p, i, none⟩ v).heap.size = W.heap.size := by
    unfold World.setCell
    split <;> simp
  have ht : (W.setCell ⟨p, i, none⟩ v).tape = W.tape /\ (W.setCell ⟨p, i, none⟩ v).os = W.os /\ (W.setCell ⟨p, i, none⟩ v).output = W.output := by
    unfold World.setCell
    split
    . exact ⟨rfl, rfl, rfl⟩
    . exact ⟨rfl, rfl, rfl⟩
  refine ⟨⟨by rw [hsz]; exact h1.size, fun k h1' h2' => by rw [zf9 (by omega)]; exact h1.same k h1' h2', by rw [ht.1]; exact h1.tape, by rw [ht.2.1]; exact h1.os, by rw [ht.2.2]; exact h1.output⟩, h2, fun k q ho => ?_, h4⟩
  have hk : k ≠ p := fun e => by rw [e, hS] at ho; cases ho
  have := h3 k q ho
  simp only [hp] at this ⊢
  rw [zf9 hk]
  exact this

theorem z4g {w : World} {n : Nat} {cs : List Value} (h : Cl w n cs) (i : Nat) (v : Value) : Cl (w.setCell ⟨n, i, none⟩ v) n (cs.set i v) := by
  intro j u hj
  rw [List.getElem?_set] at hj
  by_cases e : i = j
  . subst e
    rw [if_pos rfl] at hj
    split at hj
    . rename_i hl
      cases hj
      obtain ⟨h1, h2⟩ := h i _ (List.getElem?_eq_getElem hl)
      constructor <;> simp [go_sem, h1, h2]
    . cases hj
  . rw [if_neg e] at hj
    obtain ⟨h1, h2⟩ := h j _ hj
    have e' : j ≠ i := fun h => e h.symm
    constructor <;> simp [go_sem, h1, h2, e, e']

theorem z1j {w : World} {n m : Nat} {cs : List Value} (h : Cl w n cs) (hne : m ≠ n) (i : Nat) (v : Value) : Cl (w.setCell ⟨m, i, none⟩ v) n cs := by
  intro j u hj
  obtain ⟨h1, h2⟩ := h j _ hj
  have e' : n ≠ m := fun h => hne h.symm
  constructor <;> simp [go_sem, h1, h2, hne, e']

theorem zfq {w : World} {n : Nat} {c : Value} {cs : List Value} (h : Cl w n (c :: cs)) (o : Obj) : Cl (w.alloc o) n (c :: cs) := by
  have hlt : n < w.heap.size := by
    have h0 := (h 0 c rfl).1
    rcases Nat.lt_or_ge n w.heap.size with h1 | h1
    . exact h1
    . simp [World.cell?, Array.getElem?_eq_none h1] at h0
  intro i v hi
  obtain ⟨h1, h2⟩ := h i v hi
  exact ⟨by rw [World.cell?_alloc_past _ _ _ hlt]; exact h1, by rw [World.frozen?_alloc_past _ _ _ hlt]; exact h2⟩

theorem zps {w : World} {n : Nat} {c : Value} {cs : List Value} (h : Cl w n (c :: cs)) : n < w.heap.size := by
  have h0 := (h 0 c rfl).1
  rcases Nat.lt_or_ge n w.heap.size with h1 | h1
  . exact h1
  . simp [World.cell?, Array.getElem?_eq_none h1] at h0

theorem ps_idle {w : World} {n0 n1 : Nat} :
    CallsD Go.Proofs.Tryd.prog 39 #[.pointer (some ⟨n0, 0, none⟩), .pointer (some ⟨n1, 0, none⟩)] .returning w fun e u w' => (∃ v, e = .returned v) /\ u = .returning /\ w' = w.alloc (Obj.cells #[Value.int IntKind.i64 0, Value.int IntKind.i64 0] 46) := by
  refine callsD_of_wpS Go.Proofs.Tryd.func39 rfl fun c₀ cs hu => ?_
  have ha : ∀ W : World, (Instr.typeAssert .nilIface 20 46 true).run Go.Proofs.Tryd.prog W = .ok (.tuple #[.agg #[.int .i64 0, .int .i64 0], .bool false]) W := fun W => by kernel_rfl
  apply wpS_seq
  apply wpS_region
  simp only [Go.Proofs.Tryd.ntmps39, List.size_toArray, List.length_cons, List.length_nil, Nat.reduceAdd, Nat.reduceSub, Array.replicate_succ,
     Array.replicate_zero, List.push_toArray, List.append_toArray, List.nil_append, List.cons_append]
  simp [wpOpsS, go_sem, recoverD, hu, Exit.thenS, ha, List.range_succ]
  refine wpS_of_wp ?_
  go_wp2
  cases c₀
  simp_all [bodyPostS, results, Go.Proofs.Tryd.results39]

set_option maxHeartbeats 16000000 in
theorem zow {w : World} {n0 n1 : Nat} {e a : Int} {y0 y1 : Value} {c0 c1 c2 c3 c4 c5 c6 c7 : Value} {R : World -> Prop} (h0 : Cl (w.alloc (Obj.cells #[Value.int IntKind.i64 e, Value.int IntKind.i64 a] 46)) n0 [c0, c1, c2, c3, c4, c5, c6, c7]) (h1 : Cl (w.alloc (Obj.cells #[Value.int IntKind.i64 e, Value.int IntKind.i64 a] 46)) n1 [y0, y1]) (hne : n0 ≠ n1) (hn2 : n0 ≠ w.heap.size) (hn3 : n1 ≠ w.heap.size)
    (hR : ∀ w', Cl w' n0 [.int .i64 0, .int .u64 0, .int .u64 0, .int .u64 0, .int .u64 0, .slice none 0 0, .int .i64 0, .int .i64 0] -> Cl w' n1 [.int .i64 e, .int .i64 a] →
      (∀ (w0 : World) (S0 S : Hp), PsW w0 S0 S w -> w0.heap.size <= n0 -> w0.heap.size <= n1 -> S n0 = none -> S n1 = none -> PsW w0 S0 S w') -> R w') :
    CallsD Go.Proofs.Tryd.prog 39 #[.pointer (some ⟨n0, 0, none⟩), .pointer (some ⟨n1, 0, none⟩)] (.panicking [{ v := .iface 46 (.agg #[.int .i64 e, .int .i64 a]), recovered := false }]) w fun r u w' => (∃ v, r = .returned v) /\ u = .panicking [{ v := .iface 46 (.agg #[.int .i64 e, .int .i64 a]), recovered := true }] /\ R w' := by
  refine callsD_of_wpS Go.Proofs.Tryd.func39 rfl fun c₀ cs hu => ?_
  have ha : ∀ W : World, (Instr.typeAssert (.iface 46 (.agg #[.int .i64 e, .int .i64 a])) 20 46 true).run Go.Proofs.Tryd.prog W = .ok (.tuple #[.agg #[.int .i64 e, .int .i64 a], .bool true]) W := fun W => by kernel_rfl
  have c00 : (w.alloc (Obj.cells #[Value.int IntKind.i64 e, Value.int IntKind.i64 a] 46)).cell? ⟨n0, 0, none⟩ = some (c0) := (h0 0 _ rfl).1
  have z00 : (w.alloc (Obj.cells #[Value.int IntKind.i64 e, Value.int IntKind.i64 a] 46)).frozen? ⟨n0, 0, none⟩ = false := (h0 0 _ rfl).2
  have c01 : (w.alloc (Obj.cells #[Value.int IntKind.i64 e, Value.int IntKind.i64 a] 46)).cell? ⟨n0, 1, none⟩ = some (c1) := (h0 1 _ rfl).1
  have z01 : (w.alloc (Obj.cells #[Value.int IntKind.i64 e, Value.int IntKind.i64 a] 46)).frozen? ⟨n0, 1, none⟩ = false := (h0 1 _ rfl).2
  have c02 : (w.alloc (Obj.cells #[Value.int IntKind.i64 e, Value.int IntKind.i64 a] 46)).cell? ⟨n0, 2, none⟩ = some (c2) := (h0 2 _ rfl).1
  have z02 : (w.alloc (Obj.cells #[Value.int IntKind.i64 e, Value.int IntKind.i64 a] 46)).frozen? ⟨n0, 2, none⟩ = false := (h0 2 _ rfl).2
  have c03 : (w.alloc (Obj.cells #[Value.int IntKind.i64 e, Value.int IntKind.i64 a] 46)).cell? ⟨n0, 3, none⟩ = some (c3) := (h0 3 _ rfl).1
  have z03 : (w.alloc (Obj.cells #[Value.int IntKind.i64 e, Value.int IntKind.i64 a] 46)).frozen? ⟨n0, 3, none⟩ = false := (h0 3 _ rfl).2
  have c04 : (w.alloc (Obj.cells #[Value.int IntKind.i64 e, Value.int IntKind.i64 a] 46)).cell? ⟨n0, 4, none⟩ = some (c4) := (h0 4 _ rfl).1
  have z04 : (w.alloc (Obj.cells #[Value.int IntKind.i64 e, Value.int IntKind.i64 a] 46)).frozen? ⟨n0, 4, none⟩ = false := (h0 4 _ rfl).2
  have c05 : (w.alloc (Obj.cells #[Value.int IntKind.i64 e, Value.int IntKind.i64 a] 46)).cell? ⟨n0, 5, none⟩ = some (c5) := (h0 5 _ rfl).1
  have z05 : (w.alloc (Obj.cells #[Value.int IntKind.i64 e, Value.int IntKind.i64 a] 46)).frozen? ⟨n0, 5, none⟩ = false := (h0 5 _ rfl).2
  have c06 : (w.alloc (Obj.cells #[Value.int IntKind.i64 e, Value.int IntKind.i64 a] 46)).cell? ⟨n0, 6, none⟩ = some (c6) := (h0 6 _ rfl).1
  have z06 : (w.alloc (Obj.cells #[Value.int IntKind.i64 e, Value.int IntKind.i64 a] 46)).frozen? ⟨n0, 6, none⟩ = false := (h0 6 _ rfl).2
  have c07 : (w.alloc (Obj.cells #[Value.int IntKind.i64 e, Value.int IntKind.i64 a] 46)).cell? ⟨n0, 7, none⟩ = some (c7) := (h0 7 _ rfl).1
  have z07 : (w.alloc (Obj.cells #[Value.int IntKind.i64 e, Value.int IntKind.i64 a] 46)).frozen? ⟨n0, 7, none⟩ = false := (h0 7 _ rfl).2
  have c10 : (w.alloc (Obj.cells #[Value.int IntKind.i64 e, Value.int IntKind.i64 a] 46)).cell? ⟨n1, 0, none⟩ = some (y0) := (h1 0 _ rfl).1
  have z10 : (w.alloc (Obj.cells #[Value.int IntKind.i64 e, Value.int IntKind.i64 a] 46)).frozen? ⟨n1, 0, none⟩ = false := (h1 0 _ rfl).2
  have c11 : (w.alloc (Obj.cells #[Value.int IntKind.i64 e, Value.int IntKind.i64 a] 46)).cell? ⟨n1, 1, none⟩ = some (y1) := (h1 1 _ rfl).1
  have z11 : (w.alloc (Obj.cells #[Value.int IntKind.i64 e, Value.int IntKind.i64 a] 46)).frozen? ⟨n1, 1, none⟩ = false := (h1 1 _ rfl).2
  apply wpS_seq
  apply wpS_region
  simp only [Go.Proofs.Tryd.ntmps39, List.size_toArray, List.length_cons, List.length_nil, Nat.reduceAdd, Nat.reduceSub, Array.replicate_succ,
     Array.replicate_zero, List.push_toArray, List.append_toArray, List.nil_append, List.cons_append]
  simp [wpOpsS, go_sem, recoverD, hu, Exit.thenS, ha, List.range_succ]
  refine wpS_of_wp ?_
  go_wp2
  go_region
  have hfin : R ((((((((((((w.alloc (Obj.cells #[Value.int IntKind.i64 e, Value.int IntKind.i64 a] 46)).setCell { block := n0, off := 0 } (.int .i64 0)).setCell { block := n0, off := 1 } (.int .u64 0)).setCell { block := n0, off := 2 } (.int .u64 0)).setCell { block := n0, off := 3 } (.int .u64 0)).setCell { block := n0, off := 4 } (.int .u64 0)).setCell { block := n0, off := 5 } (.slice none 0 0)).setCell { block := n0, off := 6 } (.int .i64 0)).setCell { block := n0, off := 7 } (.int .i64 0)).setCell { block := n1, off := 0 } (.int .i64 e)).setCell { block := n1, off := 1 } (.int .i64 a)).drew) := by
    refine hR _ ?_ ?_ ?_
    . intro i v hi
      rcases i with _ | _ | _ | _ | _ | _ | _ | _ | i
      case succ.succ.succ.succ.succ.succ.succ.succ => simp at hi
      all_goals (simp only [List.getElem?_cons_zero, List.getElem?_cons_succ, Option.some.injEq] at hi; subst hi; constructor <;> simp [go_sem, *])
    . intro i v hi
      rcases i with _ | _ | i
      case succ.succ => simp at hi
      all_goals (simp only [List.getElem?_cons_zero, List.getElem?_cons_succ, Option.some.injEq] at hi; subst hi; constructor <;> simp [go_sem, *])
    . intro w0 S0 S hw hl0 hl1 hS0 hS1
      exact (((((((((((hw.alloc _ _).setCell hl0 hS0).setCell hl0 hS0).setCell hl0 hS0).setCell hl0 hS0).setCell hl0 hS0).setCell hl0 hS0).setCell hl0 hS0).setCell hl0 hS0).setCell hl1 hS1).setCell hl1 hS1).drew
  change bodyPostS Go.Proofs.Tryd.prog Go.Proofs.Tryd.f39 c₀ cs _ _ _ _ _
  clear hR h0 h1 c00 z00 c01 z01 c02 z02 c03 z03 c04 z04 c05 z05 c06 z06 c07 z07 c10 z10 c11 z11
  cases c₀
  simp_all [bodyPostS, results, Go.Proofs.Tryd.results39]


theorem z10m {w : World} {s : List UInt8} {S : Hp} (hS : Lift.Sub S (hp w)) (hlen : (256 : Int) < s.length) :
    Calls Go.Proofs.Tryd.prog 23 #[.string ⟨⟨s⟩⟩] w fun r w' => r = .returned (.tuple #[.agg #[Value.int IntKind.i64 0, Value.int IntKind.u64 0, Value.int IntKind.u64 0, Value.int IntKind.u64 0, Value.int IntKind.u64 0, Value.slice none 0 0, Value.int IntKind.i64 0, Value.int IntKind.i64 0], .agg #[.int .i64 3, .int .i64 256]]) /\ PsW w S S w' := by
  have h0 : PsW w S S w := ⟨WF.refl _ _, Lift.Sub.refl _, hS, fun k hk => .inl hk⟩
  have hn0 : S w.heap.size = none := by
    cases hx : S w.heap.size with
    | none => rfl
    | some o => exact absurd (z6z (hS _ _ hx)) (Nat.lt_irrefl _)
  have hn1 : S (w.heap.size + 1) = none := by
    cases hx : S (w.heap.size + 1) with
    | none => rfl
    | some o => exact absurd (z6z (hS _ _ hx)) (by omega)
  go_enter Go.Proofs.Tryd.func23, Go.Proofs.Tryd.ntmps23
  go_wp2
  simp [bodyPost, results, Go.Proofs.Tryd.results23, go_sem]
  exact (h0.alloc _ _).alloc _ _

set_option maxHeartbeats 16000000 in
theorem ps_ok {w : World} {s : List UInt8} {S : Hp} {at_ : Int} {F : Hp -> Value -> Prop} (hlen : ¬ (256 : Int) < s.length)
    (hc : Calls Go.Proofs.Tryd.prog 40 #[.pointer (some ⟨w.heap.size + 1 + 1, 0, none⟩)] (((w.alloc (Obj.cells #[Value.int IntKind.i64 0, Value.int IntKind.u64 0, Value.int IntKind.u64 0, Value.int IntKind.u64 0, Value.int IntKind.u64 0, Value.slice none 0 0, Value.int IntKind.i64 0, Value.int IntKind.i64 0] 27)).alloc (Obj.cells #[Value.int IntKind.i64 0, Value.int IntKind.i64 0] 46)).alloc (Obj.cells #[Value.string ⟨⟨s⟩⟩, Value.int IntKind.i64 0, Value.int IntKind.i64 0] 74)) fun r w2 => ∃ (k a0 a1 a2 a3 lo hi : Int) (sp : Option Addr) (sn sc : Nat) (S' : Hp), r = .returned (.agg #[.int .i64 k, .int .u64 a0, .int .u64 a1, .int .u64 a2, .int .u64 a3, .slice sp sn sc, .int .i64 lo, .int .i64 hi]) /\ Cl w2 (w.heap.size) [.int .i64 0, .int .u64 0, .int .u64 0, .int .u64 0, .int .u64 0, .slice none 0 0, .int .i64 0, .int .i64 0] /\ Cl w2 (w.heap.size + 1) [.int .i64 0, .int .i64 0] /\ w2.cell? ⟨w.heap.size + 1 + 1, 1, none⟩ = some (.int .i64 at_) /\ S' (w.heap.size) = none /\ S' (w.heap.size + 1) = none /\ PsW w S S' w2 /\ F S' (.agg #[.int .i64 k, .int .u64 a0, .int .u64 a1, .int .u64 a2, .int .u64 a3, .slice sp sn sc, .int .i64 lo, .int .i64 hi]))
    (hat : ¬ at_ < s.length) :
    Calls Go.Proofs.Tryd.prog 23 #[.string ⟨⟨s⟩⟩] w fun r w' => ∃ v S', r = .returned (.tuple #[v, .agg #[.int .i64 0, .int .i64 0]]) /\ F S' v /\ PsW w S S' w' := by
  have hmf : ∀ (fn : Fn) (first cap : Array Value) (w : World), (Instr.makeFunc fn first cap).run Go.Proofs.Tryd.prog w = .ok (.func fn first cap) w := fun _ _ _ _ => rfl
  have p1 : w.heap.size + 1 + 1 ≠ w.heap.size := by omega
  have p2 : w.heap.size + 1 ≠ w.heap.size := by omega
  go_enter_defers Go.Proofs.Tryd.func23, Go.Proofs.Tryd.ntmps23
  go_wp2_with (first
    | (go_at_call 40; refine hc.mono ?_; rintro r w2 ⟨k, a0, a1, a2, a3, lo, hi, sp, sn, sc, S', rfl, hC0, hC1, hat2, hs0, hs1, hP, hFF⟩; have c00 := (hC0 0 _ rfl).1; have z00 := (hC0 0 _ rfl).2; have c01 := (hC0 1 _ rfl).1; have z01 := (hC0 1 _ rfl).2; have c02 := (hC0 2 _ rfl).1; have z02 := (hC0 2 _ rfl).2; have c03 := (hC0 3 _ rfl).1; have z03 := (hC0 3 _ rfl).2; have c04 := (hC0 4 _ rfl).1; have z04 := (hC0 4 _ rfl).2; have c05 := (hC0 5 _ rfl).1; have z05 := (hC0 5 _ rfl).2; have c06 := (hC0 6 _ rfl).1; have z06 := (hC0 6 _ rfl).2; have c07 := (hC0 7 _ rfl).1; have z07 := (hC0 7 _ rfl).2; have c10 := (hC1 0 _ rfl).1; have z10 := (hC1 0 _ rfl).2; have c11 := (hC1 1 _ rfl).1; have z11 := (hC1 1 _ rfl).2; have hl0 : w.heap.size < w2.heap.size := zps hC0; have hl1 : w.heap.size + 1 < w2.heap.size := zps hC1; have H0 := Go.Lib.hid hC0; have H1 := Go.Lib.hid hC1; have HP := Go.Lib.hid hP; have HF := Go.Lib.hid hFF; clear hc hC0 hC1 hP hFF))
  have k0 : Cl (((((((((((((((((((w2).setCell { block := w.heap.size, off := 0 } (Value.int IntKind.i64 k)).setCell { block := w.heap.size, off := 1 } (Value.int IntKind.u64 a0)).setCell { block := w.heap.size, off := 2 } (Value.int IntKind.u64 a1)).setCell { block := w.heap.size, off := 3 } (Value.int IntKind.u64 a2)).setCell { block := w.heap.size, off := 4 } (Value.int IntKind.u64 a3)).setCell { block := w.heap.size, off := 5 } (Value.slice sp sn sc)).setCell { block := w.heap.size, off := 6 } (Value.int IntKind.i64 lo)).setCell { block := w.heap.size, off := 7 } (Value.int IntKind.i64 hi)).setCell { block := w.heap.size, off := 0 } (Value.int IntKind.i64 k)).setCell { block := w.heap.size, off := 1 } (Value.int IntKind.u64 a0)).setCell { block := w.heap.size, off := 2 } (Value.int IntKind.u64 a1)).setCell { block := w.heap.size, off := 3 } (Value.int IntKind.u64 a2)).setCell { block := w.heap.size, off := 4 } (Value.int IntKind.u64 a3)).setCell { block := w.heap.size, off := 5 } (Value.slice sp sn sc)).setCell { block := w.heap.size, off := 6 } (Value.int IntKind.i64 lo)).setCell { block := w.heap.size, off := 7 } (Value.int IntKind.i64 hi)).setCell { block := w.heap.size + 1, off := 0 } (Value.int IntKind.i64 0)).setCell { block := w.heap.size + 1, off := 1 } (Value.int IntKind.i64 0)) (w.heap.size) [.int .i64 k, .int .u64 a0, .int .u64 a1, .int .u64 a2, .int .u64 a3, .slice sp sn sc, .int .i64 lo, .int .i64 hi] := (z1j (z1j (z4g (z4g (z4g (z4g (z4g (z4g (z4g (z4g (z4g (z4g (z4g (z4g (z4g (z4g (z4g (z4g H0.out 0 _) 1 _) 2 _) 3 _) 4 _) 5 _) 6 _) 7 _) 0 _) 1 _) 2 _) 3 _) 4 _) 5 _) 6 _) 7 _) p2 0 _) p2 1 _)
  have k1 : Cl (((((((((((((((((((w2).setCell { block := w.heap.size, off := 0 } (Value.int IntKind.i64 k)).setCell { block := w.heap.size, off := 1 } (Value.int IntKind.u64 a0)).setCell { block := w.heap.size, off := 2 } (Value.int IntKind.u64 a1)).setCell { block := w.heap.size, off := 3 } (Value.int IntKind.u64 a2)).setCell { block := w.heap.size, off := 4 } (Value.int IntKind.u64 a3)).setCell { block := w.heap.size, off := 5 } (Value.slice sp sn sc)).setCell { block := w.heap.size, off := 6 } (Value.int IntKind.i64 lo)).setCell { block := w.heap.size, off := 7 } (Value.int IntKind.i64 hi)).setCell { block := w.heap.size, off := 0 } (Value.int IntKind.i64 k)).setCell { block := w.heap.size, off := 1 } (Value.int IntKind.u64 a0)).setCell { block := w.heap.size, off := 2 } (Value.int IntKind.u64 a1)).setCell { block := w.heap.size, off := 3 } (Value.int IntKind.u64 a2)).setCell { block := w.heap.size, off := 4 } (Value.int IntKind.u64 a3)).setCell { block := w.heap.size, off := 5 } (Value.slice sp sn sc)).setCell { block := w.heap.size, off := 6 } (Value.int IntKind.i64 lo)).setCell { block := w.heap.size, off := 7 } (Value.int IntKind.i64 hi)).setCell { block := w.heap.size + 1, off := 0 } (Value.int IntKind.i64 0)).setCell { block := w.heap.size + 1, off := 1 } (Value.int IntKind.i64 0)) (w.heap.size + 1) [.int .i64 0, .int .i64 0] := (z4g (z4g (z1j (z1j (z1j (z1j (z1j (z1j (z1j (z1j (z1j (z1j (z1j (z1j (z1j (z1j (z1j (z1j H1.out p2.symm 0 _) p2.symm 1 _) p2.symm 2 _) p2.symm 3 _) p2.symm 4 _) p2.symm 5 _) p2.symm 6 _) p2.symm 7 _) p2.symm 0 _) p2.symm 1 _) p2.symm 2 _) p2.symm 3 _) p2.symm 4 _) p2.symm 5 _) p2.symm 6 _) p2.symm 7 _) 0 _) 1 _)
  have k2 : PsW w S S' (((((((((((((((((((w2).setCell { block := w.heap.size, off := 0 } (Value.int IntKind.i64 k)).setCell { block := w.heap.size, off := 1 } (Value.int IntKind.u64 a0)).setCell { block := w.heap.size, off := 2 } (Value.int IntKind.u64 a1)).setCell { block := w.heap.size, off := 3 } (Value.int IntKind.u64 a2)).setCell { block := w.heap.size, off := 4 } (Value.int IntKind.u64 a3)).setCell { block := w.heap.size, off := 5 } (Value.slice sp sn sc)).setCell { block := w.heap.size, off := 6 } (Value.int IntKind.i64 lo)).setCell { block := w.heap.size, off := 7 } (Value.int IntKind.i64 hi)).setCell { block := w.heap.size, off := 0 } (Value.int IntKind.i64 k)).setCell { block := w.heap.size, off := 1 } (Value.int IntKind.u64 a0)).setCell { block := w.heap.size, off := 2 } (Value.int IntKind.u64 a1)).setCell { block := w.heap.size, off := 3 } (Value.int IntKind.u64 a2)).setCell { block := w.heap.size, off := 4 } (Value.int IntKind.u64 a3)).setCell { block := w.heap.size, off := 5 } (Value.slice sp sn sc)).setCell { block := w.heap.size, off := 6 } (Value.int IntKind.i64 lo)).setCell { block := w.heap.size, off := 7 } (Value.int IntKind.i64 hi)).setCell { block := w.heap.size + 1, off := 0 } (Value.int IntKind.i64 0)).setCell { block := w.heap.size + 1, off := 1 } (Value.int IntKind.i64 0)) := by
    have HQ := HP.out
    have hn0 : w.heap.size <= w.heap.size := Nat.le_refl _
    have hn1 : w.heap.size <= w.heap.size + 1 := by omega
    exact ((((((((((((((((((HQ.setCell hn0 hs0).setCell hn0 hs0).setCell hn0 hs0).setCell hn0 hs0).setCell hn0 hs0).setCell hn0 hs0).setCell hn0 hs0).setCell hn0 hs0).setCell hn0 hs0).setCell hn0 hs0).setCell hn0 hs0).setCell hn0 hs0).setCell hn0 hs0).setCell hn0 hs0).setCell hn0 hs0).setCell hn0 hs0).setCell hn1 hs1).setCell hn1 hs1)
  clear c00 z00 c01 z01 c02 z02 c03 z03 c04 z04 c05 z05 c06 z06 c07 z07 c10 z10 c11 z11
  generalize (((((((((((((((((((w2).setCell { block := w.heap.size, off := 0 } (Value.int IntKind.i64 k)).setCell { block := w.heap.size, off := 1 } (Value.int IntKind.u64 a0)).setCell { block := w.heap.size, off := 2 } (Value.int IntKind.u64 a1)).setCell { block := w.heap.size, off := 3 } (Value.int IntKind.u64 a2)).setCell { block := w.heap.size, off := 4 } (Value.int IntKind.u64 a3)).setCell { block := w.heap.size, off := 5 } (Value.slice sp sn sc)).setCell { block := w.heap.size, off := 6 } (Value.int IntKind.i64 lo)).setCell { block := w.heap.size, off := 7 } (Value.int IntKind.i64 hi)).setCell { block := w.heap.size, off := 0 } (Value.int IntKind.i64 k)).setCell { block := w.heap.size, off := 1 } (Value.int IntKind.u64 a0)).setCell { block := w.heap.size, off := 2 } (Value.int IntKind.u64 a1)).setCell { block := w.heap.size, off := 3 } (Value.int IntKind.u64 a2)).setCell { block := w.heap.size, off := 4 } (Value.int IntKind.u64 a3)).setCell { block := w.heap.size, off := 5 } (Value.slice sp sn sc)).setCell { block := w.heap.size, off := 6 } (Value.int IntKind.i64 lo)).setCell { block := w.heap.size, off := 7 } (Value.int IntKind.i64 hi)).setCell { block := w.heap.size + 1, off := 0 } (Value.int IntKind.i64 0)).setCell { block := w.heap.size + 1, off := 1 } (Value.int IntKind.i64 0)) = W3 at *
  refine leaves_cons (f := 39) (args := #[.pointer (some ⟨w.heap.size, 0, none⟩), .pointer (some ⟨w.heap.size + 1, 0, none⟩)]) (by simp) (by simp [go_sem]) ?_
  refine ps_idle.mono ?_
  rintro r u w5 ⟨⟨v, rfl⟩, rfl, rfl⟩
  have m0 := zfq k0 (Obj.cells #[Value.int IntKind.i64 0, Value.int IntKind.i64 0] 46)
  have m1 := zfq k1 (Obj.cells #[Value.int IntKind.i64 0, Value.int IntKind.i64 0] 46)
  have e00 := (m0 0 _ rfl).1; have e01 := (m0 1 _ rfl).1; have e02 := (m0 2 _ rfl).1; have e03 := (m0 3 _ rfl).1; have e04 := (m0 4 _ rfl).1; have e05 := (m0 5 _ rfl).1; have e06 := (m0 6 _ rfl).1; have e07 := (m0 7 _ rfl).1; have e10 := (m1 0 _ rfl).1; have e11 := (m1 1 _ rfl).1
  refine ⟨_, ?_, _, S', rfl, HF.out, k2.alloc _ _⟩
  clear k0 k1 k2 m0 m1 hmf
  simp [results, Go.Proofs.Tryd.results23, go_sem, e00, e01, e02, e03, e04, e05, e06, e07, e10, e11]

set_option maxHeartbeats 16000000 in
theorem z14n {w : World} {s : List UInt8} {S : Hp} {e a : Int} (hlen : ¬ (256 : Int) < s.length) (hs0 : S (w.heap.size) = none) (hs1 : S (w.heap.size + 1) = none)
    (hc : Calls Go.Proofs.Tryd.prog 40 #[.pointer (some ⟨w.heap.size + 1 + 1, 0, none⟩)] (((w.alloc (Obj.cells #[Value.int IntKind.i64 0, Value.int IntKind.u64 0, Value.int IntKind.u64 0, Value.int IntKind.u64 0, Value.int IntKind.u64 0, Value.slice none 0 0, Value.int IntKind.i64 0, Value.int IntKind.i64 0] 27)).alloc (Obj.cells #[Value.int IntKind.i64 0, Value.int IntKind.i64 0] 46)).alloc (Obj.cells #[Value.string ⟨⟨s⟩⟩, Value.int IntKind.i64 0, Value.int IntKind.i64 0] 74)) fun r w2 => r = .panicked [{ v := .iface 46 (.agg #[.int .i64 e, .int .i64 a]), recovered := false }] /\ Cl w2 (w.heap.size) [.int .i64 0, .int .u64 0, .int .u64 0, .int .u64 0, .int .u64 0, .slice none 0 0, .int .i64 0, .int .i64 0] /\ Cl w2 (w.heap.size + 1) [.int .i64 0, .int .i64 0] /\ PsW w S S w2) :
    Calls Go.Proofs.Tryd.prog 23 #[.string ⟨⟨s⟩⟩] w fun r w' => r = .returned (.tuple #[.agg #[Value.int IntKind.i64 0, Value.int IntKind.u64 0, Value.int IntKind.u64 0, Value.int IntKind.u64 0, Value.int IntKind.u64 0, Value.slice none 0 0, Value.int IntKind.i64 0, Value.int IntKind.i64 0], .agg #[.int .i64 e, .int .i64 a]]) /\ PsW w S S w' := by
  have hmf : ∀ (fn : Fn) (first cap : Array Value) (w : World), (Instr.makeFunc fn first cap).run Go.Proofs.Tryd.prog w = .ok (.func fn first cap) w := fun _ _ _ _ => rfl
  have p1 : w.heap.size + 1 + 1 ≠ w.heap.size := by omega
  have p2 : w.heap.size + 1 ≠ w.heap.size := by omega
  go_enter_defers Go.Proofs.Tryd.func23, Go.Proofs.Tryd.ntmps23
  go_wp2_with (first
    | (go_at_call 40; refine hc.mono ?_; rintro r w2 ⟨rfl, hC0, hC1, hP⟩; have H0 := Go.Lib.hid hC0; have H1 := Go.Lib.hid hC1; have HP := Go.Lib.hid hP; clear hc hC0 hC1 hP))
  refine leaves_cons (f := 39) (args := #[.pointer (some ⟨w.heap.size, 0, none⟩), .pointer (some ⟨w.heap.size + 1, 0, none⟩)]) (by simp) (by simp [go_sem]) ?_
  refine (zow (R := fun w' => Cl w' (w.heap.size) [.int .i64 0, .int .u64 0, .int .u64 0, .int .u64 0, .int .u64 0, .slice none 0 0, .int .i64 0, .int .i64 0] /\ Cl w' (w.heap.size + 1) [.int .i64 e, .int .i64 a] /\ PsW w S S w') (zfq H0.out _) (zfq H1.out _) p2.symm (Nat.ne_of_lt (zps H0.out)) (Nat.ne_of_lt (zps H1.out)) (fun w' g0 g1 g2 => ⟨g0, g1, g2 w S S HP.out (Nat.le_refl _) (Nat.le_succ _) hs0 hs1⟩)).mono ?_
  rintro r u w5 ⟨⟨v, rfl⟩, rfl, m0, m1, hP5⟩
  have e00 := (m0 0 _ rfl).1; have e01 := (m0 1 _ rfl).1; have e02 := (m0 2 _ rfl).1; have e03 := (m0 3 _ rfl).1; have e04 := (m0 4 _ rfl).1; have e05 := (m0 5 _ rfl).1; have e06 := (m0 6 _ rfl).1; have e07 := (m0 7 _ rfl).1; have e10 := (m1 0 _ rfl).1; have e11 := (m1 1 _ rfl).1
  clear m0 m1 hmf H0 H1
  simp [Leaves, settle, results, Go.Proofs.Tryd.results23, go_sem, e00, e01, e02, e03, e04, e05, e06, e07, e10, e11]
  exact hP5

set_option maxHeartbeats 16000000 in
theorem z14o {w : World} {s : List UInt8} {S : Hp} {at_ : Int} (hlen : ¬ (256 : Int) < s.length)
    (hc : Calls Go.Proofs.Tryd.prog 40 #[.pointer (some ⟨w.heap.size + 1 + 1, 0, none⟩)] (((w.alloc (Obj.cells #[Value.int IntKind.i64 0, Value.int IntKind.u64 0, Value.int IntKind.u64 0, Value.int IntKind.u64 0, Value.int IntKind.u64 0, Value.slice none 0 0, Value.int IntKind.i64 0, Value.int IntKind.i64 0] 27)).alloc (Obj.cells #[Value.int IntKind.i64 0, Value.int IntKind.i64 0] 46)).alloc (Obj.cells #[Value.string ⟨⟨s⟩⟩, Value.int IntKind.i64 0, Value.int IntKind.i64 0] 74)) fun r w2 => ∃ (k a0 a1 a2 a3 lo hi : Int) (sp : Option Addr) (sn sc : Nat) (S' : Hp), r = .returned (.agg #[.int .i64 k, .int .u64 a0, .int .u64 a1, .int .u64 a2, .int .u64 a3, .slice sp sn sc, .int .i64 lo, .int .i64 hi]) /\ Cl w2 (w.heap.size) [.int .i64 0, .int .u64 0, .int .u64 0, .int .u64 0, .int .u64 0, .slice none 0 0, .int .i64 0, .int .i64 0] /\ Cl w2 (w.heap.size + 1) [.int .i64 0, .int .i64 0] /\ w2.cell? ⟨w.heap.size + 1 + 1, 1, none⟩ = some (.int .i64 at_) /\ S' (w.heap.size) = none /\ S' (w.heap.size + 1) = none /\ PsW w S S' w2)
    (hat : at_ < s.length) :
    Calls Go.Proofs.Tryd.prog 23 #[.string ⟨⟨s⟩⟩] w fun r w' => r = .returned (.tuple #[.agg #[Value.int IntKind.i64 0, Value.int IntKind.u64 0, Value.int IntKind.u64 0, Value.int IntKind.u64 0, Value.int IntKind.u64 0, Value.slice none 0 0, Value.int IntKind.i64 0, Value.int IntKind.i64 0], .agg #[.int .i64 2, .int .i64 at_]]) /\ ∃ S', PsW w S S' w' := by
  have hmf : ∀ (fn : Fn) (first cap : Array Value) (w : World), (Instr.makeFunc fn first cap).run Go.Proofs.Tryd.prog w = .ok (.func fn first cap) w := fun _ _ _ _ => rfl
  have p1 : w.heap.size + 1 + 1 ≠ w.heap.size := by omega
  have p2 : w.heap.size + 1 ≠ w.heap.size := by omega
  go_enter_defers Go.Proofs.Tryd.func23, Go.Proofs.Tryd.ntmps23
  go_wp2_with (first
    | (go_at_call 40; refine hc.mono ?_; rintro r w2 ⟨k, a0, a1, a2, a3, lo, hi, sp, sn, sc, S', rfl, hC0, hC1, hat2, hs0, hs1, hP⟩; have c00 := (hC0 0 _ rfl).1; have z00 := (hC0 0 _ rfl).2; have c01 := (hC0 1 _ rfl).1; have z01 := (hC0 1 _ rfl).2; have c02 := (hC0 2 _ rfl).1; have z02 := (hC0 2 _ rfl).2; have c03 := (hC0 3 _ rfl).1; have z03 := (hC0 3 _ rfl).2; have c04 := (hC0 4 _ rfl).1; have z04 := (hC0 4 _ rfl).2; have c05 := (hC0 5 _ rfl).1; have z05 := (hC0 5 _ rfl).2; have c06 := (hC0 6 _ rfl).1; have z06 := (hC0 6 _ rfl).2; have c07 := (hC0 7 _ rfl).1; have z07 := (hC0 7 _ rfl).2; have c10 := (hC1 0 _ rfl).1; have z10 := (hC1 0 _ rfl).2; have c11 := (hC1 1 _ rfl).1; have z11 := (hC1 1 _ rfl).2; have hl0 : w.heap.size < w2.heap.size := zps hC0; have hl1 : w.heap.size + 1 < w2.heap.size := zps hC1; have H0 := Go.Lib.hid hC0; have H1 := Go.Lib.hid hC1; have HP := Go.Lib.hid hP; clear hc hC0 hC1 hP)
    | (go_at_call 41; refine fail_walk.mono ?_; rintro r w3 ⟨rfl, rfl⟩))
  have k0 : Cl (((((((((w2).setCell { block := w.heap.size, off := 0 } (Value.int IntKind.i64 k)).setCell { block := w.heap.size, off := 1 } (Value.int IntKind.u64 a0)).setCell { block := w.heap.size, off := 2 } (Value.int IntKind.u64 a1)).setCell { block := w.heap.size, off := 3 } (Value.int IntKind.u64 a2)).setCell { block := w.heap.size, off := 4 } (Value.int IntKind.u64 a3)).setCell { block := w.heap.size, off := 5 } (Value.slice sp sn sc)).setCell { block := w.heap.size, off := 6 } (Value.int IntKind.i64 lo)).setCell { block := w.heap.size, off := 7 } (Value.int IntKind.i64 hi)) (w.heap.size) [.int .i64 k, .int .u64 a0, .int .u64 a1, .int .u64 a2, .int .u64 a3, .slice sp sn sc, .int .i64 lo, .int .i64 hi] := (z4g (z4g (z4g (z4g (z4g (z4g (z4g (z4g H0.out 0 _) 1 _) 2 _) 3 _) 4 _) 5 _) 6 _) 7 _)
  have k1 : Cl (((((((((w2).setCell { block := w.heap.size, off := 0 } (Value.int IntKind.i64 k)).setCell { block := w.heap.size, off := 1 } (Value.int IntKind.u64 a0)).setCell { block := w.heap.size, off := 2 } (Value.int IntKind.u64 a1)).setCell { block := w.heap.size, off := 3 } (Value.int IntKind.u64 a2)).setCell { block := w.heap.size, off := 4 } (Value.int IntKind.u64 a3)).setCell { block := w.heap.size, off := 5 } (Value.slice sp sn sc)).setCell { block := w.heap.size, off := 6 } (Value.int IntKind.i64 lo)).setCell { block := w.heap.size, off := 7 } (Value.int IntKind.i64 hi)) (w.heap.size + 1) [.int .i64 0, .int .i64 0] := (z1j (z1j (z1j (z1j (z1j (z1j (z1j (z1j H1.out p2.symm 0 _) p2.symm 1 _) p2.symm 2 _) p2.symm 3 _) p2.symm 4 _) p2.symm 5 _) p2.symm 6 _) p2.symm 7 _)
  have k2 : PsW w S S' (((((((((w2).setCell { block := w.heap.size, off := 0 } (Value.int IntKind.i64 k)).setCell { block := w.heap.size, off := 1 } (Value.int IntKind.u64 a0)).setCell { block := w.heap.size, off := 2 } (Value.int IntKind.u64 a1)).setCell { block := w.heap.size, off := 3 } (Value.int IntKind.u64 a2)).setCell { block := w.heap.size, off := 4 } (Value.int IntKind.u64 a3)).setCell { block := w.heap.size, off := 5 } (Value.slice sp sn sc)).setCell { block := w.heap.size, off := 6 } (Value.int IntKind.i64 lo)).setCell { block := w.heap.size, off := 7 } (Value.int IntKind.i64 hi)) := ((((((((HP.out.setCell (Nat.le_refl _) hs0).setCell (Nat.le_refl _) hs0).setCell (Nat.le_refl _) hs0).setCell (Nat.le_refl _) hs0).setCell (Nat.le_refl _) hs0).setCell (Nat.le_refl _) hs0).setCell (Nat.le_refl _) hs0).setCell (Nat.le_refl _) hs0)
  clear c00 z00 c01 z01 c02 z02 c03 z03 c04 z04 c05 z05 c06 z06 c07 z07 c10 z10 c11 z11
  generalize (((((((((w2).setCell { block := w.heap.size, off := 0 } (Value.int IntKind.i64 k)).setCell { block := w.heap.size, off := 1 } (Value.int IntKind.u64 a0)).setCell { block := w.heap.size, off := 2 } (Value.int IntKind.u64 a1)).setCell { block := w.heap.size, off := 3 } (Value.int IntKind.u64 a2)).setCell { block := w.heap.size, off := 4 } (Value.int IntKind.u64 a3)).setCell { block := w.heap.size, off := 5 } (Value.slice sp sn sc)).setCell { block := w.heap.size, off := 6 } (Value.int IntKind.i64 lo)).setCell { block := w.heap.size, off := 7 } (Value.int IntKind.i64 hi)) = W3 at *
  refine leaves_cons (f := 39) (args := #[.pointer (some ⟨w.heap.size, 0, none⟩), .pointer (some ⟨w.heap.size + 1, 0, none⟩)]) (by simp) (by simp [go_sem]) ?_
  refine (zow (R := fun w' => Cl w' (w.heap.size) [.int .i64 0, .int .u64 0, .int .u64 0, .int .u64 0, .int .u64 0, .slice none 0 0, .int .i64 0, .int .i64 0] /\ Cl w' (w.heap.size + 1) [.int .i64 2, .int .i64 at_] /\ PsW w S S' w') (zfq k0 _) (zfq k1 _) p2.symm (Nat.ne_of_lt (zps k0)) (Nat.ne_of_lt (zps k1)) (fun w' g0 g1 g2 => ⟨g0, g1, g2 w S S' k2 (Nat.le_refl _) (Nat.le_succ _) hs0 hs1⟩)).mono ?_
  rintro r u w5 ⟨⟨v, rfl⟩, rfl, m0, m1, hP5⟩
  have e00 := (m0 0 _ rfl).1; have e01 := (m0 1 _ rfl).1; have e02 := (m0 2 _ rfl).1; have e03 := (m0 3 _ rfl).1; have e04 := (m0 4 _ rfl).1; have e05 := (m0 5 _ rfl).1; have e06 := (m0 6 _ rfl).1; have e07 := (m0 7 _ rfl).1; have e10 := (m1 0 _ rfl).1; have e11 := (m1 1 _ rfl).1
  clear m0 m1 hmf k0 k1 H0 H1
  simp [Leaves, settle, results, Go.Proofs.Tryd.results23, go_sem, e00, e01, e02, e03, e04, e05, e06, e07, e10, e11]
  exact ⟨S', hP5⟩

theorem zsr {S : Hp} {y : NodT.den} {v : Value} (h : VR S NodT y v) : ∃ (k a0 a1 a2 a3 lo hi : Int) (sp : Option Addr) (sn sc : Nat), v = .agg #[.int .i64 k, .int .u64 a0, .int .u64 a1, .int .u64 a2, .int .u64 a3, .slice sp sn sc, .int .i64 lo, .int .i64 hi] := by
  unfold VR at h
  simp only [T.isAgg, if_true] at h
  obtain ⟨cs, e, h⟩ := h
  obtain ⟨c1, d1, e1, h1, c2, d2, e2, h2, c3, d3, e3, h3, c4, d4, e4, h4, c5, d5, e5, h5, h6⟩ := h
  have h1 : c1 = [.int .i64 y.1] := h1
  have h4 : c4 = [.int .i64 y.2.2.2.1] := h4
  have h5 : c5 = [.int .i64 y.2.2.2.2.1] := h5
  have h6 : d5 = [] := h6
  obtain ⟨hl, ha⟩ := h2
  obtain ⟨sp, sc, h3, _⟩ := h3
  obtain ⟨k, arr, sl, lo, hi, u⟩ := y
  match arr, hl with
  | [a0, a1, a2, a3], _ =>
    obtain ⟨q0, r0, f0, g0, q1, r1, f1, g1, q2, r2, f2, g2, q3, r3, f3, g3, g4⟩ := ha
    have g0 : q0 = [.int .u64 a0] := g0
    have g1 : q1 = [.int .u64 a1] := g1
    have g2 : q2 = [.int .u64 a2] := g2
    have g3 : q3 = [.int .u64 a3] := g3
    have g4 : r3 = [] := g4
    refine ⟨k, a0, a1, a2, a3, lo, hi, sp, List.length sl, sc, ?_⟩
    rw [e]
    congr 1
    apply Array.toList_inj.1
    rw [e1, h1, e2, f0, g0, f1, g1, f2, g2, f3, g3, g4, e3, h3, e4, h4, e5, h5, h6]
    rfl

abbrev zzu : T := .pair (.int .i64) (.pair (.int .i64) .unit)

def z17o : NodT.den := ((0 : Int), (([(0 : Int), 0, 0, 0] : List Int), (([] : List Go.Lift.Tree), ((0 : Int), ((0 : Int), ())))))

theorem zq2 (S : Hp) : VR S NodT z17o (.agg #[Value.int IntKind.i64 0, Value.int IntKind.u64 0, Value.int IntKind.u64 0, Value.int IntKind.u64 0, Value.int IntKind.u64 0, Value.slice none 0 0, Value.int IntKind.i64 0, Value.int IntKind.i64 0]) := (zzw (t := NodT) (x := z17o) rfl).mono (zaj _)

theorem zrz (S : Hp) (e a : Int) : VR S zzu (e, a, ()) (.agg #[.int .i64 e, .int .i64 a]) := (zzw (t := zzu) (x := (e, a, ())) rfl).mono (zaj _)

def zdo (N : Nat) (s : List UInt8) : Option (z3s [NodT, zzu]) :=
 cond (decide ((256 : Int) < s.length))
 (some (z17o, ((3, 256, ()), ())))
 (orP (z1g N (s, (0, (0, ())))) (fun z => some (z17o, (z, ())))
 ((zj N (s, (0, (0, ())))).bind fun y =>
 cond (decide (y.2.1.2.1 < (s.length : Int)))
 (some (z17o, ((2, y.2.1.2.1, ()), ())))
 (some (y.1, ((0, 0, ()), ())))))

def zey (N : Nat) : List A -> Res := z13 [(0, .v .str)] (fun x => zdo N x.1) (zbr (.tup [NodT, zzu]) 1)

theorem z1dx {w : World} {n : Nat} {cs : Array Value} {E : Nat} (h : w.heap[n]? = some (.cells cs E (0, 0))) : Cl w n cs.toList := by
  intro i v hi
  have hi' : cs[i]? = some v := by rw [<- Array.getElem?_toList]; exact hi
  constructor
  . simp [World.cell?, h, hi']
  . simp [World.frozen?, h]

def psW (w : World) (s : List UInt8) : World := ((w.alloc (Obj.cells #[Value.int IntKind.i64 0, Value.int IntKind.u64 0, Value.int IntKind.u64 0, Value.int IntKind.u64 0, Value.int IntKind.u64 0, Value.slice none 0 0, Value.int IntKind.i64 0, Value.int IntKind.i64 0] 27)).alloc (Obj.cells #[Value.int IntKind.i64 0, Value.int IntKind.i64 0] 46)).alloc (Obj.cells #[Value.string ⟨⟨s⟩⟩, Value.int IntKind.i64 0, Value.int IntKind.i64 0] 74)

theorem zox (w : World) (s : List UInt8) : (psW w s).heap.size = w.heap.size + 3 /\ (psW w s).heap[w.heap.size]? = some (.cells #[Value.int IntKind.i64 0, Value.int IntKind.u64 0, Value.int IntKind.u64 0, Value.int IntKind.u64 0, Value.int IntKind.u64 0, Value.slice none 0 0, Value.int IntKind.i64 0, Value.int IntKind.i64 0] 27 (0, 0)) /\ (psW w s).heap[w.heap.size + 1]? = some (.cells #[Value.int IntKind.i64 0, Value.int IntKind.i64 0] 46 (0, 0)) ∧
    (psW w s).heap[w.heap.size + 1 + 1]? = some (.cells #[Value.string ⟨⟨s⟩⟩, Value.int IntKind.i64 0, Value.int IntKind.i64 0] 74 (0, 0)) /\ (∀ k, k < w.heap.size -> (psW w s).heap[k]? = w.heap[k]?) ∧
    (psW w s).tape = w.tape /\ (psW w s).os = w.os /\ (psW w s).output = w.output := by
  have hh : (psW w s).heap = ((w.heap.push (.cells #[Value.int IntKind.i64 0, Value.int IntKind.u64 0, Value.int IntKind.u64 0, Value.int IntKind.u64 0, Value.int IntKind.u64 0, Value.slice none 0 0, Value.int IntKind.i64 0, Value.int IntKind.i64 0] 27 (0, 0))).push (.cells #[Value.int IntKind.i64 0, Value.int IntKind.i64 0] 46 (0, 0))).push (.cells #[Value.string ⟨⟨s⟩⟩, Value.int IntKind.i64 0, Value.int IntKind.i64 0] 74 (0, 0)) := rfl
  refine ⟨by rw [hh]; simp, ?_, ?_, ?_, fun k hk => ?_, rfl, rfl, rfl⟩
  . rw [hh, Array.getElem?_push, if_neg (by simp; omega), Array.getElem?_push, if_neg (by simp), Array.getElem?_push, if_pos rfl]
  . rw [hh, Array.getElem?_push, if_neg (by simp), Array.getElem?_push, if_pos (by simp)]
  . rw [hh, Array.getElem?_push, if_pos (by simp)]
  . rw [hh, Array.getElem?_push, if_neg (by simp; omega), Array.getElem?_push, if_neg (by simp; omega), Array.getElem?_push, if_neg (by omega)]

theorem z10n {w : World} {s : List UInt8} {S : Hp} (hS : Lift.Sub S (hp w)) : ArgsRel (hp (psW w s)) S [.box PrsT (s, (0, (0, ())))] [.pointer (some ⟨w.heap.size + 1 + 1, 0, none⟩)] (fun i => if i = 0 then [w.heap.size + 1 + 1] else []) /\ Lift.Sub S (hp (psW w s)) := by
  obtain ⟨f1, f2, f3, f4, f5, _⟩ := zox w s
  have hsub : Lift.Sub S (hp (psW w s)) := fun k q hk => by
    have := hS k q hk
    simp only [hp] at this ⊢
    rw [f5 k (z6z (hS k q hk))]
    exact this
  refine ⟨zym (w := psW w s) (args := []) (vals := []) ?_ (by simp) (fun k hk => ?_) ⟨rfl, fun i x h => (by cases h), fun _ _ => rfl, fun i j b hb => (by cases hb), fun _ => .nil, fun i b hb => (by cases hb)⟩, hsub⟩
  . refine ⟨w.heap.size + 1 + 1, _, _, _, [], rfl, rfl, f4, zfb _, RdO.of_rd PrsT _ _ ?_⟩
    exact ⟨[.string ⟨⟨s⟩⟩], _, rfl, rfl, [.int .i64 0], _, rfl, rfl, [.int .i64 0], [], rfl, rfl, rfl⟩
  . have : k = w.heap.size + 1 + 1 := by simpa using hk
    subst this
    cases hx : S (w.heap.size + 1 + 1) with
    | none => rfl
    | some o => exact absurd (z6z (hS _ _ hx)) (by omega)

theorem znn {w : World} {S : Hp} (hS : Lift.Sub S (hp w)) {k : Nat} (hk : w.heap.size <= k) : S k = none := by
  cases hx : S k with
  | none => rfl
  | some o => exact absurd (z6z (hS _ _ hx)) (by omega)

theorem zsk {w w2 : World} {s : List UInt8} {S S' : Hp} (hS : Lift.Sub S (hp w)) (hwf : WF (psW w s) (fun b => ∃ i, b ∈ (fun i => if i = 0 then [w.heap.size + 1 + 1] else []) i) w2) (hSS : Lift.Sub S S') (hSw : Lift.Sub S' (hp w2))
    (hnew : ∀ b, S' b ≠ none -> S b ≠ none \/ b = w.heap.size + 1 + 1 \/ (psW w s).heap.size <= b) :
    Cl w2 w.heap.size [.int .i64 0, .int .u64 0, .int .u64 0, .int .u64 0, .int .u64 0, .slice none 0 0, .int .i64 0, .int .i64 0] /\ Cl w2 (w.heap.size + 1) [.int .i64 0, .int .i64 0] /\ S' w.heap.size = none /\ S' (w.heap.size + 1) = none /\ PsW w S S' w2 := by
  obtain ⟨f1, f2, f3, f4, f5, f6, f7, f8⟩ := zox w s
  have hin : ∀ k, (∃ i, k ∈ (fun i => if i = 0 then [w.heap.size + 1 + 1] else []) i) -> k = w.heap.size + 1 + 1 := by
    rintro k ⟨i, hi⟩
    by_cases hi0 : i = 0
    . simpa [hi0] using hi
    . simp [hi0] at hi
  have g0 := hwf.same w.heap.size (by omega) (fun h => by have := hin _ h; omega)
  have g1 := hwf.same (w.heap.size + 1) (by omega) (fun h => by have := hin _ h; omega)
  rw [f2] at g0
  rw [f3] at g1
  refine ⟨z1dx g0, z1dx g1, ?_, ?_, ⟨by have := hwf.size; omega, fun k hk _ => ?_, hwf.tape.trans f6, hwf.os.trans f7, hwf.output.trans f8⟩, hSS, hSw, fun k hk => ?_⟩
  . cases hx : S' w.heap.size with
    | none => rfl
    | some o =>
      rcases hnew _ (by rw [hx]; simp) with h | h | h
      . exact absurd (znn hS (Nat.le_refl _)) h
      . omega
      . omega
  . cases hx : S' (w.heap.size + 1) with
    | none => rfl
    | some o =>
      rcases hnew _ (by rw [hx]; simp) with h | h | h
      . exact absurd (znn hS (by omega)) h
      . omega
      . omega
  . rw [hwf.same k (by omega) (fun h => by have := hin _ h; omega), f5 k hk]
  . rcases hnew k hk with h | h | h
    . exact .inl h
    . exact .inr (by omega)
    . exact .inr (by omega)

theorem z14p {w : World} {S : Hp} {x : PrsT.den} {b : Nat} {o : List Nat} (h : ARel (hp w) S (fun _ => undef) (.box PrsT x) (.pointer (some ⟨b, 0, none⟩)) o) : w.cell? ⟨b, 1, none⟩ = some (.int .i64 x.2.1) := by
  obtain ⟨b', cs, E, fr, bs, e, e', hb, hf, hr⟩ := h
  cases e'
  obtain ⟨_, c1, d1, hc, h1, c2, d2, hc2, h2, h3⟩ := RdO.rd PrsT x _ _ rfl hr
  have k1 : c1 = [.string ⟨⟨x.1⟩⟩] := h1
  have k2 : c2 = [.int .i64 x.2.1] := h2
  have : cs[1]? = some (.int .i64 x.2.1) := by
    rw [<- Array.getElem?_toList, hc, k1, hc2, k2]; rfl
  have hb : w.heap[b]? = some (.cells cs E fr) := hb
  simp [World.cell?, hb, this]

theorem zno {w w' : World} {s : List UInt8} {S S' : Hp} {ob : Nat -> List Nat} {y : z3s [NodT, zzu]} {v1 v2 : Value} (hob : ∀ i, ob i = []) (hP : PsW w S S' w') (h1 : VR S' NodT y.1 v1) (h2 : VR S' zzu y.2.1 v2) :
    Lift.Ends w S (mkS [(0, .v .str)] 0 (s, ())) [.string ⟨⟨s⟩⟩] ob (zbr (.tup [NodT, zzu]) 1 y).1 (zbr (.tup [NodT, zzu]) 1 y).2 (.returned (.tuple #[v1, v2])) w' := by
  obtain ⟨k1, k2, k3, k4⟩ := hP
  refine ⟨_, S', [], ob, rfl, ⟨k1.size, fun k hk _ => k1.same k hk (fun h => h), k1.tape, k1.os, k1.output⟩, k2, k3, fun k hk => ?_, ⟨⟨rfl, _, rfl, .cons h1 (.cons h2 .nil)⟩, rfl⟩, (fun k hk => by cases hk), .nil, ?_, ?_, ?_, ?_, fun _ h => h⟩
  . rcases k4 k hk with h | h
    . exact .inl h
    . exact .inr (.inr h)
  . intro i x hx hbx
    match i with
    | 0 => simp [mkS, zef, AS.mk] at hx; subst hx; simp [zc4] at hbx
    | i + 1 => simp [mkS, zef] at hx
  . intro i k hk
    rw [hob i] at hk; cases hk
  . intro i j k hi
    rw [hob i] at hi; cases hi
  . intro i
    rw [hob i]; exact .nil

theorem zm6 (N : Nat) : Contract Go.Proofs.Tryd.prog glob 23 (zey N) := by
  refine Contract.hand ⟨_, Go.Proofs.Tryd.func23, by kernel_rfl, by decide⟩ ?_
  intro w S vals ob x y har hS hg hy
  obtain ⟨s, u⟩ := x
  cases u
  have hob : ∀ i, ob i = [] := by
    intro i
    rcases i with _ | i
    . obtain ⟨⟨v, hv, hA⟩, _⟩ := har.rel 0 _ rfl
      exact hA.2
    . exact har.out _ (by simp [mkS, zef])
  have hvals : vals = [.string ⟨⟨s⟩⟩] := by
    have hlen := har.len
    obtain ⟨⟨v0, hv0, hA0⟩, _⟩ := har.rel 0 _ rfl
    have e0 : v0 = .string ⟨⟨s⟩⟩ := VR.str_inv hA0.1
    match vals, hlen with
    | [a], _ => cases hv0; rw [e0]
  subst hvals
  have hy : zdo N s = some y := hy
  unfold zdo at hy
  by_cases hlen : (256 : Int) < s.length
  . rw [decide_eq_true hlen] at hy
    cases hy
    refine (z10m hS hlen).mono ?_
    rintro r w' ⟨rfl, hP⟩
    exact zno hob hP (zq2 _) (zrz _ _ _)
  . rw [decide_eq_false hlen] at hy
    simp only [cond_false] at hy
    obtain ⟨hA, hSB⟩ := z10n (s := s) hS
    rcases zns hy with ⟨z, hz, hK⟩ | ⟨_, hK⟩
    . cases hK
      have hc := (z4l N).2 (psW w s) S _ _ _ hA hSB hg z hz
      refine (z14n hlen (znn hS (Nat.le_refl _)) (znn hS (Nat.le_succ _)) (e := z.1) (a := z.2.1) (hc.mono ?_)).mono ?_
      . rintro e w2 ⟨rfl, hwf, hsub⟩
        obtain ⟨q1, q2, q3, q4, q5⟩ := zsk hS hwf (Lift.Sub.refl S) hsub (fun b hb => .inl hb)
        exact ⟨rfl, q1, q2, q5⟩
      . rintro r w' ⟨rfl, hP⟩
        obtain ⟨z1, z2, u⟩ := z
        exact zno hob hP (zq2 _) (zrz _ _ _)
    . obtain ⟨q, hq, hK⟩ := Option.bind_eq_some_iff.1 hK
      have hc := (z27 N).2 (psW w s) S _ _ _ hA hSB hg q hq
      have key : ∀ e w2, Lift.Ends (psW w s) S [.box PrsT (s, (0, (0, ())))] [.pointer (some ⟨w.heap.size + 1 + 1, 0, none⟩)] (fun i => if i = 0 then [w.heap.size + 1 + 1] else []) (.v NodT q.1) [.box PrsT q.2.1] e w2 →
          ∃ v S', e = .returned v /\ VR S' NodT q.1 v /\ Cl w2 w.heap.size [.int .i64 0, .int .u64 0, .int .u64 0, .int .u64 0, .int .u64 0, .slice none 0 0, .int .i64 0, .int .i64 0] /\ Cl w2 (w.heap.size + 1) [.int .i64 0, .int .i64 0] /\ w2.cell? ⟨w.heap.size + 1 + 1, 1, none⟩ = some (.int .i64 q.2.1.2.1) /\ S' w.heap.size = none /\ S' (w.heap.size + 1) = none /\ PsW w S S' w2 := by
        rintro e w2 ⟨v, S', o, ob', rfl, hwf, hSS, hSw, hnew, ⟨hr, _⟩, _, _, hbox, _⟩
        obtain ⟨x2, v2, g1, g2, _, g4⟩ := hbox 0 _ rfl rfl
        simp at g1 g2
        subst g1
        subst g2
        obtain ⟨q1, q2, q3, q4, q5⟩ := zsk hS hwf hSS hSw (fun b hb => by
          rcases hnew b hb with h | ⟨i, hi⟩ | h
          . exact .inl h
          . by_cases hi0 : i = 0
            . simp [hi0] at hi; exact .inr (.inl hi)
            . simp [hi0] at hi
          . exact .inr (.inr h))
        exact ⟨v, S', rfl, hr.1, q1, q2, z14p g4, q3, q4, q5⟩
      by_cases hat : q.2.1.2.1 < (s.length : Int)
      . rw [decide_eq_true hat] at hK
        cases hK
        refine (z14o (S := S) hlen (at_ := q.2.1.2.1) (hc.mono ?_) hat).mono ?_
        . intro e w2 h
          obtain ⟨v, S', rfl, hv, q1, q2, q3, q4, q5, q6⟩ := key e w2 h
          obtain ⟨k, a0, a1, a2, a3, lo, hi, sp, sn, sc, rfl⟩ := zsr hv
          exact ⟨k, a0, a1, a2, a3, lo, hi, sp, sn, sc, S', rfl, q1, q2, q3, q4, q5, q6⟩
        . rintro r w' ⟨rfl, S', hP⟩
          exact zno hob hP (zq2 _) (zrz _ _ _)
      . rw [decide_eq_false hat] at hK
        cases hK
        refine (ps_ok (S := S) hlen (at_ := q.2.1.2.1) (F := fun S' v => VR S' NodT q.1 v) (hc.mono ?_) hat).mono ?_
        . intro e w2 h
          obtain ⟨v, S', rfl, hv, q1, q2, q3, q4, q5, q6⟩ := key e w2 h
          obtain ⟨k, a0, a1, a2, a3, lo, hi, sp, sn, sc, rfl⟩ := zsr hv
          exact ⟨k, a0, a1, a2, a3, lo, hi, sp, sn, sc, S', rfl, q1, q2, q3, q4, q5, q6, hv⟩
        . rintro r w' ⟨v, S', rfl, hv, hP⟩
          exact zno hob hP hv (zrz _ _ _)

end
end Go.Proofs.YtmeecjkimeiogaaDoorLg

set_option linter.all false
set_option maxRecDepth 100000
namespace Go.Proofs.YtmeecjkimeiogaaDoorLg
noncomputable section
open Go Go.Lift

def z12v : Code := (Tryd.f9.body).getD .skip

def L_68 : List (List Nat × List Nat) := [([0], []), ([0, 1], [1, 2]), ([0, 1, 1], [2, 4, 3]), ([0, 1, 1, 1], [0]), ([1, 1, 1, 1], [0])]

def E_68 (N : Nat) : Env := z1x tys glob [(10, zj9 N), (15, zax N), (23, zey N)] [] [] [] false [] []

theorem z1el (N : Nat) : EnvOk Tryd.prog (E_68 N) := zg mixed zw (FnsOk.cons (zq3 N) (FnsOk.cons (zg9 N) (FnsOk.cons (zm6 N) (FnsOk.nil)))) (ItsOk.nil)

def z2p (N : Nat) : Option Bool :=
 (zdo N ([(97 : UInt8), (40 : UInt8), (98 : UInt8), (124 : UInt8), (99 : UInt8), (41 : UInt8), (42 : UInt8)] : List UInt8)).bind fun y =>
 (zne N y.1).bind fun y1 =>
 cond (eqD (T.pair (T.int IntKind.i64) (T.pair (T.int IntKind.i64) T.unit)) y.2.1 ((0 : Int), ((0 : Int), ())))
 (cond (y1.2.1 == (0 : Int))
 (cond ((((List.length y1.1.1) : Nat) : Int) == (3 : Int))
 (cond ((((List.length y1.1.2.2.2.2.1) : Nat) : Int) == (3 : Int))
 (cond (!y1.1.2.1)
 (cond ((((List.length y1.1.2.2.1) : Nat) : Int) == (1 : Int))
 (cond ((((List.length y1.1.2.2.2.1) : Nat) : Int) == (3 : Int))
 (cond (inR (0 : Int) (List.length y1.1.2.2.2.2.1))
 (cond ((((List.length (List.getD y1.1.2.2.2.2.1 0 ([] : List Int))) : Nat) : Int) == (2 : Int))
 (cond (inR (0 : Int) (List.length y1.1.2.2.2.2.1))
 (cond (inR (0 : Int) (List.length (List.getD y1.1.2.2.2.2.1 0 ([] : List Int))))
 (cond ((List.getD (List.getD y1.1.2.2.2.2.1 0 ([] : List Int)) 0 (0 : Int)) == (1 : Int))
 ((z72 N y1.1 ([(97 : UInt8), (98 : UInt8), (99 : UInt8), (98 : UInt8)] : List UInt8)).bind fun y2 =>
 cond y2
 ((z72 N y1.1 ([] : List UInt8)).bind fun y3 =>
 some (!y3))
 (some false))
 (some false))
 (none))
 (none))
 (some false))
 (none))
 (some false))
 (some false))
 (some false))
 (some false))
 (some false))
 (some false))
 (some false)

def t_68 (N : Nat) : Tab Bool := []

theorem z10u (N : Nat) (x : z17 []) : z7p (E_68 N) N (t_68 N) L_68 Tryd.f9 (mkS [] 0 x) (z5a (.v .bool) 0) = z2p N := by kernel_rfl

def z9g (N : Nat) : List A -> Res := z13 [] (fun x => z2p N) (zbr (.v .bool) 0)

theorem zg0 (N : Nat) : Contract Tryd.prog glob 9 (z9g N) :=
  Contract.of (E := E_68 N) (H := t_68 N) (L := L_68) (N := N) (body := z12v) (K := (z5a (.v .bool) 0)) (z1el N) Tryd.func9 (by kernel_rfl) (by decide) (fun _ hb => TabOk.nil) (fun x y h => by rw [z10u]; exact h) (z1s (s := (.v .bool)) (m := 0))

def zh6 : Code := (Tryd.f4.body).getD .skip

def z1eb : List (List Nat × List Nat) := [([0], [2, 1]), ([0, 0, 1], [32, 2, 1]), ([1, 0, 1], [2, 1]), ([0, 0, 1, 0, 1], [4]), ([1, 0, 1, 0, 1], [4]), ([0, 0, 1, 1], [5, 2, 1]), ([0, 1, 0, 1, 1], [5, 2, 1]), ([0, 0, 0, 0, 1, 0, 1, 1], [38, 2, 5, 1]), ([1, 0, 0, 0, 1, 0, 1, 1], [2, 5, 1]), ([1, 1, 0, 0, 0, 1, 0, 1, 1], [2, 1]), (z1e7, [47, 5, 2, 1]), ([1, 0, 0, 1, 0, 0, 1, 0, 1, 1], [5, 2, 1]), ([0, 0, 1, 0, 0, 1, 0, 0, 1, 0, 1, 1], [4]), ([1, 0, 1, 0, 0, 1, 0, 0, 1, 0, 1, 1], [4]), (zuh, [5, 2, 1]), ([1, 1, 0, 0, 1, 0, 1, 1], [5, 2, 1]), ([1, 0, 1, 1], [2, 1]), ([0, 1, 1, 1], [4]), ([1, 1, 1, 1], [4])]

def z145 (N : Nat) : Env := z1x tys glob [(9, z9g N), (13, zaw N), (14, z5p N), (15, zax N), (16, z9f N)] [] [] [] false [] []

theorem z1ek (N : Nat) : EnvOk Tryd.prog (z145 N) := zg mixed zw (FnsOk.cons (zg0 N) (FnsOk.cons (zg8 N) (FnsOk.cons (zac N) (FnsOk.cons (zg9 N) (FnsOk.cons (zfz N) (FnsOk.nil)))))) (ItsOk.nil)

def z3y (N : Nat) (s : (List UInt8)) (p : DT7) (k0 : Bool -> Option Bool) : Option Bool :=
 cond (decide ((30 : Int) < (((List.length p.1) : Nat) : Int)))
 (k0 true)
 (cond (decide ((30 : Int) < (((List.length p.2.2.2.2.1) : Nat) : Int)))
 (k0 true)
 (cond (decide ((40 : Int) < (((List.length p.2.2.1) : Nat) : Int)))
 (k0 true)
 (cond (decide ((40 : Int) < (((List.length p.2.2.2.1) : Nat) : Int)))
 (k0 true)
 (k0 (decide ((20 : Int) < (((List.length s) : Nat) : Int)))))))

def z1br (N : Nat) (x : z17 zzh) (K : Ex -> List A -> Option Bool) : Option Bool :=
 z3y N x.1 x.2.1 (fun a2 => (K .normal (mkS [(1, .v .str), (0, .box TT3), (29, .v .bool)] 33 (x.1, x.2.1, a2, ()))))

def z18x (N : Nat) : Hd Bool := fun st K => (unS zzh 63 (restr [2, 1] 0 st)).bind fun x => z1br N x K

def t2_69 (N : Nat) : Tab Bool := []

theorem z15j {N : Nat} {c : Ctx} (hb : Base Tryd.prog (z145 N) c) : zi Tryd.prog c (ze zh6 [0, 0, 1]) (z18x N) :=
  zo (s := zzh) (m := 63) (g := z1br N) [2, 1] (zd hb N (t2_69 N) z1eb zh6 TabOk.nil [0, 0, 1] _ rfl) (fun x K => by kernel_rfl)

def z3z (N : Nat) (s : (List UInt8)) (p : DT7) (k0 : Bool -> Option Bool) (k1 : Option Bool) : Option Bool :=
 z3y N s p
 (fun x32 => cond x32
 ((z2p N).bind fun y =>
 k0 y)
 (k1))

def z1cg (N : Nat) (x : z17 zzh) (K : Ex -> List A -> Option Bool) : Option Bool :=
 z3z N x.1 x.2.1 (fun a0 => (K .ret (mkS [(4, .v .bool)] 61 (a0, ())))) (K .normal (mkS zzh 63 (x.1, x.2.1, ())))

def z19m (N : Nat) : Hd Bool := fun st K => (unS zzh 63 (restr [2, 1] 0 st)).bind fun x => z1cg N x K

def t1_69 (N : Nat) : Tab Bool := [([0, 0, 1], z18x N)]

theorem z168 {N : Nat} {c : Ctx} (hb : Base Tryd.prog (z145 N) c) : zi Tryd.prog c (ze zh6 [0, 1]) (z19m N) :=
  zo (s := zzh) (m := 63) (g := z1cg N) [2, 1] (zd hb N (t1_69 N) z1eb zh6 (TabOk.cons (z15j hb) TabOk.nil) [0, 1] _ rfl) (fun x K => by kernel_rfl)

def z3x (N : Nat) (s : (List UInt8)) (p : DT7) (i : Int) (rec : Int -> Option Bool) (k0 : Bool -> Option Bool) (k1 : Option Bool) : Option Bool :=
 cond (decide (i < (((List.length p.2.2.2.2.1) : Nat) : Int)))
 (cond (inR i (List.length p.2.2.2.2.1))
 (cond (decide ((40 : Int) < (((List.length (List.getD p.2.2.2.2.1 (Int.toNat i) ([] : List Int))) : Nat) : Int)))
 ((z2p N).bind fun y =>
 k0 y)
 (rec (IntKind.wrap IntKind.i64 (i + (1 : Int)))))
 (none))
 (k1)

def z6y (N : Nat) (s : (List UInt8)) (p : DT7) (i : Int) (k0 : Bool -> Option Bool) (k1 : Option Bool) : Option Bool :=
 iter (fun (v : Int) r => z3x N s p v (fun i => (r i)) k0 k1) N i

def z1bd (N : Nat) (i : ((List UInt8) × DT7)) (v : Int) (r : Int -> Option Bool) (K : Ex -> List A -> Option Bool) : Option Bool :=
 z3x N i.1 i.2 v (fun i => (r i)) (fun a0 => (K .ret (mkS [(4, .v .bool)] 61 (a0, ())))) (K (.exit 0) (mkS zzh 63 (i.1, i.2, ())))

def z18j (N : Nat) : Hd Bool := fun st K => (unS [(1, .v .str), (0, .box TT3), (2, .v (.int .i64))] 60 (restr [5, 2, 1] 0 st)).bind fun x => iter (fun v r => z1bd N ((fun x => (x.1, x.2.1)) x) v r K) N ((fun x => x.2.2.1) x)

def t3_69 (N : Nat) : Tab Bool := []

theorem z155 {N : Nat} {c : Ctx} (hb : Base Tryd.prog (z145 N) c) : zi Tryd.prog c (ze zh6 [0, 1, 0, 1, 1]) (z18j N) :=
  z1q (s := [(1, .v .str), (0, .box TT3), (2, .v (.int .i64))]) (m := 60) (z1bd N) [5, 2, 1] N (fun x => (x.1, x.2.1)) (fun x => x.2.2.1) (fun i v => (i.1, i.2, v, ())) (fun _ => rfl) (zd hb N (t3_69 N) z1eb zh6 TabOk.nil [0, 0, 1, 0, 1, 1] _ rfl) (fun i v r K => by kernel_rfl)

def z20 (N : Nat) (p : DT7) (s : (List UInt8)) : Option Bool :=
 z3z N s p
 (fun x4 => some x4)
 (z6y N s p (0 : Int)
 (fun x41 => some x41)
 ((z8o N p).bind fun y =>
 (z3d N p).bind fun y1 =>
 cond (y == y1)
 ((z72 N p s).bind fun y2 =>
 (z48 N p s).bind fun y3 =>
 cond (y2 == y3)
 ((z2p N).bind fun y4 =>
 some y4)
 (some false))
 (some false)))

def t_69 (N : Nat) : Tab Bool := [([0, 1], z19m N), ([0, 1, 0, 1, 1], z18j N)]

theorem z10t (N : Nat) (x : z17 zyp) : z7p (z145 N) N (t_69 N) z1eb Tryd.f4 (mkS zyp 0 x) (z5a (.v .bool) 2) = z20 N x.1 x.2.1 := by kernel_rfl

def zbt (N : Nat) : List A -> Res := z13 zyp (fun x => z20 N x.1 x.2.1) (zbr (.v .bool) 2)

theorem zck (N : Nat) : Contract Tryd.prog glob 4 (zbt N) :=
  Contract.of (E := z145 N) (H := t_69 N) (L := z1eb) (N := N) (body := zh6) (K := (z5a (.v .bool) 2)) (z1ek N) Tryd.func4 (by kernel_rfl) (by decide) (fun _ hb => (TabOk.cons (z168 hb) (TabOk.cons (z155 hb) TabOk.nil))) (fun x y h => by rw [z10t]; exact h) (z1s (s := (.v .bool)) (m := 2))

end
end Go.Proofs.YtmeecjkimeiogaaDoorLg

set_option linter.all false
set_option maxRecDepth 100000
namespace Go.Proofs.YtmeecjkimeiogaaDoorLg
noncomputable section
open Go Go.Lift Go.Proofs.YtmeecjkimeiogaaDoorPx

theorem zt9 (k : Nat) : z2p (k + 300) = some true := by kernel_rfl

theorem zun (k : Nat) (p : SpT) (s : List UInt8) (hs : ∀ x ∈ p.1, SetOk x) : z20 (k + 1500) p s = some true := by
  have hw : z2p (k + 1500) = some true := zt9 (k + 1200)
  rw [z20, z3z, z3y, hw, Option.bind_some]
  by_cases c1 : 30 < p.1.length
  . rw [z1m (decide_eq_true (by omega))]; rfl
  rw [z9j (decide_eq_false (by omega))]
  by_cases c2 : 30 < p.2.2.2.2.1.length
  . rw [z1m (decide_eq_true (by omega))]; rfl
  rw [z9j (decide_eq_false (by omega))]
  by_cases c3 : 40 < p.2.2.1.length
  . rw [z1m (decide_eq_true (by omega))]; rfl
  rw [z9j (decide_eq_false (by omega))]
  by_cases c4 : 40 < p.2.2.2.1.length
  . rw [z1m (decide_eq_true (by omega))]; rfl
  rw [z9j (decide_eq_false (by omega))]
  by_cases c5 : 20 < s.length
  . rw [z1m (decide_eq_true (by omega))]
  rw [z9j (decide_eq_false (by omega)), z6y]
  refine (z9p (fun v => ∃ (i : Nat), v = (i : Int) /\ i <= p.2.2.2.2.1.length /\ ∀ j, j < i -> (p.2.2.2.2.1.getD j []).length <= 40) (fun v => p.2.2.2.2.1.length - v.toNat) (fun v => some true) ?_ (k + 1500) 0 ⟨0, rfl, Nat.zero_le _, fun j hj => by omega⟩ (by simp; omega))
  rintro v r ⟨i, rfl, hi, hj⟩ hr
  rw [z3x, hw, Option.bind_some]
  simp only [Int.toNat_natCast]
  rcases Nat.lt_or_ge i p.2.2.2.2.1.length with hlt | hge
  . rw [z1m (decide_eq_true (by omega)), z1m (z2k hlt)]
    by_cases h40 : 40 < (p.2.2.2.2.1.getD i []).length
    . rw [z1m (decide_eq_true (by omega))]
    . rw [z9j (decide_eq_false (by omega)), z5c (by omega)]
      refine hr _ ⟨i + 1, rfl, by omega, fun j h => ?_⟩ (by simp; omega)
      rcases Nat.lt_or_ge j i with h' | h'
      . exact hj j h'
      . rw [show j = i by omega]; omega
  . have hB : ∀ x ∈ p.2.2.2.2.1, x.length <= 40 := fun x hx => by
      obtain ⟨j, hj', rfl⟩ := List.getElem_of_mem hx
      have := hj j (by omega)
      rwa [List.getD_eq_getElem?_getD, List.getElem?_eq_getElem hj'] at this
    have hk : zuc (k + 1500) p := ⟨by omega, by omega, by omega, by omega, ⟨by omega, by omega⟩, ⟨by omega, by omega⟩, fun l hl => by have := hB l hl; omega⟩
    obtain ⟨b, h1, h2⟩ := zy4 (N := k + 1500) (s := s) hk (by omega) hs (by omega) (by omega) (by omega) (by omega) hB
    rw [z9j (decide_eq_false (by omega)), zkd hk, zhv hk, Option.bind_some, Option.bind_some, beq_self_eq_true, cond_true, h1, h2, Option.bind_some, Option.bind_some, beq_self_eq_true, cond_true]

end
end Go.Proofs.YtmeecjkimeiogaaDoorLg
