import Derived.Test.YtbfmhambfonpcaaDoorLgPrRq2
import Derived.Test.YtbfmhambfonpcaaDoorLgPn
import Derived.Test.YtbfmhambfonpcaaDoorLgPrRq3
import Derived.WalkKit
import Derived.Tactics
import Derived.Tactics2
import Derived.Defers
import Derived.Lib.Hide
import Derived.Below
import Derived.Recover
import Derived.Orders
import Derived.WalkSmall
import Derived.LoopN
import Derived.Test.YtbfmhambfonpcaaDoorChecked
import Derived.KernelRfl
set_option linter.all false
set_option maxRecDepth 100000
namespace Go.Proofs.YtbfmhambfonpcaaDoorLg
noncomputable section
open Go Go.Lift

abbrev PrsT : T := .pair .str TT6

theorem fail_walk {w : World} {v : Value} {e at_ : Int} :
    Calls Tryd.prog 20 #[v, .int .i64 e, .int .i64 at_] w fun r w' => r = .panicked [{ v := .iface 36 (.agg #[.int .i64 e, .int .i64 at_]), recovered := false }] /\ w' = w := by
  go_enter Tryd.func20, Tryd.ntmps20
  go_wp2
  exact ⟨rfl, rfl, rfl⟩

def zk (N : Nat) : List A -> PnRes := zdr [(0, .box TT4), (0, .v (.int .i64)), (0, .v (.int .i64))] (fun x => some ((x.2.1, (x.2.2.1, ())) : Int × (Int × Unit))) (fun z => ⟨.pair (.int .i64) (.pair (.int .i64) .unit), z⟩)

theorem zr (N : Nat) : ContractP Tryd.prog glob 20 36 (zk N) := by
  refine ContractP.hand ⟨_, Tryd.func20, by kernel_rfl, by decide⟩ ?_
  intro w S vals ob x y har hS hg hy
  obtain ⟨x, n, m, u⟩ := x
  cases u
  obtain ⟨⟨v0, hv0, hA0⟩, _⟩ := har.rel 0 _ rfl
  obtain ⟨⟨v1, hv1, hA1⟩, _⟩ := har.rel 1 _ rfl
  obtain ⟨⟨v2, hv2, hA2⟩, _⟩ := har.rel 2 _ rfl
  have hlen := har.len
  have hvals : vals = [v0, v1, v2] := by
    match vals, hlen with
    | [a, b, c], _ => cases hv0; cases hv1; cases hv2; rfl
  have e1 := VR.int_inv hA1.1
  have e2 := VR.int_inv hA2.1
  subst e1
  subst e2
  subst hvals
  cases hy
  refine fail_walk.mono ?_
  rintro r w' ⟨rfl, rfl⟩
  exact ⟨rfl, WF.refl _ _, hS⟩

def zqm : Code := (Tryd.f56.body).getD .skip

def L_62 : List (List Nat × List Nat) := [([0], [0]), ([0, 0, 1], [12, 0]), ([1, 0, 1], [0]), ([0, 1, 0, 1], [0]), ([0, 1, 1], [2, 0]), ([1, 1, 1], [2, 0])]

def E_62 (N : Nat) : Env := z3w tys glob [] [] [] [0] false [] []

theorem z1br (N : Nat) : EnvOk Tryd.prog (E_62 N) := zn mixed z1v (FnsOk.nil) (ItsOk.nil)

def z3s (N : Nat) : PnT := pnT [(20, 36, zk N)]

theorem z7h (N : Nat) : PnOk Tryd.prog glob (z3s N) := PnOk.cons (zr N) (PnOk.nil)

def z4v (N : Nat) (p : DT5) (k0 : (Int × (Int × Unit)) -> Option (Int × (Int × Unit))) (k1 : Option (Int × (Int × Unit))) : Option (Int × (Int × Unit)) :=
 cond (p.2.1 == (((List.length p.1) : Nat) : Int))
 (k0 ((1 : Int), (p.2.1, ())))
 (k1)

def z1a1 (N : Nat) (x : z1p [(0, .box TT4)]) (K : ExP -> List A -> Option (Int × (Int × Unit))) : Option (Int × (Int × Unit)) :=
 z4v N x.1 (fun a0 => (K (.pan 36) (mkS [(0, .v TT6)] 0 (a0, ())))) (K .normal (mkS [(0, .box TT4)] 27 (x.1, ())))

def z183 (N : Nat) : HdP (Int × (Int × Unit)) := fun st K => (unS [(0, .box TT4)] 27 (restr [0] 0 st)).bind fun x => z1a1 N x K

def t1_62 (N : Nat) : z9s (Int × (Int × Unit)) := []

theorem z15q {N : Nat} {c : Ctx} (hb : Base Tryd.prog (E_62 N) c) (hP : PnOk Tryd.prog glob (z3s N)) : z1s Tryd.prog c (zd zqm [0, 1]) (z183 N) :=
  z1x (s := [(0, .box TT4)]) (m := 27) (g := z1a1 N) [0] (z1g hb hP N (t1_62 N) L_62 zqm TabOkP.nil [0, 1] _ rfl) (fun x K => by kernel_rfl)

def z1d (N : Nat) (p : DT5) : Option (Int × (Int × Unit)) :=
 z4v N p
 (fun p1 => some p1)
 (cond (inR p.2.1 (List.length p.1))
 (none)
 (none))

def t_62 (N : Nat) : z9s (Int × (Int × Unit)) := [([0, 1], z183 N)]

theorem z11m (N : Nat) (x : z1p [(0, .box TT4)]) : zds (E_62 N) (z3s N) N (t_62 N) L_62 Tryd.f56 36 TT6 (mkS [(0, .box TT4)] 0 x) (fun z => some z) = z1d N x.1 := by kernel_rfl

def z1n (N : Nat) : List A -> PnRes := zdr [(0, .box TT4)] (fun x => z1d N x.1) (fun z => ⟨TT6, z⟩)

theorem z2m (N : Nat) : ContractP Tryd.prog glob 56 36 (z1n N) :=
  ContractP.of (E := E_62 N) (Pn := z3s N) (H := t_62 N) (L := L_62) (N := N) (body := zqm) (t := TT6) (z1br N) (z7h N) Tryd.func56 (by kernel_rfl) (by decide) (fun _ hb => (TabOkP.cons (z15q hb (z7h N)) TabOkP.nil)) (fun x y h => by rw [z11m]; exact h)

def zql : Code := (Tryd.f46.body).getD .skip

def L_63 : List (List Nat × List Nat) := [([0, 0], [7, 0]), ([1, 0], [0]), ([0, 1, 0], [0]), ([1], [0])]

def E_63 (N : Nat) : Env := z3w tys glob [(56, zy N)] [] [] [0] false [] []

theorem z1bq (N : Nat) : EnvOk Tryd.prog (E_63 N) := zn mixed z1v (FnsOk.cons (z19 N) (FnsOk.nil)) (ItsOk.nil)

def z3t (N : Nat) : PnT := pnT [(56, 36, z1n N), (20, 36, zk N)]

theorem z7i (N : Nat) : PnOk Tryd.prog glob (z3t N) := PnOk.cons (z2m N) (PnOk.cons (zr N) (PnOk.nil))

def z4w (N : Nat) (p : DT5) (b : Int) (k0 : (Int × (Int × Unit)) -> Option (Int × (Int × Unit))) (k1 : DT5 -> Option (Int × (Int × Unit))) : Option (Int × (Int × Unit)) :=
 orP ((z1d N p)) (fun z => k0 z)
 ((zz N p).bind fun y =>
 cond (y.1 != b)
 (k0 ((2 : Int), (y.2.1.2.1, ())))
 (k1 y.2.1))

def z1a0 (N : Nat) (x : z1p zko) (K : ExP -> List A -> Option (Int × (Int × Unit))) : Option (Int × (Int × Unit)) :=
 z4w N x.1 x.2.1 (fun a0 => (K (.pan 36) (mkS [(0, .v TT6)] 0 (a0, ())))) (fun a0 => (K .normal (mkS [(0, .box TT4)] 20 (a0, ()))))

def z182 (N : Nat) : HdP (Int × (Int × Unit)) := fun st K => (unS zko 19 (restr [0, 1] 0 st)).bind fun x => z1a0 N x K

def t1_63 (N : Nat) : z9s (Int × (Int × Unit)) := []

theorem z15p {N : Nat} {c : Ctx} (hb : Base Tryd.prog (E_63 N) c) (hP : PnOk Tryd.prog glob (z3t N)) : z1s Tryd.prog c (zd zql [0]) (z182 N) :=
  z1x (s := zko) (m := 19) (g := z1a0 N) [0, 1] (z1g hb hP N (t1_63 N) L_63 zql TabOkP.nil [0] _ rfl) (fun x K => by kernel_rfl)

def z15 (N : Nat) (p : DT5) (b : Int) : Option (Int × (Int × Unit)) :=
 z4w N p b
 (fun p1 => some p1)
 (fun p2 => none)

def t_63 (N : Nat) : z9s (Int × (Int × Unit)) := [([0], z182 N)]

theorem z11l (N : Nat) (x : z1p zko) : zds (E_63 N) (z3t N) N (t_63 N) L_63 Tryd.f46 36 TT6 (mkS zko 0 x) (fun z => some z) = z15 N x.1 x.2.1 := by kernel_rfl

def z2c (N : Nat) : List A -> PnRes := zdr zko (fun x => z15 N x.1 x.2.1) (fun z => ⟨TT6, z⟩)

theorem z3k (N : Nat) : ContractP Tryd.prog glob 46 36 (z2c N) :=
  ContractP.of (E := E_63 N) (Pn := z3t N) (H := t_63 N) (L := L_63) (N := N) (body := zql) (t := TT6) (z1bq N) (z7i N) Tryd.func46 (by kernel_rfl) (by decide) (fun _ hb => (TabOkP.cons (z15p hb (z7i N)) TabOkP.nil)) (fun x y h => by rw [z11l]; exact h)

def z95 : Code := (Tryd.f45.body).getD .skip

def z105 : List (List Nat × List Nat) := [([0], [0]), ([0, 1], [0, 3]), ([0, 0, 1, 1], [12, 0, 3]), ([1, 0, 1, 1], [0, 3]), ([0, 1, 0, 1, 1], [0, 3]), ([0, 1, 1, 1], [0, 4, 3]), ([0, 0, 1, 1, 1, 1], [0, 4, 3]), (zys, [37, 4, 0, 3]), (zyr, [4, 0, 3]), (PQ99, [0, 3, 4]), ([0, 0, 1, 0, 0, 0, 1, 1, 1, 1], [0, 4, 3]), ([1, 0, 1, 0, 0, 0, 1, 1, 1, 1], [0, 4, 3]), (zyp, [0, 4, 3]), ([0, 1, 1, 1, 1], [0, 3, 4]), (zkp, [75, 0, 3, 4]), (zyn, [4, 0, 3]), (ztz, [4, 0, 3]), (z13r, [80, 0, 3, 4]), (PQ73, [4, 0]), (z1b8, [4, 0]), (z13q, [2, 0]), (z13p, [2, 0])]

def zyx (N : Nat) : Env := z3w tys glob [(56, zy N), (60, z6i N)] [] [] [0] false [] []

theorem z1bp (N : Nat) : EnvOk Tryd.prog (zyx N) := zn mixed z1v (FnsOk.cons (z19 N) (FnsOk.cons (z97 N) (FnsOk.nil))) (ItsOk.nil)

def z17 (N : Nat) : PnT := pnT [(56, 36, z1n N), (20, 36, zk N)]

theorem z3j (N : Nat) : PnOk Tryd.prog glob (z17 N) := PnOk.cons (z2m N) (PnOk.cons (zr N) (PnOk.nil))

def z5g (N : Nat) (p : DT5) (from_ : Int) (k0 : (Int × (Int × Unit)) -> Option (Int × (Int × Unit))) (k1 : DT5 -> Option (Int × (Int × Unit))) : Option (Int × (Int × Unit)) :=
 orP ((z1d N p)) (fun z => k0 z)
 ((zz N p).bind fun y =>
 (z4q N y.1).bind fun y1 =>
 cond (!y1)
 (k0 ((2 : Int), (from_, ())))
 (k1 y.2.1))

def z19z (N : Nat) (x : z1p z100) (K : ExP -> List A -> Option (Int × (Int × Unit))) : Option (Int × (Int × Unit)) :=
 z5g N x.1 x.2.1 (fun a0 => (K (.pan 36) (mkS [(0, .v TT6)] 0 (a0, ())))) (fun a0 => (K .normal (mkS z100 81 (a0, x.2.1, ()))))

def z181 (N : Nat) : HdP (Int × (Int × Unit)) := fun st K => (unS z100 81 (restr [0, 3] 0 st)).bind fun x => z19z N x K

def t1_64 (N : Nat) : z9s (Int × (Int × Unit)) := []

theorem z15o {N : Nat} {c : Ctx} (hb : Base Tryd.prog (zyx N) c) (hP : PnOk Tryd.prog glob (z17 N)) : z1s Tryd.prog c (zd z95 [0, 1, 1]) (z181 N) :=
  z1x (s := z100) (m := 81) (g := z19z N) [0, 3] (z1g hb hP N (t1_64 N) z105 z95 TabOkP.nil [0, 1, 1] _ rfl) (fun x K => by kernel_rfl)

def z3r (N : Nat) (p : DT5) (from_ : Int) (n : Int) (k0 : Option (Int × (Int × Unit))) (k1 : Option (Int × (Int × Unit))) : Option (Int × (Int × Unit)) :=
 cond (decide (p.2.1 < (((List.length p.1) : Nat) : Int)))
 (cond (inR p.2.1 (List.length p.1))
 ((z4q N (((UInt8.toNat (List.getD p.1 (Int.toNat p.2.1) (0 : UInt8))) : Nat) : Int)).bind fun y =>
 cond y
 (k0)
 (k1))
 (none))
 (k1)

def z18z (N : Nat) (x : z1p SQ0) (K : ExP -> List A -> Option (Int × (Int × Unit))) : Option (Int × (Int × Unit)) :=
 z3r N x.1 x.2.1 x.2.2.1 (K .normal (mkS SQ0 80 (x.1, x.2.1, x.2.2.1, ()))) (K (.exit 0) (mkS SQ0 80 (x.1, x.2.1, x.2.2.1, ())))

def z171 (N : Nat) : HdP (Int × (Int × Unit)) := fun st K => (unS SQ0 80 (restr [0, 4, 3] 0 st)).bind fun x => z18z N x K

def t4_64 (N : Nat) : z9s (Int × (Int × Unit)) := []

theorem z14o {N : Nat} {c : Ctx} (hb : Base Tryd.prog (zyx N) c) (hP : PnOk Tryd.prog glob (z17 N)) : z1s Tryd.prog c (zd z95 zty) (z171 N) :=
  z1x (s := SQ0) (m := 80) (g := z18z N) [0, 4, 3] (z1g hb hP N (t4_64 N) z105 z95 TabOkP.nil zty _ rfl) (fun x K => by kernel_rfl)

def z1k (N : Nat) (from_ : Int) (p : DT5) (n : Int) (rec : DT5 -> Int -> Option (Int × (Int × Unit))) (k0 : DT5 -> Int -> Option (Int × (Int × Unit))) : Option (Int × (Int × Unit)) :=
 z3r N p from_ n
 (cond (inR p.2.1 (List.length p.1))
 (rec (p.1, ((IntKind.wrap IntKind.i64 (p.2.1 + (1 : Int))), p.2.2)) (if ((17 : Int) < (IntKind.wrap IntKind.i64 ((IntKind.wrap IntKind.i64 ((10 : Int) * n)) + (IntKind.wrap IntKind.i64 (IntKind.wrap IntKind.u8 ((((UInt8.toNat (List.getD p.1 (Int.toNat p.2.1) (0 : UInt8))) : Nat) : Int) - (48 : Int))))))) then (17 : Int) else (IntKind.wrap IntKind.i64 ((IntKind.wrap IntKind.i64 ((10 : Int) * n)) + (IntKind.wrap IntKind.i64 (IntKind.wrap IntKind.u8 ((((UInt8.toNat (List.getD p.1 (Int.toNat p.2.1) (0 : UInt8))) : Nat) : Int) - (48 : Int))))))))
 (none))
 (k0 p n)

def z8i (N : Nat) (p : DT5) (from_ : Int) (n : Int) (k0 : DT5 -> Int -> Option (Int × (Int × Unit))) : Option (Int × (Int × Unit)) :=
 iter (fun (v : (DT5 × Int)) r => z1k N from_ v.1 v.2 (fun p n => (r (p, n))) k0) N (p, n)

def z195 (N : Nat) (i : Int) (v : (DT5 × Int)) (r : (DT5 × Int) -> Option (Int × (Int × Unit))) (K : ExP -> List A -> Option (Int × (Int × Unit))) : Option (Int × (Int × Unit)) :=
 z1k N i v.1 v.2 (fun p n => (r (p, n))) (fun a0 a2 => (K (.exit 0) (mkS SQ0 80 (a0, i, a2, ()))))

def z177 (N : Nat) : HdP (Int × (Int × Unit)) := fun st K => (unS SQ0 80 (restr [0, 4, 3] 0 st)).bind fun x => iter (fun v r => z195 N ((fun x => x.2.1) x) v r K) N ((fun x => (x.1, x.2.2.1)) x)

def t3_64 (N : Nat) : z9s (Int × (Int × Unit)) := [(zty, z171 N)]

theorem z14u {N : Nat} {c : Ctx} (hb : Base Tryd.prog (zyx N) c) (hP : PnOk Tryd.prog glob (z17 N)) : z1s Tryd.prog c (zd z95 [0, 0, 1, 1, 1, 1]) (z177 N) :=
  zij (s := SQ0) (m := 80) (z195 N) [0, 4, 3] N (fun x => x.2.1) (fun x => (x.1, x.2.2.1)) (fun i v => (v.1, i, v.2, ())) (fun _ => rfl) (z1g hb hP N (t3_64 N) z105 z95 (TabOkP.cons (z14o hb hP) TabOkP.nil) [0, 0, 0, 1, 1, 1, 1] _ rfl) (fun i v r K => by kernel_rfl)

def z5f (N : Nat) (p : DT5) (from_ : Int) (n : Int) (k0 : DT5 -> Int -> Option (Int × (Int × Unit))) : Option (Int × (Int × Unit)) :=
 z8i N p from_ n
 (fun p1 n1 => k0 p1 n1)

def z19f (N : Nat) (x : z1p SQ0) (K : ExP -> List A -> Option (Int × (Int × Unit))) : Option (Int × (Int × Unit)) :=
 z5f N x.1 x.2.1 x.2.2.1 (fun a0 a2 => (K .normal (mkS SQ0 80 (a0, x.2.1, a2, ()))))

def z17h (N : Nat) : HdP (Int × (Int × Unit)) := fun st K => (unS SQ0 80 (restr [0, 4, 3] 0 st)).bind fun x => z19f N x K

def t2_64 (N : Nat) : z9s (Int × (Int × Unit)) := [([0, 0, 1, 1, 1, 1], z177 N)]

theorem z154 {N : Nat} {c : Ctx} (hb : Base Tryd.prog (zyx N) c) (hP : PnOk Tryd.prog glob (z17 N)) : z1s Tryd.prog c (zd z95 [0, 1, 1, 1, 1]) (z17h N) :=
  z1x (s := SQ0) (m := 80) (g := z19f N) [0, 4, 3] (z1g hb hP N (t2_64 N) z105 z95 (TabOkP.cons (z14u hb hP) TabOkP.nil) [0, 1, 1, 1, 1] _ rfl) (fun x K => by kernel_rfl)

def z5d (N : Nat) (p : DT5) (from_ : Int) (n : Int) (k0 : Bool -> Option (Int × (Int × Unit))) : Option (Int × (Int × Unit)) :=
 cond (inR from_ (List.length p.1))
 (cond ((((UInt8.toNat (List.getD p.1 (Int.toNat from_) (0 : UInt8))) : Nat) : Int) == (48 : Int))
 (k0 (decide ((IntKind.wrap IntKind.i64 (from_ + (1 : Int))) < p.2.1)))
 (k0 false))
 (none)

def z18s (N : Nat) (x : z1p SQ0) (K : ExP -> List A -> Option (Int × (Int × Unit))) : Option (Int × (Int × Unit)) :=
 z5d N x.1 x.2.1 x.2.2.1 (fun a3 => (K .normal (mkS [(0, .box TT4), (2, .v (.int .i64)), (0, .v (.int .i64)), (70, .v .bool)] 9 (x.1, x.2.1, x.2.2.1, a3, ()))))

def z16u (N : Nat) : HdP (Int × (Int × Unit)) := fun st K => (unS SQ0 80 (restr [0, 3, 4] 0 st)).bind fun x => z18s N x K

def t6_64 (N : Nat) : z9s (Int × (Int × Unit)) := []

theorem z14h {N : Nat} {c : Ctx} (hb : Base Tryd.prog (zyx N) c) (hP : PnOk Tryd.prog glob (z17 N)) : z1s Tryd.prog c (zd z95 zkp) (z16u N) :=
  z1x (s := SQ0) (m := 80) (g := z18s N) [0, 3, 4] (z1g hb hP N (t6_64 N) z105 z95 TabOkP.nil zkp _ rfl) (fun x K => by kernel_rfl)

def z5e (N : Nat) (p : DT5) (from_ : Int) (n : Int) (k0 : (Int × (Int × Unit)) -> Option (Int × (Int × Unit))) (k1 : Option (Int × (Int × Unit))) : Option (Int × (Int × Unit)) :=
 z5d N p from_ n
 (fun x75 => cond x75
 (k0 ((2 : Int), (from_, ())))
 (k1))

def z18v (N : Nat) (x : z1p SQ0) (K : ExP -> List A -> Option (Int × (Int × Unit))) : Option (Int × (Int × Unit)) :=
 z5e N x.1 x.2.1 x.2.2.1 (fun a0 => (K (.pan 36) (mkS [(0, .v TT6)] 0 (a0, ())))) (K .normal (mkS SQ0 80 (x.1, x.2.1, x.2.2.1, ())))

def z16x (N : Nat) : HdP (Int × (Int × Unit)) := fun st K => (unS SQ0 80 (restr [0, 3, 4] 0 st)).bind fun x => z18v N x K

def t5_64 (N : Nat) : z9s (Int × (Int × Unit)) := [(zkp, z16u N)]

theorem z14k {N : Nat} {c : Ctx} (hb : Base Tryd.prog (zyx N) c) (hP : PnOk Tryd.prog glob (z17 N)) : z1s Tryd.prog c (zd z95 [0, 1, 1, 1, 1, 1]) (z16x N) :=
  z1x (s := SQ0) (m := 80) (g := z18v N) [0, 3, 4] (z1g hb hP N (t5_64 N) z105 z95 (TabOkP.cons (z14h hb hP) TabOkP.nil) [0, 1, 1, 1, 1, 1] _ rfl) (fun x K => by kernel_rfl)

def z2z (N : Nat) (p : DT5) : Option (Int × (Int × Unit)) :=
 z5g N p p.2.1
 (fun p1 => some p1)
 (fun p2 => z5f N p2 p.2.1 (0 : Int)
 (fun p3 n => z5e N p3 p.2.1 n
 (fun p4 => some p4)
 (cond (decide ((16 : Int) < n))
 (some ((3 : Int), (p.2.1, ())))
 (none))))

def t_64 (N : Nat) : z9s (Int × (Int × Unit)) := [([0, 1, 1], z181 N), ([0, 1, 1, 1, 1], z17h N), ([0, 1, 1, 1, 1, 1], z16x N)]

theorem z11k (N : Nat) (x : z1p [(0, .box TT4)]) : zds (zyx N) (z17 N) N (t_64 N) z105 Tryd.f45 36 TT6 (mkS [(0, .box TT4)] 0 x) (fun z => some z) = z2z N x.1 := by kernel_rfl

def z88 (N : Nat) : List A -> PnRes := zdr [(0, .box TT4)] (fun x => z2z N x.1) (fun z => ⟨TT6, z⟩)

theorem zcc (N : Nat) : ContractP Tryd.prog glob 45 36 (z88 N) :=
  ContractP.of (E := zyx N) (Pn := z17 N) (H := t_64 N) (L := z105) (N := N) (body := z95) (t := TT6) (z1bp N) (z3j N) Tryd.func45 (by kernel_rfl) (by decide) (fun _ hb => (TabOkP.cons (z15o hb (z3j N)) (TabOkP.cons (z154 hb (z3j N)) (TabOkP.cons (z14k hb (z3j N)) TabOkP.nil)))) (fun x y h => by rw [z11k]; exact h)

def zk4 : Code := (Tryd.f58.body).getD .skip

def L_65 : List (List Nat × List Nat) := [([0], [0, 1]), ([0, 1], [0, 5, 1]), ([0, 1, 1], [5, 0, 1]), ([0, 0, 1, 1, 1], [16, 5, 0, 1]), ([1, 0, 1, 1, 1], [5, 0, 1]), (z1b7, [4, 0]), (z1b6, [4, 0]), ([0, 0, 1, 1, 1, 1], [24, 0, 1, 5]), ([1, 0, 1, 1, 1, 1], [5, 0]), ([0, 1, 0, 1, 1, 1, 1], [5, 0]), ([0, 1, 1, 1, 1, 1], [4, 0]), ([1, 1, 1, 1, 1, 1], [4, 0])]

def z1ck (N : Nat) : Env := z3w tys glob [(56, zy N), (60, z6i N)] [] [] [0] false [] []

theorem z1bo (N : Nat) : EnvOk Tryd.prog (z1ck N) := zn mixed z1v (FnsOk.cons (z19 N) (FnsOk.cons (z97 N) (FnsOk.nil))) (ItsOk.nil)

def z37 (N : Nat) : PnT := pnT [(56, 36, z1n N), (20, 36, zk N)]

theorem z8a (N : Nat) : PnOk Tryd.prog glob (z37 N) := PnOk.cons (z2m N) (PnOk.cons (zr N) (PnOk.nil))

def z5h (N : Nat) (p : DT5) (from_ : Int) (b : Int) (k0 : Bool -> Option (Int × (Int × Unit))) : Option (Int × (Int × Unit)) :=
 cond (decide (b < (97 : Int)))
 (k0 true)
 (k0 (decide ((102 : Int) < b)))

def z19e (N : Nat) (x : z1p zu2) (K : ExP -> List A -> Option (Int × (Int × Unit))) : Option (Int × (Int × Unit)) :=
 z5h N x.1 x.2.1 x.2.2.1 (fun a3 => (K .normal (mkS [(0, .box TT4), (0, .v (.int .i64)), (3, .v (.int .u8)), (18, .v .bool)] 6 (x.1, x.2.1, x.2.2.1, a3, ()))))

def z17g (N : Nat) : HdP (Int × (Int × Unit)) := fun st K => (unS zu2 25 (restr [5, 0, 1] 0 st)).bind fun x => z19e N x K

def t2_65 (N : Nat) : z9s (Int × (Int × Unit)) := []

theorem z153 {N : Nat} {c : Ctx} (hb : Base Tryd.prog (z1ck N) c) (hP : PnOk Tryd.prog glob (z37 N)) : z1s Tryd.prog c (zd zk4 [0, 0, 1, 1, 1, 1]) (z17g N) :=
  z1x (s := zu2) (m := 25) (g := z19e N) [5, 0, 1] (z1g hb hP N (t2_65 N) L_65 zk4 TabOkP.nil [0, 0, 1, 1, 1, 1] _ rfl) (fun x K => by kernel_rfl)

def z5i (N : Nat) (p : DT5) (from_ : Int) (b : Int) (k0 : (Int × (Int × Unit)) -> Option (Int × (Int × Unit))) (k1 : Option (Int × (Int × Unit))) : Option (Int × (Int × Unit)) :=
 z5h N p from_ b
 (fun x24 => cond x24
 (k0 ((2 : Int), (from_, ())))
 (k1))

def z19y (N : Nat) (x : z1p zu2) (K : ExP -> List A -> Option (Int × (Int × Unit))) : Option (Int × (Int × Unit)) :=
 z5i N x.1 x.2.1 x.2.2.1 (fun a0 => (K (.pan 36) (mkS [(0, .v TT6)] 0 (a0, ())))) (K .normal (mkS [(0, .box TT4), (4, .v (.int .u8))] 25 (x.1, x.2.2.1, ())))

def z180 (N : Nat) : HdP (Int × (Int × Unit)) := fun st K => (unS zu2 25 (restr [5, 0, 1] 0 st)).bind fun x => z19y N x K

def t1_65 (N : Nat) : z9s (Int × (Int × Unit)) := [([0, 0, 1, 1, 1, 1], z17g N)]

theorem z15n {N : Nat} {c : Ctx} (hb : Base Tryd.prog (z1ck N) c) (hP : PnOk Tryd.prog glob (z37 N)) : z1s Tryd.prog c (zd zk4 [0, 1, 1, 1, 1]) (z180 N) :=
  z1x (s := zu2) (m := 25) (g := z19y N) [5, 0, 1] (z1g hb hP N (t1_65 N) L_65 zk4 (TabOkP.cons (z153 hb hP) TabOkP.nil) [0, 1, 1, 1, 1] _ rfl) (fun x K => by kernel_rfl)

def z30 (N : Nat) (p : DT5) (from_ : Int) : Option (Int × (Int × Unit)) :=
 orP ((z1d N p)) (fun z => some z)
 ((zz N p).bind fun y =>
 (z4q N y.1).bind fun y1 =>
 cond y1
 (none)
 (z5i N (y.2.1.1, ((IntKind.wrap IntKind.i64 (y.2.1.2.1 + (1 : Int))), y.2.1.2.2)) from_ y.1
 (fun p1 => some p1)
 (none)))

def t_65 (N : Nat) : z9s (Int × (Int × Unit)) := [([0, 1, 1, 1, 1], z180 N)]

theorem z11j (N : Nat) (x : z1p z13h) : zds (z1ck N) (z37 N) N (t_65 N) L_65 Tryd.f58 36 TT6 (mkS z13h 0 x) (fun z => some z) = z30 N x.1 x.2.1 := by kernel_rfl

def z89 (N : Nat) : List A -> PnRes := zdr z13h (fun x => z30 N x.1 x.2.1) (fun z => ⟨TT6, z⟩)

theorem zcd (N : Nat) : ContractP Tryd.prog glob 58 36 (z89 N) :=
  ContractP.of (E := z1ck N) (Pn := z37 N) (H := t_65 N) (L := L_65) (N := N) (body := zk4) (t := TT6) (z1bo N) (z8a N) Tryd.func58 (by kernel_rfl) (by decide) (fun _ hb => (TabOkP.cons (z15n hb (z8a N)) TabOkP.nil)) (fun x y h => by rw [z11j]; exact h)

def zqk : Code := (Tryd.f43.body).getD .skip

def L_66 : List (List Nat × List Nat) := [([0], [0, 2]), ([0, 1], [0, 2, 4]), ([0, 1, 1], [0, 2, 4]), ([0, 1, 1, 1], [0, 5, 2, 4]), ([0, 1, 1, 1, 1], [5, 2, 0, 4]), ([0, 0, 0, 1, 1, 1, 1, 1], [22, 2, 0, 5, 4]), ([1, 0, 0, 1, 1, 1, 1, 1], [5, 2, 0]), ([0, 1, 1, 0, 0, 1, 1, 1, 1, 1], [26, 2, 0, 5, 4]), ([1, 1, 1, 0, 0, 1, 1, 1, 1, 1], [5, 2, 0]), ([0, 1, 1, 1, 1, 0, 0, 1, 1, 1, 1, 1], [30, 0, 4, 2, 5]), ([1, 1, 1, 1, 1, 0, 0, 1, 1, 1, 1, 1], [5, 2, 0]), ([0, 1, 1, 1, 1, 1, 1, 0, 0, 1, 1, 1, 1, 1], [42, 0, 4, 5, 2]), ([1, 1, 1, 1, 1, 1, 1, 0, 0, 1, 1, 1, 1, 1], [5, 2, 0]), ([0, 1, 1, 1, 1, 1, 1, 1, 0, 0, 1, 1, 1, 1, 1], [5, 2, 0]), ([0, 0, 1, 1, 1, 1, 1, 0, 0, 1, 1, 1, 1, 1], [6, 0, 4, 2]), ([1, 0, 1, 1, 1, 1, 1, 0, 0, 1, 1, 1, 1, 1], [5, 2, 0]), ([0, 0, 1, 1, 1, 0, 0, 1, 1, 1, 1, 1], [2, 3, 0]), ([1, 0, 1, 1, 1, 0, 0, 1, 1, 1, 1, 1], [2, 3, 0]), ([0, 0, 1, 0, 0, 1, 1, 1, 1, 1], [2, 3, 0]), ([1, 0, 1, 0, 0, 1, 1, 1, 1, 1], [2, 3, 0]), ([0, 1, 1, 1, 1, 1], [5, 2, 0]), (ztx, [2, 3, 0]), (zu0, [2, 3, 0])]

def E_66 (N : Nat) : Env := z3w tys glob [(41, z3e N), (44, z3f N), (46, z1e N), (56, zy N), (57, z91 N), (58, z7a N)] [] [] [0] false [] []

theorem z1bn (N : Nat) : EnvOk Tryd.prog (E_66 N) := zn mixed z1v (FnsOk.cons (z4l N) (FnsOk.cons (z4s N) (FnsOk.cons (z1r N) (FnsOk.cons (z19 N) (FnsOk.cons (zd5 N) (FnsOk.cons (zae N) (FnsOk.nil))))))) (ItsOk.nil)

def z3d (N : Nat) : PnT := pnT [(58, 36, z89 N), (46, 36, z2c N), (56, 36, z1n N), (20, 36, zk N)]

theorem z6f (N : Nat) : PnOk Tryd.prog glob (z3d N) := PnOk.cons (zcd N) (PnOk.cons (z3k N) (PnOk.cons (z2m N) (PnOk.cons (zr N) (PnOk.nil))))

def z4b (N : Nat) (p : DT5) (set_ : (List Int)) (from_ : Int) (b : Int) (k0 : (List Int) -> Bool -> Option (Int × (Int × Unit))) (k1 : (Int × (Int × Unit)) -> Option (Int × (Int × Unit))) (k2 : DT5 -> Int -> Option (Int × (Int × Unit))) : Option (Int × (Int × Unit)) :=
 cond (b == (100 : Int))
 ((z2a N (48 : Int) (57 : Int)).bind fun y =>
 k0 y true)
 (cond (b == (119 : Int))
 ((z6t N ((48 : UInt8) :: (49 : UInt8) :: (50 : UInt8) :: (51 : UInt8) :: (52 : UInt8) :: (53 : UInt8) :: (54 : UInt8) :: (55 : UInt8) :: (56 : UInt8) :: (57 : UInt8) :: (65 : UInt8) :: (66 : UInt8) :: (67 : UInt8) :: (68 : UInt8) :: (69 : UInt8) :: (70 : UInt8) :: (71 : UInt8) :: (72 : UInt8) :: (73 : UInt8) :: (74 : UInt8) :: (75 : UInt8) :: (76 : UInt8) :: (77 : UInt8) :: (78 : UInt8) :: (79 : UInt8) :: (80 : UInt8) :: (81 : UInt8) :: (82 : UInt8) :: (83 : UInt8) :: (84 : UInt8) :: (85 : UInt8) :: (86 : UInt8) :: (87 : UInt8) :: (88 : UInt8) :: (89 : UInt8) :: (90 : UInt8) :: (95 : UInt8) :: (97 : UInt8) :: (98 : UInt8) :: (99 : UInt8) :: (100 : UInt8) :: (101 : UInt8) :: (102 : UInt8) :: (103 : UInt8) :: (104 : UInt8) :: (105 : UInt8) :: (106 : UInt8) :: (107 : UInt8) :: (108 : UInt8) :: (109 : UInt8) :: (110 : UInt8) :: (111 : UInt8) :: (112 : UInt8) :: (113 : UInt8) :: (114 : UInt8) :: (115 : UInt8) :: (116 : UInt8) :: (117 : UInt8) :: (118 : UInt8) :: (119 : UInt8) :: (120 : UInt8) :: (121 : UInt8) :: (122 : UInt8) :: ([] : List UInt8))).bind fun y1 =>
 k0 y1 true)
 (cond (b == (120 : Int))
 (orP ((z30 N p from_)) (fun z => k1 z)
 ((z34 N p from_).bind fun y2 =>
 orP ((z30 N y2.2.1 from_)) (fun z1 => k1 z1)
 ((z34 N y2.2.1 from_).bind fun y3 =>
 k2 y3.2.1 (bitsOp Go.BinOp.or IntKind.u8 (shlI IntKind.u8 y2.1 (4 : Int)) y3.1))))
 (cond (decide ((Go.Lib.indexByte ([(92 : UInt8), (46 : UInt8), (91 : UInt8), (93 : UInt8), (40 : UInt8), (41 : UInt8), (123 : UInt8), (125 : UInt8), (124 : UInt8), (42 : UInt8), (43 : UInt8), (63 : UInt8), (45 : UInt8), (94 : UInt8)] : List UInt8) (Nat.toUInt8 (Int.toNat b))) < (0 : Int)))
 (k1 ((2 : Int), (from_, ())))
 (k2 p b))))

def z19x (N : Nat) (x : z1p z13l) (K : ExP -> List A -> Option (Int × (Int × Unit))) : Option (Int × (Int × Unit)) :=
 z4b N x.1 x.2.1 x.2.2.1 x.2.2.2.1 (fun a1 a2 => (K .ret (mkS SQ57 48 (x.1, a1, a2, ())))) (fun a0 => (K (.pan 36) (mkS [(0, .v TT6)] 0 (a0, ())))) (fun a0 a2 => (K .normal (mkS [(0, .box TT4), (1, .box (.arr 4 (.int .u64))), (2, .v (.int .u8))] 46 (a0, x.2.1, a2, ()))))

def z17z (N : Nat) : HdP (Int × (Int × Unit)) := fun st K => (unS z13l 46 (restr [5, 2, 0, 4] 0 st)).bind fun x => z19x N x K

def t1_66 (N : Nat) : z9s (Int × (Int × Unit)) := []

theorem z15m {N : Nat} {c : Ctx} (hb : Base Tryd.prog (E_66 N) c) (hP : PnOk Tryd.prog glob (z3d N)) : z1s Tryd.prog c (zd zqk [0, 1, 1, 1, 1, 1]) (z17z N) :=
  z1x (s := z13l) (m := 46) (g := z19x N) [5, 2, 0, 4] (z1g hb hP N (t1_66 N) L_66 zqk TabOkP.nil [0, 1, 1, 1, 1, 1] _ rfl) (fun x K => by kernel_rfl)

def z20 (N : Nat) (p : DT5) : Option (Int × (Int × Unit)) :=
 orP ((z15 N p (92 : Int))) (fun z => some z)
 ((zq N p (92 : Int)).bind fun y =>
 orP ((z1d N y.2.1)) (fun z1 => some z1)
 ((zz N y.2.1).bind fun y1 =>
 z4b N (y1.2.1.1, ((IntKind.wrap IntKind.i64 (y1.2.1.2.1 + (1 : Int))), y1.2.1.2.2)) ([(0 : Int), (0 : Int), (0 : Int), (0 : Int)] : List Int) p.2.1 y1.1
 (fun set_ class_ => none)
 (fun p1 => some p1)
 (fun p2 b => (z2a N b b).bind fun y2 =>
 none)))

def t_66 (N : Nat) : z9s (Int × (Int × Unit)) := [([0, 1, 1, 1, 1, 1], z17z N)]

theorem z11i (N : Nat) (x : z1p [(0, .box TT4)]) : zds (E_66 N) (z3d N) N (t_66 N) L_66 Tryd.f43 36 TT6 (mkS [(0, .box TT4)] 0 x) (fun z => some z) = z20 N x.1 := by kernel_rfl

def z43 (N : Nat) : List A -> PnRes := zdr [(0, .box TT4)] (fun x => z20 N x.1) (fun z => ⟨TT6, z⟩)

theorem z6y (N : Nat) : ContractP Tryd.prog glob 43 36 (z43 N) :=
  ContractP.of (E := E_66 N) (Pn := z3d N) (H := t_66 N) (L := L_66) (N := N) (body := zqk) (t := TT6) (z1bn N) (z6f N) Tryd.func43 (by kernel_rfl) (by decide) (fun _ hb => (TabOkP.cons (z15m hb (z6f N)) TabOkP.nil)) (fun x y h => by rw [z11i]; exact h)

def zk3 : Code := (Tryd.f68.body).getD .skip

def L_67 : List (List Nat × List Nat) := [([0], [0, 2]), ([0, 1], [4, 0, 2]), ([0, 0, 1, 1], [7, 0, 2, 4]), ([0, 0, 1, 0, 1, 1], [8, 0, 2, 7, 4]), ([1, 0, 1, 0, 1, 1], [0, 4, 2]), (PQ94, [14, 0, 4, 2, 7]), ([1, 0, 1, 1, 0, 1, 0, 1, 1], [14, 0, 4, 2]), ([0, 1, 1, 0, 1, 1, 0, 1, 0, 1, 1], [14, 0, 4, 2, 7]), ([1, 1, 1, 0, 1, 1, 0, 1, 0, 1, 1], [14, 0, 4, 2]), ([0, 1, 1, 1, 1, 0, 1, 1, 0, 1, 0, 1, 1], [14, 0, 4, 2, 7]), ([1, 1, 1, 1, 1, 0, 1, 1, 0, 1, 0, 1, 1], [14, 0, 4, 2]), ([1, 1, 1, 1, 1, 1, 0, 1, 1, 0, 1, 0, 1, 1], [14, 0, 4, 2]), ([1, 1, 1, 0, 1, 0, 1, 1], [0, 4, 2]), ([0, 1, 1, 1, 0, 1, 0, 1, 1], [0, 4, 2]), ([0, 0, 1, 0, 1, 0, 1, 1], [2, 3, 0]), ([1, 0, 1, 0, 1, 0, 1, 1], [2, 3, 0]), ([1, 0, 1, 1], [0, 4, 2]), ([0, 1, 1, 1], [4, 2, 0]), ([0, 1, 1, 1, 1], [2, 3, 0]), ([1, 1, 1, 1, 1], [2, 3, 0])]

def z1cj (N : Nat) : Env := z3w tys glob [(41, z3e N), (43, z2u N), (56, zy N)] [] [] [0] false [] []

theorem z1bm (N : Nat) : EnvOk Tryd.prog (z1cj N) := zn mixed z1v (FnsOk.cons (z4l N) (FnsOk.cons (z47 N) (FnsOk.cons (z19 N) (FnsOk.nil)))) (ItsOk.nil)

def z2t (N : Nat) : PnT := pnT [(43, 36, z43 N), (56, 36, z1n N), (20, 36, zk N)]

theorem z7g (N : Nat) : PnOk Tryd.prog glob (z2t N) := PnOk.cons (z6y N) (PnOk.cons (z2m N) (PnOk.cons (zr N) (PnOk.nil)))

def z4t (N : Nat) (p : DT5) (set_ : (List Int)) (b : Int) (x7 : Int) (k0 : Bool -> Option (Int × (Int × Unit))) : Option (Int × (Int × Unit)) :=
 cond (x7 == (91 : Int))
 (k0 (x7 == (91 : Int)))
 (cond (x7 == (93 : Int))
 (k0 (x7 == (93 : Int)))
 (cond (x7 == (45 : Int))
 (k0 (x7 == (45 : Int)))
 (k0 (x7 == (94 : Int)))))

def z19d (N : Nat) (x : z1p z13k) (K : ExP -> List A -> Option (Int × (Int × Unit))) : Option (Int × (Int × Unit)) :=
 z4t N x.1 x.2.1 x.2.2.1 x.2.2.2.1 (fun a3 => (K .normal (mkS [(0, .box TT4), (1, .box (.arr 4 (.int .u64))), (1, .v (.int .u8)), (9, .v .bool)] 20 (x.1, x.2.1, x.2.2.1, a3, ()))))

def z17f (N : Nat) : HdP (Int × (Int × Unit)) := fun st K => (unS z13k 27 (restr [7, 0, 4, 2] 0 st)).bind fun x => z19d N x K

def t2_67 (N : Nat) : z9s (Int × (Int × Unit)) := []

theorem z152 {N : Nat} {c : Ctx} (hb : Base Tryd.prog (z1cj N) c) (hP : PnOk Tryd.prog glob (z2t N)) : z1s Tryd.prog c (zd zk3 z135) (z17f N) :=
  z1x (s := z13k) (m := 27) (g := z19d N) [7, 0, 4, 2] (z1g hb hP N (t2_67 N) L_67 zk3 TabOkP.nil z135 _ rfl) (fun x K => by kernel_rfl)

def z4u (N : Nat) (p : DT5) (set_ : (List Int)) (b : Int) (k0 : (Int × (Int × Unit)) -> Option (Int × (Int × Unit))) (k1 : DT5 -> (List Int) -> Bool -> Option (Int × (Int × Unit))) (k2 : Option (Int × (Int × Unit))) : Option (Int × (Int × Unit)) :=
 cond (b == (92 : Int))
 (orP ((z20 N p)) (fun z => k0 z)
 ((z1w N p).bind fun y =>
 k1 y.2.1 y.1.1 y.1.2.1))
 (z4t N p set_ b b
 (fun x14 => cond x14
 (k0 ((2 : Int), (p.2.1, ())))
 (k2)))

def z19w (N : Nat) (x : z1p z102) (K : ExP -> List A -> Option (Int × (Int × Unit))) : Option (Int × (Int × Unit)) :=
 z4u N x.1 x.2.1 x.2.2.1 (fun a0 => (K (.pan 36) (mkS [(0, .v TT6)] 0 (a0, ())))) (fun a0 a1 a2 => (K .ret (mkS SQ57 31 (a0, a1, a2, ())))) (K .normal (mkS z102 30 (x.1, x.2.1, x.2.2.1, ())))

def z17y (N : Nat) : HdP (Int × (Int × Unit)) := fun st K => (unS z102 30 (restr [4, 0, 2] 0 st)).bind fun x => z19w N x K

def t1_67 (N : Nat) : z9s (Int × (Int × Unit)) := [(z135, z17f N)]

theorem z15l {N : Nat} {c : Ctx} (hb : Base Tryd.prog (z1cj N) c) (hP : PnOk Tryd.prog glob (z2t N)) : z1s Tryd.prog c (zd zk3 [0, 1, 1]) (z17y N) :=
  z1x (s := z102) (m := 30) (g := z19w N) [4, 0, 2] (z1g hb hP N (t1_67 N) L_67 zk3 (TabOkP.cons (z152 hb hP) TabOkP.nil) [0, 1, 1] _ rfl) (fun x K => by kernel_rfl)

def z2k (N : Nat) (p : DT5) : Option (Int × (Int × Unit)) :=
 orP ((z1d N p)) (fun z => some z)
 ((zz N p).bind fun y =>
 z4u N y.2.1 ([(0 : Int), (0 : Int), (0 : Int), (0 : Int)] : List Int) y.1
 (fun p1 => some p1)
 (fun p2 set_ class_ => none)
 ((z2a N y.1 y.1).bind fun y1 =>
 none))

def t_67 (N : Nat) : z9s (Int × (Int × Unit)) := [([0, 1, 1], z17y N)]

theorem z11h (N : Nat) (x : z1p [(0, .box TT4)]) : zds (z1cj N) (z2t N) N (t_67 N) L_67 Tryd.f68 36 TT6 (mkS [(0, .box TT4)] 0 x) (fun z => some z) = z2k N x.1 := by kernel_rfl

def z7f (N : Nat) : List A -> PnRes := zdr [(0, .box TT4)] (fun x => z2k N x.1) (fun z => ⟨TT6, z⟩)

theorem zbq (N : Nat) : ContractP Tryd.prog glob 68 36 (z7f N) :=
  ContractP.of (E := z1cj N) (Pn := z2t N) (H := t_67 N) (L := L_67) (N := N) (body := zk3) (t := TT6) (z1bm N) (z7g N) Tryd.func68 (by kernel_rfl) (by decide) (fun _ hb => (TabOkP.cons (z15l hb (z7g N)) TabOkP.nil)) (fun x y h => by rw [z11h]; exact h)

def zcy : Code := (Tryd.f53.body).getD .skip

def z13t : List (List Nat × List Nat) := [([0], [0, 2]), ([0, 1], [4, 0, 3, 2]), ([0, 0, 1, 1], [17, 3, 2, 0]), ([1, 0, 1, 1], [0, 3, 2]), ([0, 0, 1, 0, 1, 1], [2, 0]), ([1, 0, 1, 0, 1, 1], [2, 0]), ([0, 1, 1, 1], [0, 3, 5, 2]), ([0, 1, 1, 1, 1], [4, 6, 3, 0, 5, 2]), (zkp, [35, 0, 5, 3, 6, 2]), (zyn, [3, 6, 2, 0]), (ztz, [3, 6, 2, 0]), (ztx, [2, 0]), (zu0, [2, 0])]

def z137 (N : Nat) : Env := z3w tys glob [(26, z1c N), (41, z3e N), (68, z6b N), (69, z93 N)] [] [] [0] false [] []

theorem z1bl (N : Nat) : EnvOk Tryd.prog (z137 N) := zn mixed z1v (FnsOk.cons (z1q N) (FnsOk.cons (z4l N) (FnsOk.cons (z9m N) (FnsOk.cons (zd8 N) (FnsOk.nil))))) (ItsOk.nil)

def z1l (N : Nat) : PnT := pnT [(68, 36, z7f N), (20, 36, zk N)]

theorem z4n (N : Nat) : PnOk Tryd.prog glob (z1l N) := PnOk.cons (zbq N) (PnOk.cons (zr N) (PnOk.nil))

def z4z (N : Nat) (p : DT5) (x2 : (List Int)) (first : (List Int)) (class_ : Bool) (k0 : DT5 -> Bool -> Option (Int × (Int × Unit))) : Option (Int × (Int × Unit)) :=
 cond class_
 (k0 p true)
 ((zp N p (45 : Int)).bind fun y =>
 k0 y.2.1 (!y.1))

def z19c (N : Nat) (x : z1p SQ6) (K : ExP -> List A -> Option (Int × (Int × Unit))) : Option (Int × (Int × Unit)) :=
 z4z N x.1 x.2.1 x.2.2.1 x.2.2.2.1 (fun a0 a3 => (K .normal (mkS SQ79 28 (a0, x.2.1, x.2.2.1, a3, ()))))

def z17e (N : Nat) : HdP (Int × (Int × Unit)) := fun st K => (unS SQ6 41 (restr [4, 0, 3, 2] 0 st)).bind fun x => z19c N x K

def t2_68 (N : Nat) : z9s (Int × (Int × Unit)) := []

theorem z151 {N : Nat} {c : Ctx} (hb : Base Tryd.prog (z137 N) c) (hP : PnOk Tryd.prog glob (z1l N)) : z1s Tryd.prog c (zd zcy [0, 0, 1, 1]) (z17e N) :=
  z1x (s := SQ6) (m := 41) (g := z19c N) [4, 0, 3, 2] (z1g hb hP N (t2_68 N) z13t zcy TabOkP.nil [0, 0, 1, 1] _ rfl) (fun x K => by kernel_rfl)

def z50 (N : Nat) (p : DT5) (x2 : (List Int)) (first : (List Int)) (class_ : Bool) (k0 : DT5 -> Option (Int × (Int × Unit))) (k1 : DT5 -> Option (Int × (Int × Unit))) : Option (Int × (Int × Unit)) :=
 z4z N p x2 first class_
 (fun p1 x17 => cond x17
 (k0 p1)
 (k1 p1))

def z19v (N : Nat) (x : z1p SQ6) (K : ExP -> List A -> Option (Int × (Int × Unit))) : Option (Int × (Int × Unit)) :=
 z50 N x.1 x.2.1 x.2.2.1 x.2.2.2.1 (fun a0 => (K .ret (mkS [(0, .box TT4), (1, .box (.arr 4 (.int .u64)))] 43 (a0, x.2.2.1, ())))) (fun a0 => (K .normal (mkS [(0, .box TT4), (1, .box (.arr 4 (.int .u64))), (0, .box (.arr 4 (.int .u64)))] 42 (a0, x.2.1, x.2.2.1, ()))))

def z17x (N : Nat) : HdP (Int × (Int × Unit)) := fun st K => (unS SQ6 41 (restr [4, 0, 3, 2] 0 st)).bind fun x => z19v N x K

def t1_68 (N : Nat) : z9s (Int × (Int × Unit)) := [([0, 0, 1, 1], z17e N)]

theorem z15k {N : Nat} {c : Ctx} (hb : Base Tryd.prog (z137 N) c) (hP : PnOk Tryd.prog glob (z1l N)) : z1s Tryd.prog c (zd zcy [0, 1, 1]) (z17x N) :=
  z1x (s := SQ6) (m := 41) (g := z19v N) [4, 0, 3, 2] (z1g hb hP N (t1_68 N) z13t zcy (TabOkP.cons (z151 hb hP) TabOkP.nil) [0, 1, 1] _ rfl) (fun x K => by kernel_rfl)

def z4x (N : Nat) (p : DT5) (x2 : (List Int)) (first : (List Int)) (class_ : Bool) (from_ : Int) (last : (List Int)) (k0 : Bool -> Option (Int × (Int × Unit))) : Option (Int × (Int × Unit)) :=
 cond class_
 (k0 true)
 ((z22 N last).bind fun y =>
 (z22 N first).bind fun y1 =>
 k0 (decide (y < y1)))

def z18y (N : Nat) (x : z1p SQ3) (K : ExP -> List A -> Option (Int × (Int × Unit))) : Option (Int × (Int × Unit)) :=
 z4x N x.1 x.2.1 x.2.2.1 x.2.2.2.1 x.2.2.2.2.1 x.2.2.2.2.2.1 (fun a5 => (K .normal (mkS SQ46 10 (x.1, x.2.1, x.2.2.1, x.2.2.2.2.1, x.2.2.2.2.2.1, a5, ()))))

def z170 (N : Nat) : HdP (Int × (Int × Unit)) := fun st K => (unS SQ3 39 (restr [4, 6, 3, 0, 5, 2] 0 st)).bind fun x => z18y N x K

def t4_68 (N : Nat) : z9s (Int × (Int × Unit)) := []

theorem z14n {N : Nat} {c : Ctx} (hb : Base Tryd.prog (z137 N) c) (hP : PnOk Tryd.prog glob (z1l N)) : z1s Tryd.prog c (zd zcy zkp) (z170 N) :=
  z1x (s := SQ3) (m := 39) (g := z18y N) [4, 6, 3, 0, 5, 2] (z1g hb hP N (t4_68 N) z13t zcy TabOkP.nil zkp _ rfl) (fun x K => by kernel_rfl)

def z4y (N : Nat) (p : DT5) (x2 : (List Int)) (first : (List Int)) (class_ : Bool) (from_ : Int) (last : (List Int)) (k0 : (Int × (Int × Unit)) -> Option (Int × (Int × Unit))) (k1 : Option (Int × (Int × Unit))) : Option (Int × (Int × Unit)) :=
 z4x N p x2 first class_ from_ last
 (fun x35 => cond x35
 (k0 ((2 : Int), (from_, ())))
 (k1))

def z194 (N : Nat) (x : z1p SQ3) (K : ExP -> List A -> Option (Int × (Int × Unit))) : Option (Int × (Int × Unit)) :=
 z4y N x.1 x.2.1 x.2.2.1 x.2.2.2.1 x.2.2.2.2.1 x.2.2.2.2.2.1 (fun a0 => (K (.pan 36) (mkS [(0, .v TT6)] 0 (a0, ())))) (K .normal (mkS SQ71 39 (x.1, x.2.1, x.2.2.1, x.2.2.2.2.2.1, ())))

def z176 (N : Nat) : HdP (Int × (Int × Unit)) := fun st K => (unS SQ3 39 (restr [4, 6, 3, 0, 5, 2] 0 st)).bind fun x => z194 N x K

def t3_68 (N : Nat) : z9s (Int × (Int × Unit)) := [(zkp, z170 N)]

theorem z14t {N : Nat} {c : Ctx} (hb : Base Tryd.prog (z137 N) c) (hP : PnOk Tryd.prog glob (z1l N)) : z1s Tryd.prog c (zd zcy [0, 1, 1, 1, 1, 1]) (z176 N) :=
  z1x (s := SQ3) (m := 39) (g := z194 N) [4, 6, 3, 0, 5, 2] (z1g hb hP N (t3_68 N) z13t zcy (TabOkP.cons (z14n hb hP) TabOkP.nil) [0, 1, 1, 1, 1, 1] _ rfl) (fun x K => by kernel_rfl)

def z2n (N : Nat) (p : DT5) : Option (Int × (Int × Unit)) :=
 orP ((z2k N p)) (fun z => some z)
 ((z2l N p).bind fun y =>
 z50 N y.2.1 ([(0 : Int), (0 : Int), (0 : Int), (0 : Int)] : List Int) y.1.1 y.1.2.1
 (fun p1 => none)
 (fun p2 => orP ((z2k N p2)) (fun z1 => some z1)
 ((z2l N p2).bind fun y1 =>
 z4y N y1.2.1 ([(0 : Int), (0 : Int), (0 : Int), (0 : Int)] : List Int) y.1.1 y1.1.2.1 p2.2.1 y1.1.1
 (fun p3 => some p3)
 ((z22 N y.1.1).bind fun y2 =>
 (z22 N y1.1.1).bind fun y3 =>
 (z2a N (IntKind.wrap IntKind.u8 y2) (IntKind.wrap IntKind.u8 y3)).bind fun y4 =>
 none))))

def t_68 (N : Nat) : z9s (Int × (Int × Unit)) := [([0, 1, 1], z17x N), ([0, 1, 1, 1, 1, 1], z176 N)]

theorem z11g (N : Nat) (x : z1p [(0, .box TT4)]) : zds (z137 N) (z1l N) N (t_68 N) z13t Tryd.f53 36 TT6 (mkS [(0, .box TT4)] 0 x) (fun z => some z) = z2n N x.1 := by kernel_rfl

def z7j (N : Nat) : List A -> PnRes := zdr [(0, .box TT4)] (fun x => z2n N x.1) (fun z => ⟨TT6, z⟩)

theorem zbr (N : Nat) : ContractP Tryd.prog glob 53 36 (z7j N) :=
  ContractP.of (E := z137 N) (Pn := z1l N) (H := t_68 N) (L := z13t) (N := N) (body := zcy) (t := TT6) (z1bl N) (z4n N) Tryd.func53 (by kernel_rfl) (by decide) (fun _ hb => (TabOkP.cons (z15k hb (z4n N)) (TabOkP.cons (z14t hb (z4n N)) TabOkP.nil))) (fun x y h => by rw [z11g]; exact h)

def zqj : Code := (Tryd.f42.body).getD .skip

def L_69 : List (List Nat × List Nat) := [([0], [0, 2]), ([0, 1], [0, 2]), ([0, 1, 1], [0, 3, 2]), ([0, 1, 1, 1], [0, 4, 3, 2]), ([0, 0, 1, 1, 1, 1], [0, 4, 3, 2]), (zys, [13, 4, 0, 3, 2]), (zyr, [4, 0, 3, 2]), (PQ99, [3, 4, 2, 0]), ([0, 1, 0, 0, 0, 1, 1, 1, 1], [0, 4, 3, 2]), (zyp, [0, 4, 3, 2]), ([0, 1, 1, 1, 1], [3, 4, 2, 0]), (zkp, [18, 4, 2, 0]), (zyn, [4, 2, 0]), (PQ59, [2, 0]), (PQ92, [2, 0]), (ztx, [2, 0]), (zu0, [2, 0])]

def E_69 (N : Nat) : Env := z3w tys glob [(26, z1c N), (46, z1e N), (53, z6d N), (54, zbg N), (55, zaw N)] [] [] [0] false [] []

theorem z1bk (N : Nat) : EnvOk Tryd.prog (E_69 N) := zn mixed z1v (FnsOk.cons (z1q N) (FnsOk.cons (z1r N) (FnsOk.cons (z9n N) (FnsOk.cons (zgj N) (FnsOk.cons (zf3 N) (FnsOk.nil)))))) (ItsOk.nil)

def z2w (N : Nat) : PnT := pnT [(53, 36, z7j N), (46, 36, z2c N)]

theorem z5v (N : Nat) : PnOk Tryd.prog glob (z2w N) := PnOk.cons (zbr N) (PnOk.cons (z3k N) (PnOk.nil))

def z2q (N : Nat) (x2 : (List Int)) (not_ : Bool) (p : DT5) (set_ : (List Int)) (rec : DT5 -> (List Int) -> Option (Int × (Int × Unit))) (k0 : (Int × (Int × Unit)) -> Option (Int × (Int × Unit))) (k1 : DT5 -> (List Int) -> Option (Int × (Int × Unit))) : Option (Int × (Int × Unit)) :=
 (zp N p (93 : Int)).bind fun y =>
 cond (!y.1)
 (orP ((z2n N y.2.1)) (fun z => k0 z)
 ((z2o N y.2.1).bind fun y1 =>
 (z92 N set_ y1.1).bind fun y2 =>
 rec y1.2.1 y2))
 (k1 y.2.1 set_)

def z65 (N : Nat) (p : DT5) (x2 : (List Int)) (not_ : Bool) (set_ : (List Int)) (k0 : (Int × (Int × Unit)) -> Option (Int × (Int × Unit))) (k1 : DT5 -> (List Int) -> Option (Int × (Int × Unit))) : Option (Int × (Int × Unit)) :=
 iter (fun (v : (DT5 × (List Int))) r => z2q N x2 not_ v.1 v.2 (fun p set_ => (r (p, set_))) k0 k1) N (p, set_)

def z19u (N : Nat) (i : ((List Int) × Bool)) (v : (DT5 × (List Int))) (r : (DT5 × (List Int)) -> Option (Int × (Int × Unit))) (K : ExP -> List A -> Option (Int × (Int × Unit))) : Option (Int × (Int × Unit)) :=
 z2q N i.1 i.2 v.1 v.2 (fun p set_ => (r (p, set_))) (fun a0 => (K (.pan 36) (mkS [(0, .v TT6)] 0 (a0, ())))) (fun a0 a3 => (K (.exit 0) (mkS z13m 17 (a0, i.1, i.2, a3, ()))))

def z17w (N : Nat) : HdP (Int × (Int × Unit)) := fun st K => (unS z13m 17 (restr [0, 4, 3, 2] 0 st)).bind fun x => iter (fun v r => z19u N ((fun x => (x.2.1, x.2.2.1)) x) v r K) N ((fun x => (x.1, x.2.2.2.1)) x)

def t1_69 (N : Nat) : z9s (Int × (Int × Unit)) := []

theorem z15j {N : Nat} {c : Ctx} (hb : Base Tryd.prog (E_69 N) c) (hP : PnOk Tryd.prog glob (z2w N)) : z1s Tryd.prog c (zd zqj [0, 0, 1, 1, 1, 1]) (z17w N) :=
  zij (s := z13m) (m := 17) (z19u N) [0, 4, 3, 2] N (fun x => (x.2.1, x.2.2.1)) (fun x => (x.1, x.2.2.2.1)) (fun i v => (v.1, i.1, i.2, v.2, ())) (fun _ => rfl) (z1g hb hP N (t1_69 N) L_69 zqj TabOkP.nil [0, 0, 0, 1, 1, 1, 1] _ rfl) (fun i v r K => by kernel_rfl)

def z2d (N : Nat) (p : DT5) : Option (Int × (Int × Unit)) :=
 orP ((z15 N p (91 : Int))) (fun z => some z)
 ((zq N p (91 : Int)).bind fun y =>
 (zp N y.2.1 (94 : Int)).bind fun y1 =>
 orP ((z2n N y1.2.1)) (fun z1 => some z1)
 ((z2o N y1.2.1).bind fun y2 =>
 z65 N y2.2.1 ([(0 : Int), (0 : Int), (0 : Int), (0 : Int)] : List Int) y1.1 y2.1
 (fun p1 => some p1)
 (fun p2 set_ => cond y1.1
 ((z84 N set_).bind fun y3 =>
 none)
 (none))))

def t_69 (N : Nat) : z9s (Int × (Int × Unit)) := [([0, 0, 1, 1, 1, 1], z17w N)]

theorem z11f (N : Nat) (x : z1p [(0, .box TT4)]) : zds (E_69 N) (z2w N) N (t_69 N) L_69 Tryd.f42 36 TT6 (mkS [(0, .box TT4)] 0 x) (fun z => some z) = z2d N x.1 := by kernel_rfl

def z5u (N : Nat) : List A -> PnRes := zdr [(0, .box TT4)] (fun x => z2d N x.1) (fun z => ⟨TT6, z⟩)

theorem z9u (N : Nat) : ContractP Tryd.prog glob 42 36 (z5u N) :=
  ContractP.of (E := E_69 N) (Pn := z2w N) (H := t_69 N) (L := L_69) (N := N) (body := zqj) (t := TT6) (z1bk N) (z5v N) Tryd.func42 (by kernel_rfl) (by decide) (fun _ hb => (TabOkP.cons (z15j hb (z5v N)) TabOkP.nil)) (fun x y h => by rw [z11f]; exact h)

def zk2 : Code := (Tryd.f35.body).getD .skip

def L_70 : List (List Nat × List Nat) := [([0], [0]), ([0, 1], [0, 4]), ([0, 1, 1], [2, 0, 4]), ([0, 1, 1, 1], [0, 2, 3, 4]), ([0, 0, 1, 1, 1, 1], [13, 0, 2, 3, 4]), ([1, 0, 1, 1, 1, 1], [3, 2, 0, 4]), ([0, 0, 0, 1, 0, 1, 1, 1, 1], [15, 2, 0]), ([1, 0, 0, 1, 0, 1, 1, 1, 1], [0, 2]), ([0, 0, 1, 0, 0, 1, 0, 1, 1, 1, 1], [2, 3, 0]), ([1, 0, 1, 0, 0, 1, 0, 1, 1, 1, 1], [2, 3, 0]), ([0, 1, 0, 1, 0, 1, 1, 1, 1], [0, 2, 4]), ([1, 1, 0, 1, 0, 1, 1, 1, 1], [3, 2, 0, 4]), (zkp, [26, 0, 4, 2, 3]), (zyn, [0, 2, 3]), (ztz, [0, 2, 3]), (ztx, [2, 3, 0]), (z13q, [2, 3, 0]), (z13p, [2, 3, 0])]

def z1ci (N : Nat) : Env := z3w tys glob [(26, z1c N), (45, z73 N), (46, z1e N)] [] [] [0] false [] []

theorem z1bj (N : Nat) : EnvOk Tryd.prog (z1ci N) := zn mixed z1v (FnsOk.cons (z1q N) (FnsOk.cons (zad N) (FnsOk.cons (z1r N) (FnsOk.nil)))) (ItsOk.nil)

def z2e (N : Nat) : PnT := pnT [(45, 36, z88 N), (46, 36, z2c N), (20, 36, zk N)]

theorem z45 (N : Nat) : PnOk Tryd.prog glob (z2e N) := PnOk.cons (zcc N) (PnOk.cons (z3k N) (PnOk.cons (zr N) (PnOk.nil)))

def z4c (N : Nat) (p : DT5) (low : Int) (high : Int) (from_ : Int) (k0 : DT5 -> Int -> Option (Int × (Int × Unit))) (k1 : (Int × (Int × Unit)) -> Option (Int × (Int × Unit))) (k2 : DT5 -> Int -> Int -> Option (Int × (Int × Unit))) : Option (Int × (Int × Unit)) :=
 (zp N p (44 : Int)).bind fun y =>
 cond y.1
 ((zp N y.2.1 (125 : Int)).bind fun y1 =>
 cond y1.1
 (k0 y1.2.1 (-(1 : Int)))
 (orP ((z2z N y1.2.1)) (fun z => k1 z)
 ((z33 N y1.2.1).bind fun y2 =>
 k2 y2.2.1 y2.1 y1.2.1.2.1)))
 (k2 y.2.1 high from_)

def z19t (N : Nat) (x : z1p SQ8) (K : ExP -> List A -> Option (Int × (Int × Unit))) : Option (Int × (Int × Unit)) :=
 z4c N x.1 x.2.1 x.2.2.1 x.2.2.2.1 (fun a0 a2 => (K .ret (mkS SQ67 30 (a0, x.2.1, a2, ())))) (fun a0 => (K (.pan 36) (mkS [(0, .v TT6)] 0 (a0, ())))) (fun a0 a2 a3 => (K .normal (mkS SQ8 29 (a0, x.2.1, a2, a3, ()))))

def z17v (N : Nat) : HdP (Int × (Int × Unit)) := fun st K => (unS SQ8 29 (restr [0, 2, 3, 4] 0 st)).bind fun x => z19t N x K

def t1_70 (N : Nat) : z9s (Int × (Int × Unit)) := []

theorem z15i {N : Nat} {c : Ctx} (hb : Base Tryd.prog (z1ci N) c) (hP : PnOk Tryd.prog glob (z2e N)) : z1s Tryd.prog c (zd zk2 [0, 1, 1, 1, 1]) (z17v N) :=
  z1x (s := SQ8) (m := 29) (g := z19t N) [0, 2, 3, 4] (z1g hb hP N (t1_70 N) L_70 zk2 TabOkP.nil [0, 1, 1, 1, 1] _ rfl) (fun x K => by kernel_rfl)

def z36 (N : Nat) (p : DT5) (low : Int) (high : Int) (from_ : Int) (k0 : (Int × (Int × Unit)) -> Option (Int × (Int × Unit))) (k1 : Option (Int × (Int × Unit))) : Option (Int × (Int × Unit)) :=
 cond (decide (high < (if ((1 : Int) > low) then (1 : Int) else low)))
 (k0 ((2 : Int), (from_, ())))
 (k1)

def z19b (N : Nat) (x : z1p SQ8) (K : ExP -> List A -> Option (Int × (Int × Unit))) : Option (Int × (Int × Unit)) :=
 z36 N x.1 x.2.1 x.2.2.1 x.2.2.2.1 (fun a0 => (K (.pan 36) (mkS [(0, .v TT6)] 0 (a0, ())))) (K .normal (mkS SQ67 30 (x.1, x.2.1, x.2.2.1, ())))

def z17d (N : Nat) : HdP (Int × (Int × Unit)) := fun st K => (unS SQ8 29 (restr [3, 2, 0, 4] 0 st)).bind fun x => z19b N x K

def t2_70 (N : Nat) : z9s (Int × (Int × Unit)) := []

theorem z150 {N : Nat} {c : Ctx} (hb : Base Tryd.prog (z1ci N) c) (hP : PnOk Tryd.prog glob (z2e N)) : z1s Tryd.prog c (zd zk2 [0, 1, 1, 1, 1, 1]) (z17d N) :=
  z1x (s := SQ8) (m := 29) (g := z19b N) [3, 2, 0, 4] (z1g hb hP N (t2_70 N) L_70 zk2 TabOkP.nil [0, 1, 1, 1, 1, 1] _ rfl) (fun x K => by kernel_rfl)

def z2x (N : Nat) (p : DT5) : Option (Int × (Int × Unit)) :=
 orP ((z2z N p)) (fun z => some z)
 ((z33 N p).bind fun y =>
 z4c N y.2.1 y.1 y.1 p.2.1
 (fun p1 high => none)
 (fun p2 => some p2)
 (fun p3 high1 from_ => z36 N p3 y.1 high1 from_
 (fun p4 => some p4)
 (orP ((z15 N p3 (125 : Int))) (fun z1 => some z1)
 ((zq N p3 (125 : Int)).bind fun y1 =>
 none))))

def t_70 (N : Nat) : z9s (Int × (Int × Unit)) := [([0, 1, 1, 1, 1], z17v N), ([0, 1, 1, 1, 1, 1], z17d N)]

theorem z11e (N : Nat) (x : z1p [(0, .box TT4)]) : zds (z1ci N) (z2e N) N (t_70 N) L_70 Tryd.f35 36 TT6 (mkS [(0, .box TT4)] 0 x) (fun z => some z) = z2x N x.1 := by kernel_rfl

def z6g (N : Nat) : List A -> PnRes := zdr [(0, .box TT4)] (fun x => z2x N x.1) (fun z => ⟨TT6, z⟩)

theorem zay (N : Nat) : ContractP Tryd.prog glob 35 36 (z6g N) :=
  ContractP.of (E := z1ci N) (Pn := z2e N) (H := t_70 N) (L := L_70) (N := N) (body := zk2) (t := TT6) (z1bj N) (z45 N) Tryd.func35 (by kernel_rfl) (by decide) (fun _ hb => (TabOkP.cons (z15i hb (z45 N)) (TabOkP.cons (z150 hb (z45 N)) TabOkP.nil))) (fun x y h => by rw [z11e]; exact h)

abbrev z7 : Type := DT5 -> Option (Int × (Int × Unit))

def zqi : Code := (Tryd.f39.body).getD .skip

def L_71 : List (List Nat × List Nat) := [([0], [0, 2]), ([0, 0, 1], [8, 0, 2]), ([1, 0, 1], [0, 2]), ([0, 1, 0, 1], [0, 2]), ([0, 1, 1], [0, 2]), ([0, 1, 1, 1], [0, 2]), ([0, 1, 1, 1, 1], [0, 3, 2]), ([0, 1, 1, 1, 1, 1], [0, 3, 2]), (ztx, [3, 2, 0]), (z13q, [2, 0]), (z13p, [2, 0])]

def E_71 (N : Nat) (self : z7) : Env := z3w tys glob [(19, z9p N), (46, z1e N)] [] [] [0] false [] []

theorem z1bi (N : Nat) (self : z7) : EnvOk Tryd.prog (E_71 N self) := zn mixed z1v (FnsOk.cons (z2j N) (FnsOk.cons (z1r N) (FnsOk.nil))) (ItsOk.nil)

def z3l (N : Nat) (self : z7) : PnT := pnT [(46, 36, z2c N), (20, 36, zk N), (19, 36, zdr [(0, .box TT4)] (fun x => self x.1) (fun z => ⟨TT6, z⟩))]

theorem z6x (N : Nat) (self : z7) (hself : ContractP Tryd.prog glob 19 36 (zdr [(0, .box TT4)] (fun x => self x.1) (fun z => ⟨TT6, z⟩))) : PnOk Tryd.prog glob (z3l N self) := PnOk.cons (z3k N) (PnOk.cons (zr N) (PnOk.cons (hself) (PnOk.nil)))

def z4o (N : Nat) (self : z7) (p : DT5) (x2 : DT1) (k0 : (Int × (Int × Unit)) -> Option (Int × (Int × Unit))) (k1 : Option (Int × (Int × Unit))) : Option (Int × (Int × Unit)) :=
 cond (p.2.2.1 == (16 : Int))
 (k0 ((3 : Int), (p.2.1, ())))
 (k1)

def z19s (N : Nat) (self : z7) (x : z1p zzz) (K : ExP -> List A -> Option (Int × (Int × Unit))) : Option (Int × (Int × Unit)) :=
 z4o N self x.1 x.2.1 (fun a0 => (K (.pan 36) (mkS [(0, .v TT6)] 0 (a0, ())))) (K .normal (mkS zzz 33 (x.1, x.2.1, ())))

def z17u (N : Nat) (self : z7) : HdP (Int × (Int × Unit)) := fun st K => (unS zzz 33 (restr [0, 2] 0 st)).bind fun x => z19s N self x K

def t1_71 (N : Nat) (self : z7) : z9s (Int × (Int × Unit)) := []

theorem z15h {N : Nat} {self : z7} {c : Ctx} (hb : Base Tryd.prog (E_71 N self) c) (hP : PnOk Tryd.prog glob (z3l N self)) : z1s Tryd.prog c (zd zqi [0, 1]) (z17u N self) :=
  z1x (s := zzz) (m := 33) (g := z19s N self) [0, 2] (z1g hb hP N (t1_71 N self) L_71 zqi TabOkP.nil [0, 1] _ rfl) (fun x K => by kernel_rfl)

def z38 (N : Nat) (self : z7) (p : DT5) : Option (Int × (Int × Unit)) :=
 z4o N self p ((0 : Int), (([(0 : Int), (0 : Int), (0 : Int), (0 : Int)] : List Int), (([] : List Tree), ((0 : Int), ((0 : Int), ())))))
 (fun p1 => some p1)
 (orP ((z15 N (p.1, (p.2.1, ((IntKind.wrap IntKind.i64 (p.2.2.1 + (1 : Int))), p.2.2.2))) (40 : Int))) (fun z => some z)
 ((zq N (p.1, (p.2.1, ((IntKind.wrap IntKind.i64 (p.2.2.1 + (1 : Int))), p.2.2.2))) (40 : Int)).bind fun y =>
 orP ((self y.2.1)) (fun z1 => some z1)
 ((ze N y.2.1).bind fun y1 =>
 orP ((z15 N y1.2.1 (41 : Int))) (fun z2 => some z2)
 ((zq N y1.2.1 (41 : Int)).bind fun y2 =>
 none))))

def t_71 (N : Nat) (self : z7) : z9s (Int × (Int × Unit)) := [([0, 1], z17u N self)]

theorem z11d (N : Nat) (self : z7) (x : z1p [(0, .box TT4)]) : zds (E_71 N self) (z3l N self) N (t_71 N self) L_71 Tryd.f39 36 TT6 (mkS [(0, .box TT4)] 0 x) (fun z => some z) = z38 N self x.1 := by kernel_rfl

def z6w (N : Nat) (self : z7) : List A -> PnRes := zdr [(0, .box TT4)] (fun x => z38 N self x.1) (fun z => ⟨TT6, z⟩)

theorem zbd (N : Nat) (self : z7) (hself : ContractP Tryd.prog glob 19 36 (zdr [(0, .box TT4)] (fun x => self x.1) (fun z => ⟨TT6, z⟩))) : ContractP Tryd.prog glob 39 36 (z6w N self) :=
  ContractP.of (E := E_71 N self) (Pn := z3l N self) (H := t_71 N self) (L := L_71) (N := N) (body := zqi) (t := TT6) (z1bi N self) (z6x N self hself) Tryd.func39 (by kernel_rfl) (by decide) (fun _ hb => (TabOkP.cons (z15h hb (z6x N self hself)) TabOkP.nil)) (fun x y h => by rw [z11d]; exact h)

def zqh : Code := (Tryd.f34.body).getD .skip

def L_72 : List (List Nat × List Nat) := [([0], [0, 2]), ([0, 1], [3, 0, 2]), ([0, 1, 1], [15, 0, 2, 3]), ([0, 0, 1, 1, 1], [36, 0, 2, 15, 3]), ([1, 0, 1, 1, 1], [2, 0]), ([0, 1, 1, 0, 1, 1, 1], [40, 0, 2, 15, 3]), ([1, 1, 1, 0, 1, 1, 1], [2, 0]), ([0, 1, 1, 1, 1, 0, 1, 1, 1], [51, 0, 2, 15, 3]), ([1, 1, 1, 1, 1, 0, 1, 1, 1], [2, 0]), ([0, 1, 1, 1, 1, 1, 1, 0, 1, 1, 1], [56, 0, 2, 3]), ([1, 1, 1, 1, 1, 1, 1, 0, 1, 1, 1], [2, 0]), ([0, 0, 1, 1, 1, 1, 1, 1, 1, 1, 0, 1, 1, 1], [18, 0, 3, 2]), ([1, 0, 1, 1, 1, 1, 1, 1, 1, 1, 0, 1, 1, 1], [0, 3, 2]), ([0, 1, 0, 1, 1, 1, 1, 1, 1, 1, 1, 0, 1, 1, 1], [0, 3, 2]), ([0, 1, 1, 1, 1, 1, 1, 1, 1, 1, 0, 1, 1, 1], [3, 2, 0]), ([0, 1, 1, 1, 1, 1, 1, 1, 1, 1, 1, 0, 1, 1, 1], [2, 0]), ([1, 1, 1, 1, 1, 1, 1, 1, 1, 1, 1, 0, 1, 1, 1], [2, 0]), ([0, 0, 1, 1, 1, 1, 1, 1, 1, 0, 1, 1, 1], [4, 2, 0]), ([0, 1, 0, 1, 1, 1, 1, 1, 1, 1, 0, 1, 1, 1], [2, 0]), ([1, 1, 0, 1, 1, 1, 1, 1, 1, 1, 0, 1, 1, 1], [2, 0]), ([0, 0, 1, 1, 1, 1, 1, 0, 1, 1, 1], [2, 0]), ([1, 0, 1, 1, 1, 1, 1, 0, 1, 1, 1], [2, 0]), ([0, 0, 1, 1, 1, 0, 1, 1, 1], [2, 0]), ([0, 1, 0, 1, 1, 1, 0, 1, 1, 1], [2, 0]), ([1, 1, 0, 1, 1, 1, 0, 1, 1, 1], [2, 0]), (z1b7, [2, 0]), (z1b6, [2, 0]), ([1, 1, 1], [2, 0])]

def E_72 (N : Nat) (self : z7) : Env := z3w tys glob [(39, z61 N (ze N)), (40, zcf N), (41, z3e N), (42, z4p N), (43, z2u N), (44, z3f N)] [] [] [0] false [] []

theorem z1bh (N : Nat) (self : z7) : EnvOk Tryd.prog (E_72 N self) := zn mixed z1v (FnsOk.cons (z9d N (ze N) (z2j N)) (FnsOk.cons (zhr N) (FnsOk.cons (z4l N) (FnsOk.cons (z8e N) (FnsOk.cons (z47 N) (FnsOk.cons (z4s N) (FnsOk.nil))))))) (ItsOk.nil)

def z3u (N : Nat) (self : z7) : PnT := pnT [(39, 36, z6w N self), (42, 36, z5u N), (43, 36, z43 N), (20, 36, zk N), (19, 36, zdr [(0, .box TT4)] (fun x => self x.1) (fun z => ⟨TT6, z⟩))]

theorem z7l (N : Nat) (self : z7) (hself : ContractP Tryd.prog glob 19 36 (zdr [(0, .box TT4)] (fun x => self x.1) (fun z => ⟨TT6, z⟩))) : PnOk Tryd.prog glob (z3u N self) := PnOk.cons (zbd N self hself) (PnOk.cons (z9u N) (PnOk.cons (z6y N) (PnOk.cons (zr N) (PnOk.cons (hself) (PnOk.nil)))))

def z51 (N : Nat) (self : z7) (p : DT5) (x2 : DT1) (b : Int) (k0 : (Int × (Int × Unit)) -> Option (Int × (Int × Unit))) (k1 : Option (Int × (Int × Unit))) : Option (Int × (Int × Unit)) :=
 cond (decide ((0 : Int) <= (Go.Lib.indexByte ([(92 : UInt8), (46 : UInt8), (91 : UInt8), (93 : UInt8), (40 : UInt8), (41 : UInt8), (123 : UInt8), (125 : UInt8), (124 : UInt8), (42 : UInt8), (43 : UInt8), (63 : UInt8)] : List UInt8) (Nat.toUInt8 (Int.toNat b)))))
 (k0 ((2 : Int), (p.2.1, ())))
 (k1)

def z19r (N : Nat) (self : z7) (x : z1p z101) (K : ExP -> List A -> Option (Int × (Int × Unit))) : Option (Int × (Int × Unit)) :=
 z51 N self x.1 x.2.1 x.2.2.1 (fun a0 => (K (.pan 36) (mkS [(0, .v TT6)] 0 (a0, ())))) (K .normal (mkS z101 61 (x.1, x.2.1, x.2.2.1, ())))

def z17t (N : Nat) (self : z7) : HdP (Int × (Int × Unit)) := fun st K => (unS z101 61 (restr [3, 0, 2] 0 st)).bind fun x => z19r N self x K

def t1_72 (N : Nat) (self : z7) : z9s (Int × (Int × Unit)) := []

theorem z15g {N : Nat} {self : z7} {c : Ctx} (hb : Base Tryd.prog (E_72 N self) c) (hP : PnOk Tryd.prog glob (z3u N self)) : z1s Tryd.prog c (zd zqh z13o) (z17t N self) :=
  z1x (s := z101) (m := 61) (g := z19r N self) [3, 0, 2] (z1g hb hP N (t1_72 N self) L_72 zqh TabOkP.nil z13o _ rfl) (fun x K => by kernel_rfl)

def z3g (N : Nat) (self : z7) (p : DT5) : Option (Int × (Int × Unit)) :=
 cond (inR p.2.1 (List.length p.1))
 (cond ((((UInt8.toNat (List.getD p.1 (Int.toNat p.2.1) (0 : UInt8))) : Nat) : Int) == (40 : Int))
 (orP ((z38 N self p)) (fun z => some z)
 ((z3m N (ze N) p).bind fun y =>
 none))
 (cond ((((UInt8.toNat (List.getD p.1 (Int.toNat p.2.1) (0 : UInt8))) : Nat) : Int) == (46 : Int))
 ((z2a N (0 : Int) (255 : Int)).bind fun y1 =>
 none)
 (cond ((((UInt8.toNat (List.getD p.1 (Int.toNat p.2.1) (0 : UInt8))) : Nat) : Int) == (91 : Int))
 (orP ((z2d N p)) (fun z1 => some z1)
 ((z2p N p).bind fun y2 =>
 none))
 (cond ((((UInt8.toNat (List.getD p.1 (Int.toNat p.2.1) (0 : UInt8))) : Nat) : Int) == (92 : Int))
 (orP ((z20 N p)) (fun z2 => some z2)
 ((z1w N p).bind fun y3 =>
 none))
 (z51 N self p ((0 : Int), (([(0 : Int), (0 : Int), (0 : Int), (0 : Int)] : List Int), (([] : List Tree), ((0 : Int), ((0 : Int), ()))))) (((UInt8.toNat (List.getD p.1 (Int.toNat p.2.1) (0 : UInt8))) : Nat) : Int)
 (fun p1 => some p1)
 ((z2a N (((UInt8.toNat (List.getD p.1 (Int.toNat p.2.1) (0 : UInt8))) : Nat) : Int) (((UInt8.toNat (List.getD p.1 (Int.toNat p.2.1) (0 : UInt8))) : Nat) : Int)).bind fun y4 =>
 none))))))
 (none)

def t_72 (N : Nat) (self : z7) : z9s (Int × (Int × Unit)) := [(z13o, z17t N self)]

theorem z11c (N : Nat) (self : z7) (x : z1p [(0, .box TT4)]) : zds (E_72 N self) (z3u N self) N (t_72 N self) L_72 Tryd.f34 36 TT6 (mkS [(0, .box TT4)] 0 x) (fun z => some z) = z3g N self x.1 := by kernel_rfl

def z7k (N : Nat) (self : z7) : List A -> PnRes := zdr [(0, .box TT4)] (fun x => z3g N self x.1) (fun z => ⟨TT6, z⟩)

theorem zbs (N : Nat) (self : z7) (hself : ContractP Tryd.prog glob 19 36 (zdr [(0, .box TT4)] (fun x => self x.1) (fun z => ⟨TT6, z⟩))) : ContractP Tryd.prog glob 34 36 (z7k N self) :=
  ContractP.of (E := E_72 N self) (Pn := z3u N self) (H := t_72 N self) (L := L_72) (N := N) (body := zqh) (t := TT6) (z1bh N self) (z7l N self hself) Tryd.func34 (by kernel_rfl) (by decide) (fun _ hb => (TabOkP.cons (z15g hb (z7l N self hself)) TabOkP.nil)) (fun x y h => by rw [z11c]; exact h)

def zqg : Code := (Tryd.f32.body).getD .skip

def L_73 : List (List Nat × List Nat) := [([0], [0, 2]), ([0, 1], [0, 3, 2]), ([0, 0, 1, 1], [16, 3, 2, 0]), ([1, 0, 1, 1], [3, 0, 2]), ([0, 0, 1, 0, 1, 1], [2, 0]), ([1, 0, 1, 0, 1, 1], [2, 0]), ([0, 1, 1, 1], [0, 4, 2, 3]), ([0, 0, 1, 1, 1, 1], [29, 4, 0, 2, 3]), ([0, 0, 0, 0, 0, 0, 0, 0, 0, 0, 0, 0, 0, 0, 1, 0, 1, 1, 1, 1], [30, 4, 0, 2, 29, 3]), ([1, 0, 0, 0, 0, 0, 0, 0, 0, 0, 0, 0, 0, 0, 1, 0, 1, 1, 1, 1], [29, 0, 4, 2, 3]), ([0, 1, 0, 0, 0, 0, 0, 0, 0, 0, 0, 0, 0, 0, 0, 1, 0, 1, 1, 1, 1], [4, 0, 2]), ([0, 0, 1, 0, 0, 0, 0, 0, 0, 0, 0, 0, 0, 0, 0, 1, 0, 1, 1, 1, 1], [32, 0, 4, 2, 29, 3]), ([1, 0, 1, 0, 0, 0, 0, 0, 0, 0, 0, 0, 0, 0, 0, 1, 0, 1, 1, 1, 1], [29, 0, 4, 2, 3]), ([0, 1, 0, 1, 0, 0, 0, 0, 0, 0, 0, 0, 0, 0, 0, 0, 1, 0, 1, 1, 1, 1], [0, 4, 2]), ([0, 0, 1, 1, 0, 0, 0, 0, 0, 0, 0, 0, 0, 0, 0, 0, 1, 0, 1, 1, 1, 1], [34, 0, 4, 2, 29, 3]), ([1, 0, 1, 1, 0, 0, 0, 0, 0, 0, 0, 0, 0, 0, 0, 0, 1, 0, 1, 1, 1, 1], [29, 0, 4, 2, 3]), ([0, 1, 0, 1, 1, 0, 0, 0, 0, 0, 0, 0, 0, 0, 0, 0, 0, 1, 0, 1, 1, 1, 1], [0, 4, 2]), ([0, 1, 1, 1, 0, 0, 0, 0, 0, 0, 0, 0, 0, 0, 0, 0, 1, 0, 1, 1, 1, 1], [36, 0, 4, 2, 3]), ([1, 1, 1, 1, 0, 0, 0, 0, 0, 0, 0, 0, 0, 0, 0, 0, 1, 0, 1, 1, 1, 1], [3, 2, 0]), ([0, 1, 1, 1, 1, 0, 0, 0, 0, 0, 0, 0, 0, 0, 0, 0, 0, 1, 0, 1, 1, 1, 1], [0, 4, 2]), ([1, 0, 0, 0, 0, 0, 0, 0, 0, 0, 0, 0, 1, 0, 1, 1, 1, 1], [3, 2, 0]), ([0, 0, 0, 0, 0, 0, 0, 0, 0, 0, 1, 0, 1, 1, 1, 1], [4, 0, 2]), ([1, 0, 0, 0, 0, 0, 0, 0, 0, 0, 1, 0, 1, 1, 1, 1], [0, 4, 2]), (z103, [0, 4, 2]), ([0, 1, 0, 0, 0, 0, 0, 0, 0, 1, 0, 1, 1, 1, 1], [4, 2, 0]), ([1, 1, 0, 0, 0, 0, 0, 0, 0, 1, 0, 1, 1, 1, 1], [4, 2, 0]), ([0, 0, 0, 0, 0, 0, 1, 0, 1, 1, 1, 1], [0, 4, 2]), ([0, 0, 1, 0, 0, 0, 0, 0, 1, 0, 1, 1, 1, 1], [4, 2, 0]), ([1, 0, 1, 0, 0, 0, 0, 0, 1, 0, 1, 1, 1, 1], [4, 2, 0]), ([1, 1, 0, 0, 0, 0, 0, 1, 0, 1, 1, 1, 1], [4, 2, 0]), ([0, 0, 0, 0, 1, 0, 1, 1, 1, 1], [0, 4, 2]), ([0, 0, 1, 0, 0, 0, 1, 0, 1, 1, 1, 1], [0, 4, 2]), ([1, 0, 1, 0, 0, 0, 1, 0, 1, 1, 1, 1], [4, 2, 0]), ([1, 1, 0, 0, 0, 1, 0, 1, 1, 1, 1], [4, 2, 0]), (PQ64, [3, 2, 0]), ([0, 0, 1, 0, 1, 0, 1, 1, 1, 1], [2, 0]), ([1, 0, 1, 0, 1, 0, 1, 1, 1, 1], [2, 0]), ([1, 1, 0, 1, 0, 1, 1, 1, 1], [4, 2, 0]), ([1, 0, 1, 1, 1, 1], [4, 2, 0]), ([0, 1, 1, 1, 1, 1], [2, 0]), ([1, 1, 1, 1, 1, 1], [2, 0])]

def E_73 (N : Nat) (self : z7) : Env := z3w tys glob [(34, z6h N (ze N)), (35, z5l N)] [] [] [0] false [] []

theorem z1bg (N : Nat) (self : z7) : EnvOk Tryd.prog (E_73 N self) := zn mixed z1v (FnsOk.cons (z9o N (ze N) (z2j N)) (FnsOk.cons (z8r N) (FnsOk.nil))) (ItsOk.nil)

def z3i (N : Nat) (self : z7) : PnT := pnT [(34, 36, z7k N self), (35, 36, z6g N), (19, 36, zdr [(0, .box TT4)] (fun x => self x.1) (fun z => ⟨TT6, z⟩))]

theorem z6v (N : Nat) (self : z7) (hself : ContractP Tryd.prog glob 19 36 (zdr [(0, .box TT4)] (fun x => self x.1) (fun z => ⟨TT6, z⟩))) : PnOk Tryd.prog glob (z3i N self) := PnOk.cons (zbs N self hself) (PnOk.cons (zay N) (PnOk.cons (hself) (PnOk.nil)))

def z4m (N : Nat) (self : z7) (p : DT5) (x2 : DT1) (kid : DT1) (rep : DT1) (x29 : Int) (k0 : DT1 -> Option (Int × (Int × Unit))) (k1 : Option (Int × (Int × Unit))) (k2 : Option (Int × (Int × Unit))) (k3 : Option (Int × (Int × Unit))) : Option (Int × (Int × Unit)) :=
 cond (x29 == (43 : Int))
 (k0 (rep.1, (rep.2.1, (rep.2.2.1, ((1 : Int), rep.2.2.2.2)))))
 (cond (x29 == (42 : Int))
 (k0 rep)
 (cond (x29 == (63 : Int))
 (k1)
 (cond (x29 == (123 : Int))
 (k2)
 (k3))))

def z19q (N : Nat) (self : z7) (x : z1p z13j) (K : ExP -> List A -> Option (Int × (Int × Unit))) : Option (Int × (Int × Unit)) :=
 z4m N self x.1 x.2.1 x.2.2.1 x.2.2.2.1 x.2.2.2.2.1 (fun a2 => (K .normal (mkS z13i 65 (x.1, x.2.1, a2, ())))) (K (.exit 3) (mkS z13i 65 (x.1, x.2.1, x.2.2.2.1, ()))) (K (.exit 4) (mkS z13i 65 (x.1, x.2.1, x.2.2.2.1, ()))) (K (.exit 5) (mkS [(0, .box TT4), (1, .box TT0), (0, .box TT0)] 66 (x.1, x.2.1, x.2.2.1, ())))

def z17s (N : Nat) (self : z7) : HdP (Int × (Int × Unit)) := fun st K => (unS z13j 40 (restr [29, 4, 0, 2, 3] 0 st)).bind fun x => z19q N self x K

def t1_73 (N : Nat) (self : z7) : z9s (Int × (Int × Unit)) := []

theorem z15f {N : Nat} {self : z7} {c : Ctx} (hb : Base Tryd.prog (E_73 N self) c) (hP : PnOk Tryd.prog glob (z3i N self)) : z1s Tryd.prog c (zd zqg z103) (z17s N self) :=
  z1x (s := z13j) (m := 40) (g := z19q N self) [29, 4, 0, 2, 3] (z1g hb hP N (t1_73 N self) L_73 zqg TabOkP.nil z103 _ rfl) (fun x K => by kernel_rfl)

def z28 (N : Nat) (self : z7) (p : DT5) : Option (Int × (Int × Unit)) :=
 orP ((z3g N self p)) (fun z => some z)
 ((z3z N (ze N) p).bind fun y =>
 cond (y.2.1.2.1 == (((List.length y.2.1.1) : Nat) : Int))
 (none)
 (cond (inR y.2.1.2.1 (List.length y.2.1.1))
 (z4m N self y.2.1 ((0 : Int), (([(0 : Int), (0 : Int), (0 : Int), (0 : Int)] : List Int), (([] : List Tree), ((0 : Int), ((0 : Int), ()))))) y.1 ((4 : Int), (([(0 : Int), (0 : Int), (0 : Int), (0 : Int)] : List Int), ((List.map foN ([y.1] : List DT7)), ((0 : Int), ((-(1 : Int)), ()))))) (((UInt8.toNat (List.getD y.2.1.1 (Int.toNat y.2.1.2.1) (0 : UInt8))) : Nat) : Int)
 (fun rep => none)
 (none)
 (orP ((z2x N (y.2.1.1, ((IntKind.wrap IntKind.i64 (y.2.1.2.1 + (1 : Int))), y.2.1.2.2)))) (fun z1 => some z1)
 ((z39 N (y.2.1.1, ((IntKind.wrap IntKind.i64 (y.2.1.2.1 + (1 : Int))), y.2.1.2.2))).bind fun y1 =>
 none))
 (none))
 (none)))

def t_73 (N : Nat) (self : z7) : z9s (Int × (Int × Unit)) := [(z103, z17s N self)]

theorem z11b (N : Nat) (self : z7) (x : z1p [(0, .box TT4)]) : zds (E_73 N self) (z3i N self) N (t_73 N self) L_73 Tryd.f32 36 TT6 (mkS [(0, .box TT4)] 0 x) (fun z => some z) = z28 N self x.1 := by kernel_rfl

def z6u (N : Nat) (self : z7) : List A -> PnRes := zdr [(0, .box TT4)] (fun x => z28 N self x.1) (fun z => ⟨TT6, z⟩)

theorem zbc (N : Nat) (self : z7) (hself : ContractP Tryd.prog glob 19 36 (zdr [(0, .box TT4)] (fun x => self x.1) (fun z => ⟨TT6, z⟩))) : ContractP Tryd.prog glob 32 36 (z6u N self) :=
  ContractP.of (E := E_73 N self) (Pn := z3i N self) (H := t_73 N self) (L := L_73) (N := N) (body := zqg) (t := TT6) (z1bg N self) (z6v N self hself) Tryd.func32 (by kernel_rfl) (by decide) (fun _ hb => (TabOkP.cons (z15f hb (z6v N self hself)) TabOkP.nil)) (fun x y h => by rw [z11b]; exact h)

def zfo : Code := (Tryd.f25.body).getD .skip

def z1b9 : List (List Nat × List Nat) := [([0], [0, 2]), ([0, 1], [0, 3, 2]), ([0, 0, 1, 1], [0, 3, 2]), ([0, 0, 0, 0, 0, 1, 1], [37, 3, 0, 2]), ([1, 0, 0, 0, 0, 1, 1], [3, 0, 2]), (zyo, [3, 2, 0]), ([0, 1, 0, 0, 0, 1, 1], [0, 3, 2]), ([1, 0, 0, 0, 1, 1], [0, 3, 2]), ([0, 1, 1], [3, 2, 0]), ([0, 1, 1, 1], [2, 0]), ([1, 1, 1, 1], [2, 0])]

def z13v (N : Nat) (self : z7) : Env := z3w tys glob [(27, z7m N), (32, z60 N (ze N))] [(3, TT0)] [] [0] false [] []

theorem z1bf (N : Nat) (self : z7) : EnvOk Tryd.prog (z13v N self) := zn mixed z1v (FnsOk.cons (z9v N) (FnsOk.cons (z9c N (ze N) (z2j N)) (FnsOk.nil))) (ItsOk.nil)

def z29 (N : Nat) (self : z7) : PnT := pnT [(32, 36, z6u N self), (19, 36, zdr [(0, .box TT4)] (fun x => self x.1) (fun z => ⟨TT6, z⟩))]

theorem z8c (N : Nat) (self : z7) (hself : ContractP Tryd.prog glob 19 36 (zdr [(0, .box TT4)] (fun x => self x.1) (fun z => ⟨TT6, z⟩))) : PnOk Tryd.prog glob (z29 N self) := PnOk.cons (zbc N self hself) (PnOk.cons (hself) (PnOk.nil))

def z5j (N : Nat) (self : z7) (p : DT5) (x2 : DT1) (parts : (List DT1)) (k0 : Option (Int × (Int × Unit))) (k1 : Option (Int × (Int × Unit))) : Option (Int × (Int × Unit)) :=
 cond (decide (p.2.1 < (((List.length p.1) : Nat) : Int)))
 (cond (inR p.2.1 (List.length p.1))
 (cond ((((UInt8.toNat (List.getD p.1 (Int.toNat p.2.1) (0 : UInt8))) : Nat) : Int) != (124 : Int))
 (cond (inR p.2.1 (List.length p.1))
 (cond ((((UInt8.toNat (List.getD p.1 (Int.toNat p.2.1) (0 : UInt8))) : Nat) : Int) != (41 : Int))
 (k0)
 (k1))
 (none))
 (k1))
 (none))
 (k1)

def z193 (N : Nat) (self : z7) (x : z1p SQ4) (K : ExP -> List A -> Option (Int × (Int × Unit))) : Option (Int × (Int × Unit)) :=
 z5j N self x.1 x.2.1 x.2.2.1 (K .normal (mkS SQ4 41 (x.1, x.2.1, x.2.2.1, ()))) (K (.exit 0) (mkS SQ4 41 (x.1, x.2.1, x.2.2.1, ())))

def z175 (N : Nat) (self : z7) : HdP (Int × (Int × Unit)) := fun st K => (unS SQ4 41 (restr [0, 3, 2] 0 st)).bind fun x => z193 N self x K

def t3_74 (N : Nat) (self : z7) : z9s (Int × (Int × Unit)) := []

theorem z14s {N : Nat} {self : z7} {c : Ctx} (hb : Base Tryd.prog (z13v N self) c) (hP : PnOk Tryd.prog glob (z29 N self)) : z1s Tryd.prog c (zd zfo [0, 0, 0, 0, 1, 1]) (z175 N self) :=
  z1x (s := SQ4) (m := 41) (g := z193 N self) [0, 3, 2] (z1g hb hP N (t3_74 N self) z1b9 zfo TabOkP.nil [0, 0, 0, 0, 1, 1] _ rfl) (fun x K => by kernel_rfl)

def z2v (N : Nat) (self : z7) (x2 : DT1) (p : DT5) (parts : (List DT1)) (rec : DT5 -> (List DT1) -> Option (Int × (Int × Unit))) (k0 : (Int × (Int × Unit)) -> Option (Int × (Int × Unit))) (k1 : DT5 -> (List DT1) -> Option (Int × (Int × Unit))) : Option (Int × (Int × Unit)) :=
 z5j N self p x2 parts
 (orP ((z28 N self p)) (fun z => k0 z)
 ((z26 N (ze N) p).bind fun y =>
 cond (decide ((((List.length parts) + 1) * 80) <= 70368744177664))
 (rec y.2.1 (parts ++ ([y.1] : List DT7)))
 (none)))
 (k1 p parts)

def z8j (N : Nat) (self : z7) (p : DT5) (x2 : DT1) (parts : (List DT1)) (k0 : (Int × (Int × Unit)) -> Option (Int × (Int × Unit))) (k1 : DT5 -> (List DT1) -> Option (Int × (Int × Unit))) : Option (Int × (Int × Unit)) :=
 iter (fun (v : (DT5 × (List DT1))) r => z2v N self x2 v.1 v.2 (fun p parts => (r (p, parts))) k0 k1) N (p, parts)

def z19a (N : Nat) (self : z7) (i : DT1) (v : (DT5 × (List DT1))) (r : (DT5 × (List DT1)) -> Option (Int × (Int × Unit))) (K : ExP -> List A -> Option (Int × (Int × Unit))) : Option (Int × (Int × Unit)) :=
 z2v N self i v.1 v.2 (fun p parts => (r (p, parts))) (fun a0 => (K (.pan 36) (mkS [(0, .v TT6)] 0 (a0, ())))) (fun a0 a2 => (K (.exit 0) (mkS SQ4 41 (a0, i, a2, ()))))

def z17c (N : Nat) (self : z7) : HdP (Int × (Int × Unit)) := fun st K => (unS SQ4 41 (restr [0, 3, 2] 0 st)).bind fun x => iter (fun v r => z19a N self ((fun x => x.2.1) x) v r K) N ((fun x => (x.1, x.2.2.1)) x)

def t2_74 (N : Nat) (self : z7) : z9s (Int × (Int × Unit)) := [([0, 0, 0, 0, 1, 1], z175 N self)]

theorem z14z {N : Nat} {self : z7} {c : Ctx} (hb : Base Tryd.prog (z13v N self) c) (hP : PnOk Tryd.prog glob (z29 N self)) : z1s Tryd.prog c (zd zfo [0, 0, 1, 1]) (z17c N self) :=
  zij (s := SQ4) (m := 41) (z19a N self) [0, 3, 2] N (fun x => x.2.1) (fun x => (x.1, x.2.2.1)) (fun i v => (v.1, i, v.2, ())) (fun _ => rfl) (z1g hb hP N (t2_74 N self) z1b9 zfo (TabOkP.cons (z14s hb hP) TabOkP.nil) [0, 0, 0, 1, 1] _ rfl) (fun i v r K => by kernel_rfl)

def z5k (N : Nat) (self : z7) (p : DT5) (x2 : DT1) (parts : (List DT1)) (k0 : (Int × (Int × Unit)) -> Option (Int × (Int × Unit))) (k1 : DT5 -> (List DT1) -> Option (Int × (Int × Unit))) : Option (Int × (Int × Unit)) :=
 z8j N self p x2 parts
 (fun p1 => k0 p1)
 (fun p2 zg5 => k1 p2 zg5)

def z19p (N : Nat) (self : z7) (x : z1p SQ4) (K : ExP -> List A -> Option (Int × (Int × Unit))) : Option (Int × (Int × Unit)) :=
 z5k N self x.1 x.2.1 x.2.2.1 (fun a0 => (K (.pan 36) (mkS [(0, .v TT6)] 0 (a0, ())))) (fun a0 a2 => (K .normal (mkS SQ4 41 (a0, x.2.1, a2, ()))))

def z17r (N : Nat) (self : z7) : HdP (Int × (Int × Unit)) := fun st K => (unS SQ4 41 (restr [0, 3, 2] 0 st)).bind fun x => z19p N self x K

def t1_74 (N : Nat) (self : z7) : z9s (Int × (Int × Unit)) := [([0, 0, 1, 1], z17c N self)]

theorem z15e {N : Nat} {self : z7} {c : Ctx} (hb : Base Tryd.prog (z13v N self) c) (hP : PnOk Tryd.prog glob (z29 N self)) : z1s Tryd.prog c (zd zfo [0, 1, 1]) (z17r N self) :=
  z1x (s := SQ4) (m := 41) (g := z19p N self) [0, 3, 2] (z1g hb hP N (t1_74 N self) z1b9 zfo (TabOkP.cons (z14z hb hP) TabOkP.nil) [0, 1, 1] _ rfl) (fun x K => by kernel_rfl)

def z31 (N : Nat) (self : z7) (p : DT5) : Option (Int × (Int × Unit)) :=
 z5k N self p ((0 : Int), (([(0 : Int), (0 : Int), (0 : Int), (0 : Int)] : List Int), (([] : List Tree), ((0 : Int), ((0 : Int), ()))))) ([] : List DT7)
 (fun p1 => some p1)
 (fun p2 parts => (z6m N (2 : Int) (List.map foN parts)).bind fun y =>
 none)

def t_74 (N : Nat) (self : z7) : z9s (Int × (Int × Unit)) := [([0, 1, 1], z17r N self)]

theorem z11a (N : Nat) (self : z7) (x : z1p [(0, .box TT4)]) : zds (z13v N self) (z29 N self) N (t_74 N self) z1b9 Tryd.f25 36 TT6 (mkS [(0, .box TT4)] 0 x) (fun z => some z) = z31 N self x.1 := by kernel_rfl

def z8b (N : Nat) (self : z7) : List A -> PnRes := zdr [(0, .box TT4)] (fun x => z31 N self x.1) (fun z => ⟨TT6, z⟩)

theorem zce (N : Nat) (self : z7) (hself : ContractP Tryd.prog glob 19 36 (zdr [(0, .box TT4)] (fun x => self x.1) (fun z => ⟨TT6, z⟩))) : ContractP Tryd.prog glob 25 36 (z8b N self) :=
  ContractP.of (E := z13v N self) (Pn := z29 N self) (H := t_74 N self) (L := z1b9) (N := N) (body := zfo) (t := TT6) (z1bf N self) (z8c N self hself) Tryd.func25 (by kernel_rfl) (by decide) (fun _ hb => (TabOkP.cons (z15e hb (z8c N self hself)) TabOkP.nil)) (fun x y h => by rw [z11a]; exact h)

def zmy : Code := (Tryd.f19.body).getD .skip

def L_75 : List (List Nat × List Nat) := [([0], [0, 2]), ([0, 1], [0, 3, 2]), ([0, 0, 1, 1], [0, 3, 2]), ([0, 0, 0, 0, 0, 1, 1], [8, 3, 0, 2]), ([1, 0, 0, 0, 0, 1, 1], [3, 0, 2]), (zyo, [3, 2, 0]), ([0, 1, 0, 0, 0, 1, 1], [0, 3, 2]), ([1, 0, 0, 0, 1, 1], [0, 3, 2]), ([0, 1, 1], [3, 2, 0]), ([0, 1, 1, 1], [2, 0]), ([1, 1, 1, 1], [2, 0])]

def E_75 (N : Nat) (self : DT5 -> Option (Int × (Int × Unit))) : Env := z3w tys glob [(25, z7b N (ze N)), (26, z1c N), (27, z7m N)] [(3, TT0)] [] [0] false [] []

theorem z1be (N : Nat) (self : DT5 -> Option (Int × (Int × Unit))) : EnvOk Tryd.prog (E_75 N self) := zn mixed z1v (FnsOk.cons (zag N (ze N) (z2j N)) (FnsOk.cons (z1q N) (FnsOk.cons (z9v N) (FnsOk.nil)))) (ItsOk.nil)

def z49 (N : Nat) (self : DT5 -> Option (Int × (Int × Unit))) : PnT := pnT [(25, 36, z8b N self), (19, 36, zdr [(0, .box TT4)] (fun x => self x.1) (fun z => ⟨TT6, z⟩))]

theorem z8f (N : Nat) (self : DT5 -> Option (Int × (Int × Unit))) (hself : ContractP Tryd.prog glob 19 36 (zdr [(0, .box TT4)] (fun x => self x.1) (fun z => ⟨TT6, z⟩))) : PnOk Tryd.prog glob (z49 N self) := PnOk.cons (zce N self hself) (PnOk.cons (hself) (PnOk.nil))

def z3v (N : Nat) (self : DT5 -> Option (Int × (Int × Unit))) (x2 : DT1) (p : DT5) (parts : (List DT1)) (rec : DT5 -> (List DT1) -> Option (Int × (Int × Unit))) (k0 : (Int × (Int × Unit)) -> Option (Int × (Int × Unit))) (k1 : DT5 -> (List DT1) -> Option (Int × (Int × Unit))) : Option (Int × (Int × Unit)) :=
 (zp N p (124 : Int)).bind fun y =>
 cond y.1
 (orP ((z31 N self y.2.1)) (fun z => k0 z)
 ((z35 N (ze N) y.2.1).bind fun y1 =>
 cond (decide ((((List.length parts) + 1) * 80) <= 70368744177664))
 (rec y1.2.1 (parts ++ ([y1.1] : List DT7)))
 (none)))
 (k1 y.2.1 parts)

def z8k (N : Nat) (self : DT5 -> Option (Int × (Int × Unit))) (p : DT5) (x2 : DT1) (parts : (List DT1)) (k0 : (Int × (Int × Unit)) -> Option (Int × (Int × Unit))) (k1 : DT5 -> (List DT1) -> Option (Int × (Int × Unit))) : Option (Int × (Int × Unit)) :=
 iter (fun (v : (DT5 × (List DT1))) r => z3v N self x2 v.1 v.2 (fun p parts => (r (p, parts))) k0 k1) N (p, parts)

def z19o (N : Nat) (self : DT5 -> Option (Int × (Int × Unit))) (i : DT1) (v : (DT5 × (List DT1))) (r : (DT5 × (List DT1)) -> Option (Int × (Int × Unit))) (K : ExP -> List A -> Option (Int × (Int × Unit))) : Option (Int × (Int × Unit)) :=
 z3v N self i v.1 v.2 (fun p parts => (r (p, parts))) (fun a0 => (K (.pan 36) (mkS [(0, .v TT6)] 0 (a0, ())))) (fun a0 a2 => (K (.exit 0) (mkS SQ4 12 (a0, i, a2, ()))))

def z17q (N : Nat) (self : DT5 -> Option (Int × (Int × Unit))) : HdP (Int × (Int × Unit)) := fun st K => (unS SQ4 12 (restr [0, 3, 2] 0 st)).bind fun x => iter (fun v r => z19o N self ((fun x => x.2.1) x) v r K) N ((fun x => (x.1, x.2.2.1)) x)

def t1_75 (N : Nat) (self : DT5 -> Option (Int × (Int × Unit))) : z9s (Int × (Int × Unit)) := []

theorem z15d {N : Nat} {self : DT5 -> Option (Int × (Int × Unit))} {c : Ctx} (hb : Base Tryd.prog (E_75 N self) c) (hP : PnOk Tryd.prog glob (z49 N self)) : z1s Tryd.prog c (zd zmy [0, 0, 1, 1]) (z17q N self) :=
  zij (s := SQ4) (m := 12) (z19o N self) [0, 3, 2] N (fun x => x.2.1) (fun x => (x.1, x.2.2.1)) (fun i v => (v.1, i, v.2, ())) (fun _ => rfl) (z1g hb hP N (t1_75 N self) L_75 zmy TabOkP.nil [0, 0, 0, 1, 1] _ rfl) (fun i v r K => by kernel_rfl)

def z4a (N : Nat) (self : DT5 -> Option (Int × (Int × Unit))) (p : DT5) : Option (Int × (Int × Unit)) :=
 orP ((z31 N self p)) (fun z => some z)
 ((z35 N (ze N) p).bind fun y =>
 z8k N self y.2.1 ((0 : Int), (([(0 : Int), (0 : Int), (0 : Int), (0 : Int)] : List Int), (([] : List Tree), ((0 : Int), ((0 : Int), ()))))) ([y.1] : List DT7)
 (fun p1 => some p1)
 (fun p2 parts => (z6m N (3 : Int) (List.map foN parts)).bind fun y1 =>
 none))

def t_75 (N : Nat) (self : DT5 -> Option (Int × (Int × Unit))) : z9s (Int × (Int × Unit)) := [([0, 0, 1, 1], z17q N self)]

theorem z119 (N : Nat) (self : DT5 -> Option (Int × (Int × Unit))) (x : z1p [(0, .box TT4)]) : zds (E_75 N self) (z49 N self) N (t_75 N self) L_75 Tryd.f19 36 TT6 (mkS [(0, .box TT4)] 0 x) (fun z => some z) = z4a N self x.1 := by kernel_rfl

def zm : Nat -> DT5 -> Option (Int × (Int × Unit))
  | 0 => fun _ => none
  | N + 1 => z4a (N + 1) (zm N)

def zbt (N : Nat) : List A -> PnRes := zdr [(0, .box TT4)] (fun x => zm N x.1) (fun z => ⟨TT6, z⟩)

theorem z5n : ∀ N : Nat, ContractP Tryd.prog glob 19 36 (zbt N)
  | 0 => ContractP.zero Tryd.func19 (body := zmy) (by kernel_rfl) (by decide) (fun _ => rfl)
  | N + 1 => ContractP.of (E := E_75 (N + 1) (zm N)) (Pn := z49 (N + 1) (zm N)) (H := t_75 (N + 1) (zm N)) (L := L_75) (N := (N + 1)) (body := zmy) (t := TT6) (z1be (N + 1) (zm N)) (z8f (N + 1) (zm N) (z5n N)) Tryd.func19 (by kernel_rfl) (by decide) (fun _ hb => (TabOkP.cons (z15d hb (z8f (N + 1) (zm N) (z5n N))) TabOkP.nil)) (fun x y h => by rw [z119]; exact h)

end
end Go.Proofs.YtbfmhambfonpcaaDoorLg

set_option linter.all false
set_option maxRecDepth 100000
namespace Go.Proofs.YtbfmhambfonpcaaDoorLg
noncomputable section
open Go Go.Lift

def Cl (w : World) (n : Nat) (cs : List Value) : Prop := ∀ i v, cs[i]? = some v -> w.cell? ⟨n, i, none⟩ = some v /\ w.frozen? ⟨n, i, none⟩ = false

def PsW (w0 : World) (S0 S : Hp) (W : World) : Prop := WF w0 (fun _ => False) W /\ Lift.Sub S0 S /\ Lift.Sub S (hp W) /\ ∀ k, S k ≠ none -> S0 k ≠ none \/ w0.heap.size <= k

theorem PsW.drew {w0 W : World} {S0 S : Hp} (h : PsW w0 S0 S W) : PsW w0 S0 S W.drew := by
  obtain ⟨h1, h2, h3, h4⟩ := h
  exact ⟨⟨h1.size, h1.same, h1.tape, h1.os, h1.output⟩, h2, h3, h4⟩

theorem PsW.alloc {w0 W : World} {S0 S : Hp} (h : PsW w0 S0 S W) (cs : Array Value) (E : Nat) : PsW w0 S0 S (W.alloc (.cells cs E)) := by
  obtain ⟨h1, h2, h3, h4⟩ := h
  have hh : (W.alloc (.cells cs E)).heap = W.heap.push (.cells cs E (0, 0)) := rfl
  have hk : ∀ k, k < W.heap.size -> (W.alloc (.cells cs E)).heap[k]? = W.heap[k]? := fun k hk => by
    rw [hh, Array.getElem?_push, if_neg (by omega)]
  refine ⟨⟨by rw [hh, Array.size_push]; have := h1.size; omega, fun k h1' h2' => by rw [hk k (by have := h1.size; omega)]; exact h1.same k h1' h2', h1.tape, h1.os, h1.output⟩, h2, fun k q ho => ?_, h4⟩
  have := h3 k q ho
  simp only [hp] at this ⊢
  rw [hk k (Array.getElem?_eq_some_iff.1 this).1]
  exact this

theorem zdz {W : World} {p i : Nat} {v : Value} {k : Nat} (hk : k ≠ p) : (W.setCell ⟨p, i, none⟩ v).heap[k]? = W.heap[k]? := by
  unfold World.setCell
  split <;> simp [Array.getElem?_modify, Ne.symm hk]

theorem PsW.setCell {w0 W : World} {S0 S : Hp} {p i : Nat} {v : Value} (h : PsW w0 S0 S W) (hp' : w0.heap.size <= p) (hS : S p = none) : PsW w0 S0 S (W.setCell ⟨p, i, none⟩ v) := by
  obtain ⟨h1, h2, h3, h4⟩ := h
  have hsz : (W.setCell ⟨p, i, none⟩ v).heap.size = W.heap.size := by
    unfold World.setCell
    split <;> simp
  have ht : (W.setCell ⟨p, i, none⟩ v).tape = W.tape /\ (W.setCell ⟨p, i, none⟩ v).os = W.os /\ (W.setCell ⟨p, i, none⟩ v).output = W.output := by
    unfold World.setCell
    split
    . exact ⟨rfl, rfl, rfl⟩
    . exact ⟨rfl, rfl, rfl⟩
  refine ⟨⟨by rw [hsz]; exact h1.size, fun k h1' h2' => by rw [zdz (by omega)]; exact h1.same k h1' h2', by rw [ht.1]; exact h1.tape, by rw [ht.2.1]; exact h1.os, by rw [ht.2.2]; exact h1.output⟩, h2, fun k q ho => ?_, h4⟩
  have hk : k ≠ p := fun e => by rw [e, hS] at ho; cases ho
  have := h3 k q ho
  simp only [hp] at this ⊢
  rw [zdz hk]
  exact this

theorem z5b {w : World} {n : Nat} {cs : List Value} (h : Cl w n cs) (i : Nat) (v : Value) : Cl (w.setCell ⟨n, i, none⟩ v) n (cs.set i v) := by
  intro j u hj
  rw [List.getElem?_set] at hj
  by_cases e : i = j
  . subst e
    rw [if_pos rfl] at hj
    split at hj
    . rename_i hl
      cases hj
      obtain ⟨h1, h2⟩ := h i _ (List.getElem?_eq_getElem hl)
      constructor <;> simp [go_sem, h1, h2]
    . cases hj
  . rw [if_neg e] at hj
    obtain ⟨h1, h2⟩ := h j _ hj
    have e' : j ≠ i := fun h => e h.symm
    constructor <;> simp [go_sem, h1, h2, e, e']

theorem z1j {w : World} {n m : Nat} {cs : List Value} (h : Cl w n cs) (hne : m ≠ n) (i : Nat) (v : Value) : Cl (w.setCell ⟨m, i, none⟩ v) n cs := by
  intro j u hj
  obtain ⟨h1, h2⟩ := h j _ hj
  have e' : n ≠ m := fun h => hne h.symm
  constructor <;> simp [go_sem, h1, h2, hne, e']

theorem zel {w : World} {n : Nat} {c : Value} {cs : List Value} (h : Cl w n (c :: cs)) (o : Obj) : Cl (w.alloc o) n (c :: cs) := by
  have hlt : n < w.heap.size := by
    have h0 := (h 0 c rfl).1
    rcases Nat.lt_or_ge n w.heap.size with h1 | h1
    . exact h1
    . simp [World.cell?, Array.getElem?_eq_none h1] at h0
  intro i v hi
  obtain ⟨h1, h2⟩ := h i v hi
  exact ⟨by rw [World.cell?_alloc_past _ _ _ hlt]; exact h1, by rw [World.frozen?_alloc_past _ _ _ hlt]; exact h2⟩

theorem zos {w : World} {n : Nat} {c : Value} {cs : List Value} (h : Cl w n (c :: cs)) : n < w.heap.size := by
  have h0 := (h 0 c rfl).1
  rcases Nat.lt_or_ge n w.heap.size with h1 | h1
  . exact h1
  . simp [World.cell?, Array.getElem?_eq_none h1] at h0

theorem ps_idle {w : World} {n0 n1 : Nat} :
    CallsD Go.Proofs.Tryd.prog 18 #[.pointer (some ⟨n0, 0, none⟩), .pointer (some ⟨n1, 0, none⟩)] .returning w fun e u w' => (∃ v, e = .returned v) /\ u = .returning /\ w' = w.alloc (Obj.cells #[Value.int IntKind.i64 0, Value.int IntKind.i64 0] 36) := by
  refine callsD_of_wpS Go.Proofs.Tryd.func18 rfl fun c₀ cs hu => ?_
  have ha : ∀ W : World, (Instr.typeAssert .nilIface 20 36 true).run Go.Proofs.Tryd.prog W = .ok (.tuple #[.agg #[.int .i64 0, .int .i64 0], .bool false]) W := fun W => by kernel_rfl
  apply wpS_seq
  apply wpS_region
  simp only [Go.Proofs.Tryd.ntmps18, List.size_toArray, List.length_cons, List.length_nil, Nat.reduceAdd, Nat.reduceSub, Array.replicate_succ,
     Array.replicate_zero, List.push_toArray, List.append_toArray, List.nil_append, List.cons_append]
  simp [wpOpsS, go_sem, recoverD, hu, Exit.thenS, ha, List.range_succ]
  refine wpS_of_wp ?_
  go_wp2
  cases c₀
  simp_all [bodyPostS, results, Go.Proofs.Tryd.results18]

set_option maxHeartbeats 16000000 in
theorem zno {w : World} {n0 n1 : Nat} {e a : Int} {y0 y1 : Value} {c0 c1 c2 c3 c4 c5 c6 c7 : Value} {R : World -> Prop} (h0 : Cl (w.alloc (Obj.cells #[Value.int IntKind.i64 e, Value.int IntKind.i64 a] 36)) n0 [c0, c1, c2, c3, c4, c5, c6, c7]) (h1 : Cl (w.alloc (Obj.cells #[Value.int IntKind.i64 e, Value.int IntKind.i64 a] 36)) n1 [y0, y1]) (hne : n0 ≠ n1) (hn2 : n0 ≠ w.heap.size) (hn3 : n1 ≠ w.heap.size)
    (hR : ∀ w', Cl w' n0 [.int .i64 0, .int .u64 0, .int .u64 0, .int .u64 0, .int .u64 0, .slice none 0 0, .int .i64 0, .int .i64 0] -> Cl w' n1 [.int .i64 e, .int .i64 a] →
      (∀ (w0 : World) (S0 S : Hp), PsW w0 S0 S w -> w0.heap.size <= n0 -> w0.heap.size <= n1 -> S n0 = none -> S n1 = none -> PsW w0 S0 S w') -> R w') :
    CallsD Go.Proofs.Tryd.prog 18 #[.pointer (some ⟨n0, 0, none⟩), .pointer (some ⟨n1, 0, none⟩)] (.panicking [{ v := .iface 36 (.agg #[.int .i64 e, .int .i64 a]), recovered := false }]) w fun r u w' => (∃ v, r = .returned v) /\ u = .panicking [{ v := .iface 36 (.agg #[.int .i64 e, .int .i64 a]), recovered := true }] /\ R w' := by
  refine callsD_of_wpS Go.Proofs.Tryd.func18 rfl fun c₀ cs hu => ?_
  have ha : ∀ W : World, (Instr.typeAssert (.iface 36 (.agg #[.int .i64 e, .int .i64 a])) 20 36 true).run Go.Proofs.Tryd.prog W = .ok (.tuple #[.agg #[.int .i64 e, .int .i64 a], .bool true]) W := fun W => by kernel_rfl
  have c00 : (w.alloc (Obj.cells #[Value.int IntKind.i64 e, Value.int IntKind.i64 a] 36)).cell? ⟨n0, 0, none⟩ = some (c0) := (h0 0 _ rfl).1
  have z00 : (w.alloc (Obj.cells #[Value.int IntKind.i64 e, Value.int IntKind.i64 a] 36)).frozen? ⟨n0, 0, none⟩ = false := (h0 0 _ rfl).2
  have c01 : (w.alloc (Obj.cells #[Value.int IntKind.i64 e, Value.int IntKind.i64 a] 36)).cell? ⟨n0, 1, none⟩ = some (c1) := (h0 1 _ rfl).1
  have z01 : (w.alloc (Obj.cells #[Value.int IntKind.i64 e, Value.int IntKind.i64 a] 36)).frozen? ⟨n0, 1, none⟩ = false := (h0 1 _ rfl).2
  have c02 : (w.alloc (Obj.cells #[Value.int IntKind.i64 e, Value.int IntKind.i64 a] 36)).cell? ⟨n0, 2, none⟩ = some (c2) := (h0 2 _ rfl).1
  have z02 : (w.alloc (Obj.cells #[Value.int IntKind.i64 e, Value.int IntKind.i64 a] 36)).frozen? ⟨n0, 2, none⟩ = false := (h0 2 _ rfl).2
  have c03 : (w.alloc (Obj.cells #[Value.int IntKind.i64 e, Value.int IntKind.i64 a] 36)).cell? ⟨n0, 3, none⟩ = some (c3) := (h0 3 _ rfl).1
  have z03 : (w.alloc (Obj.cells #[Value.int IntKind.i64 e, Value.int IntKind.i64 a] 36)).frozen? ⟨n0, 3, none⟩ = false := (h0 3 _ rfl).2
  have c04 : (w.alloc (Obj.cells #[Value.int IntKind.i64 e, Value.int IntKind.i64 a] 36)).cell? ⟨n0, 4, none⟩ = some (c4) := (h0 4 _ rfl).1
  have z04 : (w.alloc (Obj.cells #[Value.int IntKind.i64 e, Value.int IntKind.i64 a] 36)).frozen? ⟨n0, 4, none⟩ = false := (h0 4 _ rfl).2
  have c05 : (w.alloc (Obj.cells #[Value.int IntKind.i64 e, Value.int IntKind.i64 a] 36)).cell? ⟨n0, 5, none⟩ = some (c5) := (h0 5 _ rfl).1
  have z05 : (w.alloc (Obj.cells #[Value.int IntKind.i64 e, Value.int IntKind.i64 a] 36)).frozen? ⟨n0, 5, none⟩ = false := (h0 5 _ rfl).2
  have c06 : (w.alloc (Obj.cells #[Value.int IntKind.i64 e, Value.int IntKind.i64 a] 36)).cell? ⟨n0, 6, none⟩ = some (c6) := (h0 6 _ rfl).1
  have z06 : (w.alloc (Obj.cells #[Value.int IntKind.i64 e, Value.int IntKind.i64 a] 36)).frozen? ⟨n0, 6, none⟩ = false := (h0 6 _ rfl).2
  have c07 : (w.alloc (Obj.cells #[Value.int IntKind.i64 e, Value.int IntKind.i64 a] 36)).cell? ⟨n0, 7, none⟩ = some (c7) := (h0 7 _ rfl).1
  have z07 : (w.alloc (Obj.cells #[Value.int IntKind.i64 e, Value.int IntKind.i64 a] 36)).frozen? ⟨n0, 7, none⟩ = false := (h0 7 _ rfl).2
  have c10 : (w.alloc (Obj.cells #[Value.int IntKind.i64 e, Value.int IntKind.i64 a] 36)).cell? ⟨n1, 0, none⟩ = some (y0) := (h1 0 _ rfl).1
  have z10 : (w.alloc (Obj.cells #[Value.int IntKind.i64 e, Value.int IntKind.i64 a] 36)).frozen? ⟨n1, 0, none⟩ = false := (h1 0 _ rfl).2
  have c11 : (w.alloc (Obj.cells #[Value.int IntKind.i64 e, Value.int IntKind.i64 a] 36)).cell? ⟨n1, 1, none⟩ = some (y1) := (h1 1 _ rfl).1
  have z11 : (w.alloc (Obj.cells #[Value.int IntKind.i64 e, Value.int IntKind.i64 a] 36)).frozen? ⟨n1, 1, none⟩ = false := (h1 1 _ rfl).2
  apply wpS_seq
  apply wpS_region
  simp only [Go.Proofs.Tryd.ntmps18, List.size_toArray, List.length_cons, List.length_nil, Nat.reduceAdd, Nat.reduceSub, Array.replicate_succ,
     Array.replicate_zero, List.push_toArray, List.append_toArray, List.nil_append, List.cons_append]
  simp [wpOpsS, go_sem, recoverD, hu, Exit.thenS, ha, List.range_succ]
  refine wpS_of_wp ?_
  go_wp2
  go_region
  have hfin : R ((((((((((((w.alloc (Obj.cells #[Value.int IntKind.i64 e, Value.int IntKind.i64 a] 36)).setCell { block := n0, off := 0 } (.int .i64 0)).setCell { block := n0, off := 1 } (.int .u64 0)).setCell { block := n0, off := 2 } (.int .u64 0)).setCell { block := n0, off := 3 } (.int .u64 0)).setCell { block := n0, off := 4 } (.int .u64 0)).setCell { block := n0, off := 5 } (.slice none 0 0)).setCell { block := n0, off := 6 } (.int .i64 0)).setCell { block := n0, off := 7 } (.int .i64 0)).setCell { block := n1, off := 0 } (.int .i64 e)).setCell { block := n1, off := 1 } (.int .i64 a)).drew) := by
    refine hR _ ?_ ?_ ?_
    . intro i v hi
      rcases i with _ | _ | _ | _ | _ | _ | _ | _ | i
      case succ.succ.succ.succ.succ.succ.succ.succ => simp at hi
      all_goals (simp only [List.getElem?_cons_zero, List.getElem?_cons_succ, Option.some.injEq] at hi; subst hi; constructor <;> simp [go_sem, *])
    . intro i v hi
      rcases i with _ | _ | i
      case succ.succ => simp at hi
      all_goals (simp only [List.getElem?_cons_zero, List.getElem?_cons_succ, Option.some.injEq] at hi; subst hi; constructor <;> simp [go_sem, *])
    . intro w0 S0 S hw hl0 hl1 hS0 hS1
      exact (((((((((((hw.alloc _ _).setCell hl0 hS0).setCell hl0 hS0).setCell hl0 hS0).setCell hl0 hS0).setCell hl0 hS0).setCell hl0 hS0).setCell hl0 hS0).setCell hl0 hS0).setCell hl1 hS1).setCell hl1 hS1).drew
  change bodyPostS Go.Proofs.Tryd.prog Go.Proofs.Tryd.f18 c₀ cs _ _ _ _ _
  clear hR h0 h1 c00 z00 c01 z01 c02 z02 c03 z03 c04 z04 c05 z05 c06 z06 c07 z07 c10 z10 c11 z11
  cases c₀
  simp_all [bodyPostS, results, Go.Proofs.Tryd.results18]


theorem z10u {w : World} {s : List UInt8} {S : Hp} (hS : Lift.Sub S (hp w)) (hlen : (256 : Int) < s.length) :
    Calls Go.Proofs.Tryd.prog 14 #[.string ⟨⟨s⟩⟩] w fun r w' => r = .returned (.tuple #[.agg #[Value.int IntKind.i64 0, Value.int IntKind.u64 0, Value.int IntKind.u64 0, Value.int IntKind.u64 0, Value.int IntKind.u64 0, Value.slice none 0 0, Value.int IntKind.i64 0, Value.int IntKind.i64 0], .agg #[.int .i64 3, .int .i64 256]]) /\ PsW w S S w' := by
  have h0 : PsW w S S w := ⟨WF.refl _ _, Lift.Sub.refl _, hS, fun k hk => .inl hk⟩
  have hn0 : S w.heap.size = none := by
    cases hx : S w.heap.size with
    | none => rfl
    | some o => exact absurd (z7p (hS _ _ hx)) (Nat.lt_irrefl _)
  have hn1 : S (w.heap.size + 1) = none := by
    cases hx : S (w.heap.size + 1) with
    | none => rfl
    | some o => exact absurd (z7p (hS _ _ hx)) (by omega)
  go_enter Go.Proofs.Tryd.func14, Go.Proofs.Tryd.ntmps14
  go_wp2
  simp [bodyPost, results, Go.Proofs.Tryd.results14, go_sem]
  exact (h0.alloc _ _).alloc _ _

set_option maxHeartbeats 16000000 in
theorem ps_ok {w : World} {s : List UInt8} {S : Hp} {at_ : Int} {F : Hp -> Value -> Prop} (hlen : ¬ (256 : Int) < s.length)
    (hc : Calls Go.Proofs.Tryd.prog 19 #[.pointer (some ⟨w.heap.size + 1 + 1, 0, none⟩)] (((w.alloc (Obj.cells #[Value.int IntKind.i64 0, Value.int IntKind.u64 0, Value.int IntKind.u64 0, Value.int IntKind.u64 0, Value.int IntKind.u64 0, Value.slice none 0 0, Value.int IntKind.i64 0, Value.int IntKind.i64 0] 27)).alloc (Obj.cells #[Value.int IntKind.i64 0, Value.int IntKind.i64 0] 36)).alloc (Obj.cells #[Value.string ⟨⟨s⟩⟩, Value.int IntKind.i64 0, Value.int IntKind.i64 0] 45)) fun r w2 => ∃ (k a0 a1 a2 a3 lo hi : Int) (sp : Option Addr) (sn sc : Nat) (S' : Hp), r = .returned (.agg #[.int .i64 k, .int .u64 a0, .int .u64 a1, .int .u64 a2, .int .u64 a3, .slice sp sn sc, .int .i64 lo, .int .i64 hi]) /\ Cl w2 (w.heap.size) [.int .i64 0, .int .u64 0, .int .u64 0, .int .u64 0, .int .u64 0, .slice none 0 0, .int .i64 0, .int .i64 0] /\ Cl w2 (w.heap.size + 1) [.int .i64 0, .int .i64 0] /\ w2.cell? ⟨w.heap.size + 1 + 1, 1, none⟩ = some (.int .i64 at_) /\ S' (w.heap.size) = none /\ S' (w.heap.size + 1) = none /\ PsW w S S' w2 /\ F S' (.agg #[.int .i64 k, .int .u64 a0, .int .u64 a1, .int .u64 a2, .int .u64 a3, .slice sp sn sc, .int .i64 lo, .int .i64 hi]))
    (hat : ¬ at_ < s.length) :
    Calls Go.Proofs.Tryd.prog 14 #[.string ⟨⟨s⟩⟩] w fun r w' => ∃ v S', r = .returned (.tuple #[v, .agg #[.int .i64 0, .int .i64 0]]) /\ F S' v /\ PsW w S S' w' := by
  have hmf : ∀ (fn : Fn) (first cap : Array Value) (w : World), (Instr.makeFunc fn first cap).run Go.Proofs.Tryd.prog w = .ok (.func fn first cap) w := fun _ _ _ _ => rfl
  have p1 : w.heap.size + 1 + 1 ≠ w.heap.size := by omega
  have p2 : w.heap.size + 1 ≠ w.heap.size := by omega
  go_enter_defers Go.Proofs.Tryd.func14, Go.Proofs.Tryd.ntmps14
  go_wp2_with (first
    | (go_at_call 19; refine hc.mono ?_; rintro r w2 ⟨k, a0, a1, a2, a3, lo, hi, sp, sn, sc, S', rfl, hC0, hC1, hat2, hs0, hs1, hP, hFF⟩; have c00 := (hC0 0 _ rfl).1; have z00 := (hC0 0 _ rfl).2; have c01 := (hC0 1 _ rfl).1; have z01 := (hC0 1 _ rfl).2; have c02 := (hC0 2 _ rfl).1; have z02 := (hC0 2 _ rfl).2; have c03 := (hC0 3 _ rfl).1; have z03 := (hC0 3 _ rfl).2; have c04 := (hC0 4 _ rfl).1; have z04 := (hC0 4 _ rfl).2; have c05 := (hC0 5 _ rfl).1; have z05 := (hC0 5 _ rfl).2; have c06 := (hC0 6 _ rfl).1; have z06 := (hC0 6 _ rfl).2; have c07 := (hC0 7 _ rfl).1; have z07 := (hC0 7 _ rfl).2; have c10 := (hC1 0 _ rfl).1; have z10 := (hC1 0 _ rfl).2; have c11 := (hC1 1 _ rfl).1; have z11 := (hC1 1 _ rfl).2; have hl0 : w.heap.size < w2.heap.size := zos hC0; have hl1 : w.heap.size + 1 < w2.heap.size := zos hC1; have H0 := Go.Lib.hid hC0; have H1 := Go.Lib.hid hC1; have HP := Go.Lib.hid hP; have HF := Go.Lib.hid hFF; clear hc hC0 hC1 hP hFF))
  have k0 : Cl (((((((((((((((((((w2).setCell { block := w.heap.size, off := 0 } (Value.int IntKind.i64 k)).setCell { block := w.heap.size, off := 1 } (Value.int IntKind.u64 a0)).setCell { block := w.heap.size, off := 2 } (Value.int IntKind.u64 a1)).setCell { block := w.heap.size, off := 3 } (Value.int IntKind.u64 a2)).setCell { block := w.heap.size, off := 4 } (Value.int IntKind.u64 a3)).setCell { block := w.heap.size, off := 5 } (Value.slice sp sn sc)).setCell { block := w.heap.size, off := 6 } (Value.int IntKind.i64 lo)).setCell { block := w.heap.size, off := 7 } (Value.int IntKind.i64 hi)).setCell { block := w.heap.size, off := 0 } (Value.int IntKind.i64 k)).setCell { block := w.heap.size, off := 1 } (Value.int IntKind.u64 a0)).setCell { block := w.heap.size, off := 2 } (Value.int IntKind.u64 a1)).setCell { block := w.heap.size, off := 3 } (Value.int IntKind.u64 a2)).setCell { block := w.heap.size, off := 4 } (Value.int IntKind.u64 a3)).setCell { block := w.heap.size, off := 5 } (Value.slice sp sn sc)).setCell { block := w.heap.size, off := 6 } (Value.int IntKind.i64 lo)).setCell { block := w.heap.size, off := 7 } (Value.int IntKind.i64 hi)).setCell { block := w.heap.size + 1, off := 0 } (Value.int IntKind.i64 0)).setCell { block := w.heap.size + 1, off := 1 } (Value.int IntKind.i64 0)) (w.heap.size) [.int .i64 k, .int .u64 a0, .int .u64 a1, .int .u64 a2, .int .u64 a3, .slice sp sn sc, .int .i64 lo, .int .i64 hi] := (z1j (z1j (z5b (z5b (z5b (z5b (z5b (z5b (z5b (z5b (z5b (z5b (z5b (z5b (z5b (z5b (z5b (z5b H0.out 0 _) 1 _) 2 _) 3 _) 4 _) 5 _) 6 _) 7 _) 0 _) 1 _) 2 _) 3 _) 4 _) 5 _) 6 _) 7 _) p2 0 _) p2 1 _)
  have k1 : Cl (((((((((((((((((((w2).setCell { block := w.heap.size, off := 0 } (Value.int IntKind.i64 k)).setCell { block := w.heap.size, off := 1 } (Value.int IntKind.u64 a0)).setCell { block := w.heap.size, off := 2 } (Value.int IntKind.u64 a1)).setCell { block := w.heap.size, off := 3 } (Value.int IntKind.u64 a2)).setCell { block := w.heap.size, off := 4 } (Value.int IntKind.u64 a3)).setCell { block := w.heap.size, off := 5 } (Value.slice sp sn sc)).setCell { block := w.heap.size, off := 6 } (Value.int IntKind.i64 lo)).setCell { block := w.heap.size, off := 7 } (Value.int IntKind.i64 hi)).setCell { block := w.heap.size, off := 0 } (Value.int IntKind.i64 k)).setCell { block := w.heap.size, off := 1 } (Value.int IntKind.u64 a0)).setCell { block := w.heap.size, off := 2 } (Value.int IntKind.u64 a1)).setCell { block := w.heap.size, off := 3 } (Value.int IntKind.u64 a2)).setCell { block := w.heap.size, off := 4 } (Value.int IntKind.u64 a3)).setCell { block := w.heap.size, off := 5 } (Value.slice sp sn sc)).setCell { block := w.heap.size, off := 6 } (Value.int IntKind.i64 lo)).setCell { block := w.heap.size, off := 7 } (Value.int IntKind.i64 hi)).setCell { block := w.heap.size + 1, off := 0 } (Value.int IntKind.i64 0)).setCell { block := w.heap.size + 1, off := 1 } (Value.int IntKind.i64 0)) (w.heap.size + 1) [.int .i64 0, .int .i64 0] := (z5b (z5b (z1j (z1j (z1j (z1j (z1j (z1j (z1j (z1j (z1j (z1j (z1j (z1j (z1j (z1j (z1j (z1j H1.out p2.symm 0 _) p2.symm 1 _) p2.symm 2 _) p2.symm 3 _) p2.symm 4 _) p2.symm 5 _) p2.symm 6 _) p2.symm 7 _) p2.symm 0 _) p2.symm 1 _) p2.symm 2 _) p2.symm 3 _) p2.symm 4 _) p2.symm 5 _) p2.symm 6 _) p2.symm 7 _) 0 _) 1 _)
  have k2 : PsW w S S' (((((((((((((((((((w2).setCell { block := w.heap.size, off := 0 } (Value.int IntKind.i64 k)).setCell { block := w.heap.size, off := 1 } (Value.int IntKind.u64 a0)).setCell { block := w.heap.size, off := 2 } (Value.int IntKind.u64 a1)).setCell { block := w.heap.size, off := 3 } (Value.int IntKind.u64 a2)).setCell { block := w.heap.size, off := 4 } (Value.int IntKind.u64 a3)).setCell { block := w.heap.size, off := 5 } (Value.slice sp sn sc)).setCell { block := w.heap.size, off := 6 } (Value.int IntKind.i64 lo)).setCell { block := w.heap.size, off := 7 } (Value.int IntKind.i64 hi)).setCell { block := w.heap.size, off := 0 } (Value.int IntKind.i64 k)).setCell { block := w.heap.size, off := 1 } (Value.int IntKind.u64 a0)).setCell { block := w.heap.size, off := 2 } (Value.int IntKind.u64 a1)).setCell { block := w.heap.size, off := 3 } (Value.int IntKind.u64 a2)).setCell { block := w.heap.size, off := 4 } (Value.int IntKind.u64 a3)).setCell { block := w.heap.size, off := 5 } (Value.slice sp sn sc)).setCell { block := w.heap.size, off := 6 } (Value.int IntKind.i64 lo)).setCell { block := w.heap.size, off := 7 } (Value.int IntKind.i64 hi)).setCell { block := w.heap.size + 1, off := 0 } (Value.int IntKind.i64 0)).setCell { block := w.heap.size + 1, off := 1 } (Value.int IntKind.i64 0)) := by
    have HQ := HP.out
    have hn0 : w.heap.size <= w.heap.size := Nat.le_refl _
    have hn1 : w.heap.size <= w.heap.size + 1 := by omega
    exact ((((((((((((((((((HQ.setCell hn0 hs0).setCell hn0 hs0).setCell hn0 hs0).setCell hn0 hs0).setCell hn0 hs0).setCell hn0 hs0).setCell hn0 hs0).setCell hn0 hs0).setCell hn0 hs0).setCell hn0 hs0).setCell hn0 hs0).setCell hn0 hs0).setCell hn0 hs0).setCell hn0 hs0).setCell hn0 hs0).setCell hn0 hs0).setCell hn1 hs1).setCell hn1 hs1)
  clear c00 z00 c01 z01 c02 z02 c03 z03 c04 z04 c05 z05 c06 z06 c07 z07 c10 z10 c11 z11
  generalize (((((((((((((((((((w2).setCell { block := w.heap.size, off := 0 } (Value.int IntKind.i64 k)).setCell { block := w.heap.size, off := 1 } (Value.int IntKind.u64 a0)).setCell { block := w.heap.size, off := 2 } (Value.int IntKind.u64 a1)).setCell { block := w.heap.size, off := 3 } (Value.int IntKind.u64 a2)).setCell { block := w.heap.size, off := 4 } (Value.int IntKind.u64 a3)).setCell { block := w.heap.size, off := 5 } (Value.slice sp sn sc)).setCell { block := w.heap.size, off := 6 } (Value.int IntKind.i64 lo)).setCell { block := w.heap.size, off := 7 } (Value.int IntKind.i64 hi)).setCell { block := w.heap.size, off := 0 } (Value.int IntKind.i64 k)).setCell { block := w.heap.size, off := 1 } (Value.int IntKind.u64 a0)).setCell { block := w.heap.size, off := 2 } (Value.int IntKind.u64 a1)).setCell { block := w.heap.size, off := 3 } (Value.int IntKind.u64 a2)).setCell { block := w.heap.size, off := 4 } (Value.int IntKind.u64 a3)).setCell { block := w.heap.size, off := 5 } (Value.slice sp sn sc)).setCell { block := w.heap.size, off := 6 } (Value.int IntKind.i64 lo)).setCell { block := w.heap.size, off := 7 } (Value.int IntKind.i64 hi)).setCell { block := w.heap.size + 1, off := 0 } (Value.int IntKind.i64 0)).setCell { block := w.heap.size + 1, off := 1 } (Value.int IntKind.i64 0)) = W3 at *
  refine leaves_cons (f := 18) (args := #[.pointer (some ⟨w.heap.size, 0, none⟩), .pointer (some ⟨w.heap.size + 1, 0, none⟩)]) (by simp) (by simp [go_sem]) ?_
  refine ps_idle.mono ?_
  rintro r u w5 ⟨⟨v, rfl⟩, rfl, rfl⟩
  have m0 := zel k0 (Obj.cells #[Value.int IntKind.i64 0, Value.int IntKind.i64 0] 36)
  have m1 := zel k1 (Obj.cells #[Value.int IntKind.i64 0, Value.int IntKind.i64 0] 36)
  have e00 := (m0 0 _ rfl).1; have e01 := (m0 1 _ rfl).1; have e02 := (m0 2 _ rfl).1; have e03 := (m0 3 _ rfl).1; have e04 := (m0 4 _ rfl).1; have e05 := (m0 5 _ rfl).1; have e06 := (m0 6 _ rfl).1; have e07 := (m0 7 _ rfl).1; have e10 := (m1 0 _ rfl).1; have e11 := (m1 1 _ rfl).1
  refine ⟨_, ?_, _, S', rfl, HF.out, k2.alloc _ _⟩
  clear k0 k1 k2 m0 m1 hmf
  simp [results, Go.Proofs.Tryd.results14, go_sem, e00, e01, e02, e03, e04, e05, e06, e07, e10, e11]

set_option maxHeartbeats 16000000 in
theorem z148 {w : World} {s : List UInt8} {S : Hp} {e a : Int} (hlen : ¬ (256 : Int) < s.length) (hs0 : S (w.heap.size) = none) (hs1 : S (w.heap.size + 1) = none)
    (hc : Calls Go.Proofs.Tryd.prog 19 #[.pointer (some ⟨w.heap.size + 1 + 1, 0, none⟩)] (((w.alloc (Obj.cells #[Value.int IntKind.i64 0, Value.int IntKind.u64 0, Value.int IntKind.u64 0, Value.int IntKind.u64 0, Value.int IntKind.u64 0, Value.slice none 0 0, Value.int IntKind.i64 0, Value.int IntKind.i64 0] 27)).alloc (Obj.cells #[Value.int IntKind.i64 0, Value.int IntKind.i64 0] 36)).alloc (Obj.cells #[Value.string ⟨⟨s⟩⟩, Value.int IntKind.i64 0, Value.int IntKind.i64 0] 45)) fun r w2 => r = .panicked [{ v := .iface 36 (.agg #[.int .i64 e, .int .i64 a]), recovered := false }] /\ Cl w2 (w.heap.size) [.int .i64 0, .int .u64 0, .int .u64 0, .int .u64 0, .int .u64 0, .slice none 0 0, .int .i64 0, .int .i64 0] /\ Cl w2 (w.heap.size + 1) [.int .i64 0, .int .i64 0] /\ PsW w S S w2) :
    Calls Go.Proofs.Tryd.prog 14 #[.string ⟨⟨s⟩⟩] w fun r w' => r = .returned (.tuple #[.agg #[Value.int IntKind.i64 0, Value.int IntKind.u64 0, Value.int IntKind.u64 0, Value.int IntKind.u64 0, Value.int IntKind.u64 0, Value.slice none 0 0, Value.int IntKind.i64 0, Value.int IntKind.i64 0], .agg #[.int .i64 e, .int .i64 a]]) /\ PsW w S S w' := by
  have hmf : ∀ (fn : Fn) (first cap : Array Value) (w : World), (Instr.makeFunc fn first cap).run Go.Proofs.Tryd.prog w = .ok (.func fn first cap) w := fun _ _ _ _ => rfl
  have p1 : w.heap.size + 1 + 1 ≠ w.heap.size := by omega
  have p2 : w.heap.size + 1 ≠ w.heap.size := by omega
  go_enter_defers Go.Proofs.Tryd.func14, Go.Proofs.Tryd.ntmps14
  go_wp2_with (first
    | (go_at_call 19; refine hc.mono ?_; rintro r w2 ⟨rfl, hC0, hC1, hP⟩; have H0 := Go.Lib.hid hC0; have H1 := Go.Lib.hid hC1; have HP := Go.Lib.hid hP; clear hc hC0 hC1 hP))
  refine leaves_cons (f := 18) (args := #[.pointer (some ⟨w.heap.size, 0, none⟩), .pointer (some ⟨w.heap.size + 1, 0, none⟩)]) (by simp) (by simp [go_sem]) ?_
  refine (zno (R := fun w' => Cl w' (w.heap.size) [.int .i64 0, .int .u64 0, .int .u64 0, .int .u64 0, .int .u64 0, .slice none 0 0, .int .i64 0, .int .i64 0] /\ Cl w' (w.heap.size + 1) [.int .i64 e, .int .i64 a] /\ PsW w S S w') (zel H0.out _) (zel H1.out _) p2.symm (Nat.ne_of_lt (zos H0.out)) (Nat.ne_of_lt (zos H1.out)) (fun w' g0 g1 g2 => ⟨g0, g1, g2 w S S HP.out (Nat.le_refl _) (Nat.le_succ _) hs0 hs1⟩)).mono ?_
  rintro r u w5 ⟨⟨v, rfl⟩, rfl, m0, m1, hP5⟩
  have e00 := (m0 0 _ rfl).1; have e01 := (m0 1 _ rfl).1; have e02 := (m0 2 _ rfl).1; have e03 := (m0 3 _ rfl).1; have e04 := (m0 4 _ rfl).1; have e05 := (m0 5 _ rfl).1; have e06 := (m0 6 _ rfl).1; have e07 := (m0 7 _ rfl).1; have e10 := (m1 0 _ rfl).1; have e11 := (m1 1 _ rfl).1
  clear m0 m1 hmf H0 H1
  simp [Leaves, settle, results, Go.Proofs.Tryd.results14, go_sem, e00, e01, e02, e03, e04, e05, e06, e07, e10, e11]
  exact hP5

set_option maxHeartbeats 16000000 in
theorem z149 {w : World} {s : List UInt8} {S : Hp} {at_ : Int} (hlen : ¬ (256 : Int) < s.length)
    (hc : Calls Go.Proofs.Tryd.prog 19 #[.pointer (some ⟨w.heap.size + 1 + 1, 0, none⟩)] (((w.alloc (Obj.cells #[Value.int IntKind.i64 0, Value.int IntKind.u64 0, Value.int IntKind.u64 0, Value.int IntKind.u64 0, Value.int IntKind.u64 0, Value.slice none 0 0, Value.int IntKind.i64 0, Value.int IntKind.i64 0] 27)).alloc (Obj.cells #[Value.int IntKind.i64 0, Value.int IntKind.i64 0] 36)).alloc (Obj.cells #[Value.string ⟨⟨s⟩⟩, Value.int IntKind.i64 0, Value.int IntKind.i64 0] 45)) fun r w2 => ∃ (k a0 a1 a2 a3 lo hi : Int) (sp : Option Addr) (sn sc : Nat) (S' : Hp), r = .returned (.agg #[.int .i64 k, .int .u64 a0, .int .u64 a1, .int .u64 a2, .int .u64 a3, .slice sp sn sc, .int .i64 lo, .int .i64 hi]) /\ Cl w2 (w.heap.size) [.int .i64 0, .int .u64 0, .int .u64 0, .int .u64 0, .int .u64 0, .slice none 0 0, .int .i64 0, .int .i64 0] /\ Cl w2 (w.heap.size + 1) [.int .i64 0, .int .i64 0] /\ w2.cell? ⟨w.heap.size + 1 + 1, 1, none⟩ = some (.int .i64 at_) /\ S' (w.heap.size) = none /\ S' (w.heap.size + 1) = none /\ PsW w S S' w2)
    (hat : at_ < s.length) :
    Calls Go.Proofs.Tryd.prog 14 #[.string ⟨⟨s⟩⟩] w fun r w' => r = .returned (.tuple #[.agg #[Value.int IntKind.i64 0, Value.int IntKind.u64 0, Value.int IntKind.u64 0, Value.int IntKind.u64 0, Value.int IntKind.u64 0, Value.slice none 0 0, Value.int IntKind.i64 0, Value.int IntKind.i64 0], .agg #[.int .i64 2, .int .i64 at_]]) /\ ∃ S', PsW w S S' w' := by
  have hmf : ∀ (fn : Fn) (first cap : Array Value) (w : World), (Instr.makeFunc fn first cap).run Go.Proofs.Tryd.prog w = .ok (.func fn first cap) w := fun _ _ _ _ => rfl
  have p1 : w.heap.size + 1 + 1 ≠ w.heap.size := by omega
  have p2 : w.heap.size + 1 ≠ w.heap.size := by omega
  go_enter_defers Go.Proofs.Tryd.func14, Go.Proofs.Tryd.ntmps14
  go_wp2_with (first
    | (go_at_call 19; refine hc.mono ?_; rintro r w2 ⟨k, a0, a1, a2, a3, lo, hi, sp, sn, sc, S', rfl, hC0, hC1, hat2, hs0, hs1, hP⟩; have c00 := (hC0 0 _ rfl).1; have z00 := (hC0 0 _ rfl).2; have c01 := (hC0 1 _ rfl).1; have z01 := (hC0 1 _ rfl).2; have c02 := (hC0 2 _ rfl).1; have z02 := (hC0 2 _ rfl).2; have c03 := (hC0 3 _ rfl).1; have z03 := (hC0 3 _ rfl).2; have c04 := (hC0 4 _ rfl).1; have z04 := (hC0 4 _ rfl).2; have c05 := (hC0 5 _ rfl).1; have z05 := (hC0 5 _ rfl).2; have c06 := (hC0 6 _ rfl).1; have z06 := (hC0 6 _ rfl).2; have c07 := (hC0 7 _ rfl).1; have z07 := (hC0 7 _ rfl).2; have c10 := (hC1 0 _ rfl).1; have z10 := (hC1 0 _ rfl).2; have c11 := (hC1 1 _ rfl).1; have z11 := (hC1 1 _ rfl).2; have hl0 : w.heap.size < w2.heap.size := zos hC0; have hl1 : w.heap.size + 1 < w2.heap.size := zos hC1; have H0 := Go.Lib.hid hC0; have H1 := Go.Lib.hid hC1; have HP := Go.Lib.hid hP; clear hc hC0 hC1 hP)
    | (go_at_call 20; refine fail_walk.mono ?_; rintro r w3 ⟨rfl, rfl⟩))
  have k0 : Cl (((((((((w2).setCell { block := w.heap.size, off := 0 } (Value.int IntKind.i64 k)).setCell { block := w.heap.size, off := 1 } (Value.int IntKind.u64 a0)).setCell { block := w.heap.size, off := 2 } (Value.int IntKind.u64 a1)).setCell { block := w.heap.size, off := 3 } (Value.int IntKind.u64 a2)).setCell { block := w.heap.size, off := 4 } (Value.int IntKind.u64 a3)).setCell { block := w.heap.size, off := 5 } (Value.slice sp sn sc)).setCell { block := w.heap.size, off := 6 } (Value.int IntKind.i64 lo)).setCell { block := w.heap.size, off := 7 } (Value.int IntKind.i64 hi)) (w.heap.size) [.int .i64 k, .int .u64 a0, .int .u64 a1, .int .u64 a2, .int .u64 a3, .slice sp sn sc, .int .i64 lo, .int .i64 hi] := (z5b (z5b (z5b (z5b (z5b (z5b (z5b (z5b H0.out 0 _) 1 _) 2 _) 3 _) 4 _) 5 _) 6 _) 7 _)
  have k1 : Cl (((((((((w2).setCell { block := w.heap.size, off := 0 } (Value.int IntKind.i64 k)).setCell { block := w.heap.size, off := 1 } (Value.int IntKind.u64 a0)).setCell { block := w.heap.size, off := 2 } (Value.int IntKind.u64 a1)).setCell { block := w.heap.size, off := 3 } (Value.int IntKind.u64 a2)).setCell { block := w.heap.size, off := 4 } (Value.int IntKind.u64 a3)).setCell { block := w.heap.size, off := 5 } (Value.slice sp sn sc)).setCell { block := w.heap.size, off := 6 } (Value.int IntKind.i64 lo)).setCell { block := w.heap.size, off := 7 } (Value.int IntKind.i64 hi)) (w.heap.size + 1) [.int .i64 0, .int .i64 0] := (z1j (z1j (z1j (z1j (z1j (z1j (z1j (z1j H1.out p2.symm 0 _) p2.symm 1 _) p2.symm 2 _) p2.symm 3 _) p2.symm 4 _) p2.symm 5 _) p2.symm 6 _) p2.symm 7 _)
  have k2 : PsW w S S' (((((((((w2).setCell { block := w.heap.size, off := 0 } (Value.int IntKind.i64 k)).setCell { block := w.heap.size, off := 1 } (Value.int IntKind.u64 a0)).setCell { block := w.heap.size, off := 2 } (Value.int IntKind.u64 a1)).setCell { block := w.heap.size, off := 3 } (Value.int IntKind.u64 a2)).setCell { block := w.heap.size, off := 4 } (Value.int IntKind.u64 a3)).setCell { block := w.heap.size, off := 5 } (Value.slice sp sn sc)).setCell { block := w.heap.size, off := 6 } (Value.int IntKind.i64 lo)).setCell { block := w.heap.size, off := 7 } (Value.int IntKind.i64 hi)) := ((((((((HP.out.setCell (Nat.le_refl _) hs0).setCell (Nat.le_refl _) hs0).setCell (Nat.le_refl _) hs0).setCell (Nat.le_refl _) hs0).setCell (Nat.le_refl _) hs0).setCell (Nat.le_refl _) hs0).setCell (Nat.le_refl _) hs0).setCell (Nat.le_refl _) hs0)
  clear c00 z00 c01 z01 c02 z02 c03 z03 c04 z04 c05 z05 c06 z06 c07 z07 c10 z10 c11 z11
  generalize (((((((((w2).setCell { block := w.heap.size, off := 0 } (Value.int IntKind.i64 k)).setCell { block := w.heap.size, off := 1 } (Value.int IntKind.u64 a0)).setCell { block := w.heap.size, off := 2 } (Value.int IntKind.u64 a1)).setCell { block := w.heap.size, off := 3 } (Value.int IntKind.u64 a2)).setCell { block := w.heap.size, off := 4 } (Value.int IntKind.u64 a3)).setCell { block := w.heap.size, off := 5 } (Value.slice sp sn sc)).setCell { block := w.heap.size, off := 6 } (Value.int IntKind.i64 lo)).setCell { block := w.heap.size, off := 7 } (Value.int IntKind.i64 hi)) = W3 at *
  refine leaves_cons (f := 18) (args := #[.pointer (some ⟨w.heap.size, 0, none⟩), .pointer (some ⟨w.heap.size + 1, 0, none⟩)]) (by simp) (by simp [go_sem]) ?_
  refine (zno (R := fun w' => Cl w' (w.heap.size) [.int .i64 0, .int .u64 0, .int .u64 0, .int .u64 0, .int .u64 0, .slice none 0 0, .int .i64 0, .int .i64 0] /\ Cl w' (w.heap.size + 1) [.int .i64 2, .int .i64 at_] /\ PsW w S S' w') (zel k0 _) (zel k1 _) p2.symm (Nat.ne_of_lt (zos k0)) (Nat.ne_of_lt (zos k1)) (fun w' g0 g1 g2 => ⟨g0, g1, g2 w S S' k2 (Nat.le_refl _) (Nat.le_succ _) hs0 hs1⟩)).mono ?_
  rintro r u w5 ⟨⟨v, rfl⟩, rfl, m0, m1, hP5⟩
  have e00 := (m0 0 _ rfl).1; have e01 := (m0 1 _ rfl).1; have e02 := (m0 2 _ rfl).1; have e03 := (m0 3 _ rfl).1; have e04 := (m0 4 _ rfl).1; have e05 := (m0 5 _ rfl).1; have e06 := (m0 6 _ rfl).1; have e07 := (m0 7 _ rfl).1; have e10 := (m1 0 _ rfl).1; have e11 := (m1 1 _ rfl).1
  clear m0 m1 hmf k0 k1 H0 H1
  simp [Leaves, settle, results, Go.Proofs.Tryd.results14, go_sem, e00, e01, e02, e03, e04, e05, e06, e07, e10, e11]
  exact ⟨S', hP5⟩

theorem zs0 {S : Hp} {y : NodT.den} {v : Value} (h : VR S NodT y v) : ∃ (k a0 a1 a2 a3 lo hi : Int) (sp : Option Addr) (sn sc : Nat), v = .agg #[.int .i64 k, .int .u64 a0, .int .u64 a1, .int .u64 a2, .int .u64 a3, .slice sp sn sc, .int .i64 lo, .int .i64 hi] := by
  unfold VR at h
  simp only [T.isAgg, if_true] at h
  obtain ⟨cs, e, h⟩ := h
  obtain ⟨c1, d1, e1, h1, c2, d2, e2, h2, c3, d3, e3, h3, c4, d4, e4, h4, c5, d5, e5, h5, h6⟩ := h
  have h1 : c1 = [.int .i64 y.1] := h1
  have h4 : c4 = [.int .i64 y.2.2.2.1] := h4
  have h5 : c5 = [.int .i64 y.2.2.2.2.1] := h5
  have h6 : d5 = [] := h6
  obtain ⟨hl, ha⟩ := h2
  obtain ⟨sp, sc, h3, _⟩ := h3
  obtain ⟨k, arr, sl, lo, hi, u⟩ := y
  match arr, hl with
  | [a0, a1, a2, a3], _ =>
    obtain ⟨q0, r0, f0, g0, q1, r1, f1, g1, q2, r2, f2, g2, q3, r3, f3, g3, g4⟩ := ha
    have g0 : q0 = [.int .u64 a0] := g0
    have g1 : q1 = [.int .u64 a1] := g1
    have g2 : q2 = [.int .u64 a2] := g2
    have g3 : q3 = [.int .u64 a3] := g3
    have g4 : r3 = [] := g4
    refine ⟨k, a0, a1, a2, a3, lo, hi, sp, List.length sl, sc, ?_⟩
    rw [e]
    congr 1
    apply Array.toList_inj.1
    rw [e1, h1, e2, f0, g0, f1, g1, f2, g2, f3, g3, g4, e3, h3, e4, h4, e5, h5, h6]
    rfl

abbrev zyv : T := .pair (.int .i64) (.pair (.int .i64) .unit)

def z112 : NodT.den := ((0 : Int), (([(0 : Int), 0, 0, 0] : List Int), (([] : List Go.Lift.Tree), ((0 : Int), ((0 : Int), ())))))

theorem zp8 (S : Hp) : VR S NodT z112 (.agg #[Value.int IntKind.i64 0, Value.int IntKind.u64 0, Value.int IntKind.u64 0, Value.int IntKind.u64 0, Value.int IntKind.u64 0, Value.slice none 0 0, Value.int IntKind.i64 0, Value.int IntKind.i64 0]) := (z107 (t := NodT) (x := z112) rfl).mono (z9y _)

theorem zr7 (S : Hp) (e a : Int) : VR S zyv (e, a, ()) (.agg #[.int .i64 e, .int .i64 a]) := (z107 (t := zyv) (x := (e, a, ())) rfl).mono (z9y _)

def z3o (N : Nat) (s : List UInt8) : Option (z4j [NodT, zyv]) :=
 cond (decide ((256 : Int) < s.length))
 (some (z112, ((3, 256, ()), ())))
 (orP (zm N (s, (0, (0, ())))) (fun z => some (z112, (z, ())))
 ((ze N (s, (0, (0, ())))).bind fun y =>
 cond (decide (y.2.1.2.1 < (s.length : Int)))
 (some (z112, ((2, y.2.1.2.1, ()), ())))
 (some (y.1, ((0, 0, ()), ())))))

def zai (N : Nat) : List A -> Res := z1z [(0, .v .str)] (fun x => z3o N x.1) (zfe (.tup [NodT, zyv]) 1)

theorem z1at {w : World} {n : Nat} {cs : Array Value} {E : Nat} (h : w.heap[n]? = some (.cells cs E (0, 0))) : Cl w n cs.toList := by
  intro i v hi
  have hi' : cs[i]? = some v := by rw [<- Array.getElem?_toList]; exact hi
  constructor
  . simp [World.cell?, h, hi']
  . simp [World.frozen?, h]

def psW (w : World) (s : List UInt8) : World := ((w.alloc (Obj.cells #[Value.int IntKind.i64 0, Value.int IntKind.u64 0, Value.int IntKind.u64 0, Value.int IntKind.u64 0, Value.int IntKind.u64 0, Value.slice none 0 0, Value.int IntKind.i64 0, Value.int IntKind.i64 0] 27)).alloc (Obj.cells #[Value.int IntKind.i64 0, Value.int IntKind.i64 0] 36)).alloc (Obj.cells #[Value.string ⟨⟨s⟩⟩, Value.int IntKind.i64 0, Value.int IntKind.i64 0] 45)

theorem znp (w : World) (s : List UInt8) : (psW w s).heap.size = w.heap.size + 3 /\ (psW w s).heap[w.heap.size]? = some (.cells #[Value.int IntKind.i64 0, Value.int IntKind.u64 0, Value.int IntKind.u64 0, Value.int IntKind.u64 0, Value.int IntKind.u64 0, Value.slice none 0 0, Value.int IntKind.i64 0, Value.int IntKind.i64 0] 27 (0, 0)) /\ (psW w s).heap[w.heap.size + 1]? = some (.cells #[Value.int IntKind.i64 0, Value.int IntKind.i64 0] 36 (0, 0)) ∧
    (psW w s).heap[w.heap.size + 1 + 1]? = some (.cells #[Value.string ⟨⟨s⟩⟩, Value.int IntKind.i64 0, Value.int IntKind.i64 0] 45 (0, 0)) /\ (∀ k, k < w.heap.size -> (psW w s).heap[k]? = w.heap[k]?) ∧
    (psW w s).tape = w.tape /\ (psW w s).os = w.os /\ (psW w s).output = w.output := by
  have hh : (psW w s).heap = ((w.heap.push (.cells #[Value.int IntKind.i64 0, Value.int IntKind.u64 0, Value.int IntKind.u64 0, Value.int IntKind.u64 0, Value.int IntKind.u64 0, Value.slice none 0 0, Value.int IntKind.i64 0, Value.int IntKind.i64 0] 27 (0, 0))).push (.cells #[Value.int IntKind.i64 0, Value.int IntKind.i64 0] 36 (0, 0))).push (.cells #[Value.string ⟨⟨s⟩⟩, Value.int IntKind.i64 0, Value.int IntKind.i64 0] 45 (0, 0)) := rfl
  refine ⟨by rw [hh]; simp, ?_, ?_, ?_, fun k hk => ?_, rfl, rfl, rfl⟩
  . rw [hh, Array.getElem?_push, if_neg (by simp; omega), Array.getElem?_push, if_neg (by simp), Array.getElem?_push, if_pos rfl]
  . rw [hh, Array.getElem?_push, if_neg (by simp), Array.getElem?_push, if_pos (by simp)]
  . rw [hh, Array.getElem?_push, if_pos (by simp)]
  . rw [hh, Array.getElem?_push, if_neg (by simp; omega), Array.getElem?_push, if_neg (by simp; omega), Array.getElem?_push, if_neg (by omega)]

theorem z10v {w : World} {s : List UInt8} {S : Hp} (hS : Lift.Sub S (hp w)) : ArgsRel (hp (psW w s)) S [.box PrsT (s, (0, (0, ())))] [.pointer (some ⟨w.heap.size + 1 + 1, 0, none⟩)] (fun i => if i = 0 then [w.heap.size + 1 + 1] else []) /\ Lift.Sub S (hp (psW w s)) := by
  obtain ⟨f1, f2, f3, f4, f5, _⟩ := znp w s
  have hsub : Lift.Sub S (hp (psW w s)) := fun k q hk => by
    have := hS k q hk
    simp only [hp] at this ⊢
    rw [f5 k (z7p (hS k q hk))]
    exact this
  refine ⟨zyj (w := psW w s) (args := []) (vals := []) ?_ (by simp) (fun k hk => ?_) ⟨rfl, fun i x h => (by cases h), fun _ _ => rfl, fun i j b hb => (by cases hb), fun _ => .nil, fun i b hb => (by cases hb)⟩, hsub⟩
  . refine ⟨w.heap.size + 1 + 1, _, _, _, [], rfl, rfl, f4, ze1 _, RdO.of_rd PrsT _ _ ?_⟩
    exact ⟨[.string ⟨⟨s⟩⟩], _, rfl, rfl, [.int .i64 0], _, rfl, rfl, [.int .i64 0], [], rfl, rfl, rfl⟩
  . have : k = w.heap.size + 1 + 1 := by simpa using hk
    subst this
    cases hx : S (w.heap.size + 1 + 1) with
    | none => rfl
    | some o => exact absurd (z7p (hS _ _ hx)) (by omega)

theorem zm8 {w : World} {S : Hp} (hS : Lift.Sub S (hp w)) {k : Nat} (hk : w.heap.size <= k) : S k = none := by
  cases hx : S k with
  | none => rfl
  | some o => exact absurd (z7p (hS _ _ hx)) (by omega)

theorem zrr {w w2 : World} {s : List UInt8} {S S' : Hp} (hS : Lift.Sub S (hp w)) (hwf : WF (psW w s) (fun b => ∃ i, b ∈ (fun i => if i = 0 then [w.heap.size + 1 + 1] else []) i) w2) (hSS : Lift.Sub S S') (hSw : Lift.Sub S' (hp w2))
    (hnew : ∀ b, S' b ≠ none -> S b ≠ none \/ b = w.heap.size + 1 + 1 \/ (psW w s).heap.size <= b) :
    Cl w2 w.heap.size [.int .i64 0, .int .u64 0, .int .u64 0, .int .u64 0, .int .u64 0, .slice none 0 0, .int .i64 0, .int .i64 0] /\ Cl w2 (w.heap.size + 1) [.int .i64 0, .int .i64 0] /\ S' w.heap.size = none /\ S' (w.heap.size + 1) = none /\ PsW w S S' w2 := by
  obtain ⟨f1, f2, f3, f4, f5, f6, f7, f8⟩ := znp w s
  have hin : ∀ k, (∃ i, k ∈ (fun i => if i = 0 then [w.heap.size + 1 + 1] else []) i) -> k = w.heap.size + 1 + 1 := by
    rintro k ⟨i, hi⟩
    by_cases hi0 : i = 0
    . simpa [hi0] using hi
    . simp [hi0] at hi
  have g0 := hwf.same w.heap.size (by omega) (fun h => by have := hin _ h; omega)
  have g1 := hwf.same (w.heap.size + 1) (by omega) (fun h => by have := hin _ h; omega)
  rw [f2] at g0
  rw [f3] at g1
  refine ⟨z1at g0, z1at g1, ?_, ?_, ⟨by have := hwf.size; omega, fun k hk _ => ?_, hwf.tape.trans f6, hwf.os.trans f7, hwf.output.trans f8⟩, hSS, hSw, fun k hk => ?_⟩
  . cases hx : S' w.heap.size with
    | none => rfl
    | some o =>
      rcases hnew _ (by rw [hx]; simp) with h | h | h
      . exact absurd (zm8 hS (Nat.le_refl _)) h
      . omega
      . omega
  . cases hx : S' (w.heap.size + 1) with
    | none => rfl
    | some o =>
      rcases hnew _ (by rw [hx]; simp) with h | h | h
      . exact absurd (zm8 hS (by omega)) h
      . omega
      . omega
  . rw [hwf.same k (by omega) (fun h => by have := hin _ h; omega), f5 k hk]
  . rcases hnew k hk with h | h | h
    . exact .inl h
    . exact .inr (by omega)
    . exact .inr (by omega)

theorem z14a {w : World} {S : Hp} {x : PrsT.den} {b : Nat} {o : List Nat} (h : ARel (hp w) S (fun _ => undef) (.box PrsT x) (.pointer (some ⟨b, 0, none⟩)) o) : w.cell? ⟨b, 1, none⟩ = some (.int .i64 x.2.1) := by
  obtain ⟨b', cs, E, fr, bs, e, e', hb, hf, hr⟩ := h
  cases e'
  obtain ⟨_, c1, d1, hc, h1, c2, d2, hc2, h2, h3⟩ := RdO.rd PrsT x _ _ rfl hr
  have k1 : c1 = [.string ⟨⟨x.1⟩⟩] := h1
  have k2 : c2 = [.int .i64 x.2.1] := h2
  have : cs[1]? = some (.int .i64 x.2.1) := by
    rw [<- Array.getElem?_toList, hc, k1, hc2, k2]; rfl
  have hb : w.heap[b]? = some (.cells cs E fr) := hb
  simp [World.cell?, hb, this]

theorem zm9 {w w' : World} {s : List UInt8} {S S' : Hp} {ob : Nat -> List Nat} {y : z4j [NodT, zyv]} {v1 v2 : Value} (hob : ∀ i, ob i = []) (hP : PsW w S S' w') (h1 : VR S' NodT y.1 v1) (h2 : VR S' zyv y.2.1 v2) :
    Lift.Ends w S (mkS [(0, .v .str)] 0 (s, ())) [.string ⟨⟨s⟩⟩] ob (zfe (.tup [NodT, zyv]) 1 y).1 (zfe (.tup [NodT, zyv]) 1 y).2 (.returned (.tuple #[v1, v2])) w' := by
  obtain ⟨k1, k2, k3, k4⟩ := hP
  refine ⟨_, S', [], ob, rfl, ⟨k1.size, fun k hk _ => k1.same k hk (fun h => h), k1.tape, k1.os, k1.output⟩, k2, k3, fun k hk => ?_, ⟨⟨rfl, _, rfl, .cons h1 (.cons h2 .nil)⟩, rfl⟩, (fun k hk => by cases hk), .nil, ?_, ?_, ?_, ?_, fun _ h => h⟩
  . rcases k4 k hk with h | h
    . exact .inl h
    . exact .inr (.inr h)
  . intro i x hx hbx
    match i with
    | 0 => simp [mkS, zda, AS.mk] at hx; subst hx; simp [zb5] at hbx
    | i + 1 => simp [mkS, zda] at hx
  . intro i k hk
    rw [hob i] at hk; cases hk
  . intro i j k hi
    rw [hob i] at hi; cases hi
  . intro i
    rw [hob i]; exact .nil

theorem zex (N : Nat) : Contract Go.Proofs.Tryd.prog glob 14 (zai N) := by
  refine Contract.hand ⟨_, Go.Proofs.Tryd.func14, by kernel_rfl, by decide⟩ ?_
  intro w S vals ob x y har hS hg hy
  obtain ⟨s, u⟩ := x
  cases u
  have hob : ∀ i, ob i = [] := by
    intro i
    rcases i with _ | i
    . obtain ⟨⟨v, hv, hA⟩, _⟩ := har.rel 0 _ rfl
      exact hA.2
    . exact har.out _ (by simp [mkS, zda])
  have hvals : vals = [.string ⟨⟨s⟩⟩] := by
    have hlen := har.len
    obtain ⟨⟨v0, hv0, hA0⟩, _⟩ := har.rel 0 _ rfl
    have e0 : v0 = .string ⟨⟨s⟩⟩ := VR.str_inv hA0.1
    match vals, hlen with
    | [a], _ => cases hv0; rw [e0]
  subst hvals
  have hy : z3o N s = some y := hy
  unfold z3o at hy
  by_cases hlen : (256 : Int) < s.length
  . rw [decide_eq_true hlen] at hy
    cases hy
    refine (z10u hS hlen).mono ?_
    rintro r w' ⟨rfl, hP⟩
    exact zm9 hob hP (zp8 _) (zr7 _ _ _)
  . rw [decide_eq_false hlen] at hy
    simp only [cond_false] at hy
    obtain ⟨hA, hSB⟩ := z10v (s := s) hS
    rcases zme hy with ⟨z, hz, hK⟩ | ⟨_, hK⟩
    . cases hK
      have hc := (z5n N).2 (psW w s) S _ _ _ hA hSB hg z hz
      refine (z148 hlen (zm8 hS (Nat.le_refl _)) (zm8 hS (Nat.le_succ _)) (e := z.1) (a := z.2.1) (hc.mono ?_)).mono ?_
      . rintro e w2 ⟨rfl, hwf, hsub⟩
        obtain ⟨q1, q2, q3, q4, q5⟩ := zrr hS hwf (Lift.Sub.refl S) hsub (fun b hb => .inl hb)
        exact ⟨rfl, q1, q2, q5⟩
      . rintro r w' ⟨rfl, hP⟩
        obtain ⟨z1, z2, u⟩ := z
        exact zm9 hob hP (zp8 _) (zr7 _ _ _)
    . obtain ⟨q, hq, hK⟩ := Option.bind_eq_some_iff.1 hK
      have hc := (z2j N).2 (psW w s) S _ _ _ hA hSB hg q hq
      have key : ∀ e w2, Lift.Ends (psW w s) S [.box PrsT (s, (0, (0, ())))] [.pointer (some ⟨w.heap.size + 1 + 1, 0, none⟩)] (fun i => if i = 0 then [w.heap.size + 1 + 1] else []) (.v NodT q.1) [.box PrsT q.2.1] e w2 →
          ∃ v S', e = .returned v /\ VR S' NodT q.1 v /\ Cl w2 w.heap.size [.int .i64 0, .int .u64 0, .int .u64 0, .int .u64 0, .int .u64 0, .slice none 0 0, .int .i64 0, .int .i64 0] /\ Cl w2 (w.heap.size + 1) [.int .i64 0, .int .i64 0] /\ w2.cell? ⟨w.heap.size + 1 + 1, 1, none⟩ = some (.int .i64 q.2.1.2.1) /\ S' w.heap.size = none /\ S' (w.heap.size + 1) = none /\ PsW w S S' w2 := by
        rintro e w2 ⟨v, S', o, ob', rfl, hwf, hSS, hSw, hnew, ⟨hr, _⟩, _, _, hbox, _⟩
        obtain ⟨x2, v2, g1, g2, _, g4⟩ := hbox 0 _ rfl rfl
        simp at g1 g2
        subst g1
        subst g2
        obtain ⟨q1, q2, q3, q4, q5⟩ := zrr hS hwf hSS hSw (fun b hb => by
          rcases hnew b hb with h | ⟨i, hi⟩ | h
          . exact .inl h
          . by_cases hi0 : i = 0
            . simp [hi0] at hi; exact .inr (.inl hi)
            . simp [hi0] at hi
          . exact .inr (.inr h))
        exact ⟨v, S', rfl, hr.1, q1, q2, z14a g4, q3, q4, q5⟩
      by_cases hat : q.2.1.2.1 < (s.length : Int)
      . rw [decide_eq_true hat] at hK
        cases hK
        refine (z149 (S := S) hlen (at_ := q.2.1.2.1) (hc.mono ?_) hat).mono ?_
        . intro e w2 h
          obtain ⟨v, S', rfl, hv, q1, q2, q3, q4, q5, q6⟩ := key e w2 h
          obtain ⟨k, a0, a1, a2, a3, lo, hi, sp, sn, sc, rfl⟩ := zs0 hv
          exact ⟨k, a0, a1, a2, a3, lo, hi, sp, sn, sc, S', rfl, q1, q2, q3, q4, q5, q6⟩
        . rintro r w' ⟨rfl, S', hP⟩
          exact zm9 hob hP (zp8 _) (zr7 _ _ _)
      . rw [decide_eq_false hat] at hK
        cases hK
        refine (ps_ok (S := S) hlen (at_ := q.2.1.2.1) (F := fun S' v => VR S' NodT q.1 v) (hc.mono ?_) hat).mono ?_
        . intro e w2 h
          obtain ⟨v, S', rfl, hv, q1, q2, q3, q4, q5, q6⟩ := key e w2 h
          obtain ⟨k, a0, a1, a2, a3, lo, hi, sp, sn, sc, rfl⟩ := zs0 hv
          exact ⟨k, a0, a1, a2, a3, lo, hi, sp, sn, sc, S', rfl, q1, q2, q3, q4, q5, q6, hv⟩
        . rintro r w' ⟨v, S', rfl, hv, hP⟩
          exact zm9 hob hP hv (zr7 _ _ _)

end
end Go.Proofs.YtbfmhambfonpcaaDoorLg

set_option linter.all false
set_option maxRecDepth 100000
namespace Go.Proofs.YtbfmhambfonpcaaDoorLg
noncomputable section
open Go Go.Lift Go.Proofs.YtbfmhambfonpcaaDoorPx

abbrev PSt := List UInt8 × (Int × (Int × Unit))

@[reducible] def pst (s : List UInt8) (a o : Nat) : PSt := (s, ((a : Int), ((o : Int), ())))

def okP {α β : Type} (s : List UInt8) (o : Nat) (f : α -> β) : PR α -> Option (β × (PSt × Unit))
  | .ok x a => some (f x, (pst s a o, ()))
  | .bad .. => none

def zb7 {α : Type} : PR α -> Option (Int × (Int × Unit))
  | .bad e a => some (e, ((a : Int), ()))
  | .ok .. => none

theorem zen {a : Nat} (h : a <= 100000) : IntKind.wrap .i64 ((a : Int) + 1) = ((a + 1 : Nat) : Int) := by
  rw [show ((a : Int) + 1) = ((a + 1 : Nat) : Int) from rfl]
  exact z8s (by unfold I64; omega)

theorem zc1 (s : List UInt8) (a : Nat) : (((UInt8.toNat (List.getD s (Int.toNat (a : Int)) (0 : UInt8))) : Nat) : Int) = (gb s a : Int) := by rw [Int.toNat_natCast]; rfl

theorem zob (s : List UInt8) (a : Nat) : gb s a < 256 := (s.getD a 0).toNat_lt

theorem eqI (a b : Nat) : (((a : Int)) == (b : Int)) = decide (a = b) := by
  by_cases h : a = b
  . subst h; simp
  . rw [decide_eq_false h]; simp; omega

theorem zby {s : List UInt8} {a : Nat} (h : a < s.length) : inR (a : Int) s.length = true := zbf h

theorem zez (N : Nat) {s : List UInt8} {a : Nat} (o : Nat) (ha : a <= s.length) :
    zz N (pst s a o) = okP s o (fun b : Nat => (b : Int)) (z83 s a) /\ z1d N (pst s a o) = zb7 (z83 s a) := by
  unfold zz z74 z1d z4v pst z83
  dsimp only
  rw [eqI]
  rcases Nat.lt_or_ge a s.length with h | h
  . rw [decide_eq_false (by omega), if_pos h]
    simp only [cond_false]
    rw [zby h, zc1]
    exact ⟨rfl, rfl⟩
  . have e : a = s.length := by omega
    rw [decide_eq_true e, if_neg (by omega)]
    subst e
    exact ⟨rfl, rfl⟩

theorem zhn (N : Nat) {s : List UInt8} {a : Nat} (o b : Nat) (ha : a <= s.length) (hs : s.length <= 256) :
    zp N (pst s a o) (b : Int) = some (isB s a b, (pst s (cond (isB s a b) (a + 1) a) o, ())) := by
  unfold zp z70 z6z pst isB
  dsimp only
  rw [eqI]
  rcases Nat.lt_or_ge a s.length with h | h
  . rw [decide_eq_false (by omega), decide_eq_true h]
    simp only [cond_false, Bool.true_and]
    rw [zby h, zc1, zen (by omega)]
    simp only [cond_true, bne, eqI]
    by_cases hb : gb s a = b
    . rw [decide_eq_true hb]; simp [hb]
    . rw [decide_eq_false hb]
      have h2 : (gb s a == b) = false := by simpa using hb
      simp [h2]
  . have e : a = s.length := by omega
    rw [decide_eq_true e, decide_eq_false (by omega)]
    rfl

theorem zji (N : Nat) {s : List UInt8} {a : Nat} (o b : Nat) (ha : a <= s.length) (hs : s.length <= 256) :
    zq N (pst s a o) (b : Int) = okP s o (fun _ : Unit => ()) (zaq s a b) /\ z15 N (pst s a o) (b : Int) = zb7 (zaq s a b) := by
  unfold zq z75 z15 z4w zaq
  rw [(zez N o ha).1, (zez N o ha).2]
  cases h : z83 s a with
  | bad e c => exact ⟨rfl, rfl⟩
  | ok x c =>
    obtain ⟨h1, rfl, rfl⟩ := z9j h
    simp only [okP, zb7, PR.next, Option.bind_some, orP, bne, eqI, pst]
    by_cases hb : gb s c = b
    . rw [decide_eq_true hb, if_pos hb, zen (by omega)]
      exact ⟨rfl, rfl⟩
    . rw [decide_eq_false hb, if_neg hb]
      exact ⟨rfl, rfl⟩

theorem zhk (N b : Nat) : z4q N (b : Int) = some (zjx b) := by
  unfold z4q zjx
  by_cases h : 48 <= b
  . rw [decide_eq_true (by omega), decide_eq_true h]
    simp only [cond_true, Bool.true_and]
    congr 1
    exact decide_eq_decide.2 (by omega)
  . rw [decide_eq_false (by omega), decide_eq_false h]
    rfl

theorem zsq {x : Int} (h : 0 <= x) (h2 : x < 256) : IntKind.wrap .u8 x = x := by
  show x % 256 = x
  omega

theorem z16s (N : Nat) {s : List UInt8} {a : Nat} (o fr : Nat) (ha : a <= s.length) (hs : s.length <= 256) :
    z34 N (pst s a o) (fr : Int) = okP s o (fun b : Nat => (b : Int)) (zpp s fr a) /\ z30 N (pst s a o) (fr : Int) = zb7 (zpp s fr a) := by
  unfold z34 z30 zpp
  rw [(zez N o ha).1, (zez N o ha).2]
  cases h : z83 s a with
  | bad e c => exact ⟨rfl, rfl⟩
  | ok x c =>
    obtain ⟨h1, rfl, rfl⟩ := z9j h
    have hl := zob s c
    simp only [okP, zb7, PR.next, Option.bind_some, orP, zhk, pst]
    cases hd : zjx (gb s c) with
    | true =>
      have hd' : 48 <= gb s c /\ gb s c <= 57 := by simpa [zjx] using hd
      simp only [cond_true, if_true]
      rw [zen (by omega), zsq (by omega) (by omega), show ((gb s c : Int) - 48) = ((gb s c - 48 : Nat) : Int) by omega]
      exact ⟨rfl, by first | rfl | trivial⟩
    | false =>
      simp only [cond_false, Bool.false_eq_true, if_false]
      unfold z7y z7x z5i z5h
      by_cases h2 : 97 <= gb s c /\ gb s c <= 102
      . rw [if_pos h2, decide_eq_false (by omega), decide_eq_false (by omega)]
        simp only [cond_false]
        rw [zen (by omega), zsq (x := (gb s c : Int) - 97) (by omega) (by omega), zsq (by omega) (by omega), show ((gb s c : Int) - 97 + 10) = ((gb s c - 87 : Nat) : Int) by omega]
        exact ⟨rfl, by first | rfl | trivial⟩
      . rw [if_neg h2]
        by_cases h3 : (gb s c : Int) < 97
        . rw [decide_eq_true h3]; exact ⟨rfl, rfl⟩
        . rw [decide_eq_false h3, decide_eq_true (show (102 : Int) < gb s c by omega)]; exact ⟨rfl, rfl⟩

theorem zdu {N b : Nat} (hb : b < 256) (hN : 257 < N) : z2a N (b : Int) (b : Int) = some (zdf b) := by
  rw [zxq N hb hb hN, Nat.add_sub_cancel_left]; rfl

theorem zwa : ((List.range 256).all fun b => decide (Go.Lib.indexByte ([(92 : UInt8), (46 : UInt8), (91 : UInt8), (93 : UInt8), (40 : UInt8), (41 : UInt8), (123 : UInt8), (125 : UInt8), (124 : UInt8), (42 : UInt8), (43 : UInt8), (63 : UInt8), (45 : UInt8), (94 : UInt8)] : List UInt8) (Nat.toUInt8 b) < (0 : Int)) == !(escapes.contains b)) = true := by kernel_rfl

theorem z1as {b : Nat} (hb : b < 256) : decide (Go.Lib.indexByte ([(92 : UInt8), (46 : UInt8), (91 : UInt8), (93 : UInt8), (40 : UInt8), (41 : UInt8), (123 : UInt8), (125 : UInt8), (124 : UInt8), (42 : UInt8), (43 : UInt8), (63 : UInt8), (45 : UInt8), (94 : UInt8)] : List UInt8) (Nat.toUInt8 (Int.toNat (b : Int))) < (0 : Int)) = !(escapes.contains b) := by
  have := List.all_eq_true.1 zwa b (by simpa using hb)
  rw [Int.toNat_natCast]
  exact eq_of_beq this

theorem zuc : ((List.range 256).all fun b => decide ((0 : Int) <= Go.Lib.indexByte ([(92 : UInt8), (46 : UInt8), (91 : UInt8), (93 : UInt8), (40 : UInt8), (41 : UInt8), (123 : UInt8), (125 : UInt8), (124 : UInt8), (42 : UInt8), (43 : UInt8), (63 : UInt8)] : List UInt8) (Nat.toUInt8 b)) == specials.contains b) = true := by kernel_rfl

theorem zz3 {b : Nat} (hb : b < 256) : decide ((0 : Int) <= Go.Lib.indexByte ([(92 : UInt8), (46 : UInt8), (91 : UInt8), (93 : UInt8), (40 : UInt8), (41 : UInt8), (123 : UInt8), (125 : UInt8), (124 : UInt8), (42 : UInt8), (43 : UInt8), (63 : UInt8)] : List UInt8) (Nat.toUInt8 (Int.toNat (b : Int)))) = specials.contains b := by
  have := List.all_eq_true.1 zuc b (by simpa using hb)
  rw [Int.toNat_natCast]
  exact eq_of_beq this

theorem zvc : ((List.range 16).all fun h => (List.range 16).all fun l => Go.Lift.bitsOp Go.BinOp.or Go.IntKind.u8 (Go.Lift.shlI Go.IntKind.u8 (h : Int) (4 : Int)) (l : Int) == ((16 * h + l : Nat) : Int)) = true := by kernel_rfl

theorem z16g {h l : Nat} (hh : h < 16) (hl : l < 16) : Go.Lift.bitsOp Go.BinOp.or Go.IntKind.u8 (Go.Lift.shlI Go.IntKind.u8 (h : Int) (4 : Int)) (l : Int) = ((16 * h + l : Nat) : Int) := by
  have := List.all_eq_true.1 (List.all_eq_true.1 zvc h (by simpa using hh)) l (by simpa using hl)
  exact eq_of_beq this

theorem zs7 {s : List UInt8} {fr a x b : Nat} (h : zpp s fr a = .ok x b) : x < 16 := by
  unfold zpp at h
  cases hn : z83 s a with
  | bad e c => rw [hn] at h; cases h
  | ok y c =>
    rw [hn] at h
    simp only [PR.next] at h
    split at h
    . rename_i hd
      cases h
      simp [zjx] at hd
      omega
    . split at h
      . cases h; omega
      . cases h

def sgF (r : Sg) : List Int × (Bool × Unit) := (r.1, (r.2.1, ()))

theorem zw {α : Type} {s : List UInt8} {a x : Nat} {r : PR α} {y : α} (h : Ahead s a r) (e : r = .ok y x) : a <= x /\ x <= s.length := by rw [e] at h; exact h

theorem z12j (N : Nat) {s : List UInt8} {a : Nat} (o : Nat) (ha : a < s.length) (hb : gb s a = 92) (hs : s.length <= 256) (hN : 300 <= N) :
    z1w N (pst s a o) = okP s o sgF (zpq s a) /\ z20 N (pst s a o) = zb7 (zpq s a) := by
  have hneed : zaq s a 92 = .ok () (a + 1) := by
    unfold zaq z83
    rw [if_pos ha]
    simp only [PR.next, hb, if_true]
  unfold z1w z20 zpq
  have q := zji N o 92 (Nat.le_of_lt ha) hs
  rw [hneed] at q
  rw [show (92 : Int) = ((92 : Nat) : Int) from rfl, q.1, q.2]
  simp only [okP, zb7, Option.bind_some, orP]
  rw [(zez N o (show a + 1 <= s.length by omega)).1, (zez N o (show a + 1 <= s.length by omega)).2]
  cases h : z83 s (a + 1) with
  | bad e c => exact ⟨rfl, rfl⟩
  | ok x c =>
    obtain ⟨h1, rfl, rfl⟩ := z9j h
    have hl := zob s (a + 1)
    simp only [okP, zb7, Option.bind_some, orP, PR.next, pst]
    unfold z62 z4b
    rw [zen (by omega)]
    simp only [show (100 : Int) = ((100 : Nat) : Int) from rfl, show (119 : Int) = ((119 : Nat) : Int) from rfl, show (120 : Int) = ((120 : Nat) : Int) from rfl, eqI]
    by_cases e1 : gb s (a + 1) = 100
    . rw [decide_eq_true e1, if_pos e1]
      simp only [cond_true]
      rw [show (48 : Int) = ((48 : Nat) : Int) from rfl, show (57 : Int) = ((57 : Nat) : Int) from rfl, zxq N (by omega) (by omega) (by omega)]
      exact ⟨rfl, rfl⟩
    rw [decide_eq_false e1, if_neg e1]
    simp only [cond_false]
    by_cases e2 : gb s (a + 1) = 119
    . rw [decide_eq_true e2, if_pos e2]
      simp only [cond_true]
      have ht := zx8 N zbj (by decide) (by simp [zbj]; omega)
      unfold zbj at ht
      rw [ht]
      exact ⟨rfl, rfl⟩
    rw [decide_eq_false e2, if_neg e2]
    simp only [cond_false]
    by_cases e3 : gb s (a + 1) = 120
    . rw [decide_eq_true e3, if_pos e3]
      simp only [cond_true]
      have q := z16s N o a (show a + 1 + 1 <= s.length by omega) hs
      unfold pst at q
      rw [q.1, q.2, show a + 2 = a + 1 + 1 from rfl]
      cases hx : zpp s a (a + 1 + 1) with
      | bad e c => exact ⟨rfl, rfl⟩
      | ok x c =>
        have hc := zw (zjs (Nat.le_of_lt ha) (a + 1 + 1)) hx
        have hx16 := zs7 hx
        simp only [okP, zb7, Option.bind_some, orP, PR.next]
        have q := z16s N o a hc.2 hs
        rw [q.1, q.2]
        cases hy : zpp s a c with
        | bad e d => exact ⟨rfl, rfl⟩
        | ok y d =>
          have hy16 := zs7 hy
          simp only [okP, zb7, Option.bind_some, orP, PR.next]
          rw [z16g hx16 hy16, zdu (by omega) (by omega)]
          exact ⟨rfl, rfl⟩
    rw [decide_eq_false e3, if_neg e3, z1as hl]
    simp only [cond_false]
    cases e4 : escapes.contains (gb s (a + 1)) with
    | true =>
      simp only [Bool.not_true, cond_false, if_true]
      rw [zdu hl (by omega)]
      exact ⟨rfl, rfl⟩
    | false => exact ⟨rfl, rfl⟩

theorem zrk (N : Nat) {s : List UInt8} {a : Nat} (o : Nat) (ha : a <= s.length) (hs : s.length <= 256) (hN : 300 <= N) :
    z2l N (pst s a o) = okP s o sgF (zfg s a) /\ z2k N (pst s a o) = zb7 (zfg s a) := by
  unfold z2l z2k zfg
  rw [(zez N o ha).1, (zez N o ha).2]
  cases h : z83 s a with
  | bad e c => exact ⟨rfl, rfl⟩
  | ok x c =>
    obtain ⟨h1, rfl, rfl⟩ := z9j h
    have hl := zob s c
    simp only [okP, zb7, Option.bind_some, orP, PR.next]
    unfold z72 z4u z71 z4t
    simp only [show (92 : Int) = ((92 : Nat) : Int) from rfl, show (91 : Int) = ((91 : Nat) : Int) from rfl, show (93 : Int) = ((93 : Nat) : Int) from rfl, show (45 : Int) = ((45 : Nat) : Int) from rfl, show (94 : Int) = ((94 : Nat) : Int) from rfl, eqI]
    by_cases e1 : gb s c = 92
    . rw [decide_eq_true e1, if_pos e1]
      simp only [cond_true]
      have q := z12j N o h1 e1 hs hN
      rw [q.1, q.2]
      cases hx : zpq s c with
      | bad e d => exact ⟨rfl, rfl⟩
      | ok x d => exact ⟨rfl, rfl⟩
    rw [decide_eq_false e1, if_neg e1]
    simp only [cond_false]
    by_cases f1 : gb s c = 91
    . rw [decide_eq_true f1, if_pos (by simp [f1])]; exact ⟨rfl, rfl⟩
    rw [decide_eq_false f1]
    by_cases f2 : gb s c = 93
    . rw [decide_eq_true f2, if_pos (by simp [f2])]; exact ⟨rfl, rfl⟩
    rw [decide_eq_false f2]
    by_cases f3 : gb s c = 45
    . rw [decide_eq_true f3, if_pos (by simp [f3])]; exact ⟨rfl, rfl⟩
    rw [decide_eq_false f3]
    by_cases f4 : gb s c = 94
    . rw [decide_eq_true f4, if_pos (by simp [f4])]; exact ⟨rfl, rfl⟩
    rw [decide_eq_false f4, if_neg (by simp [f1, f2, f3, f4])]
    simp only [cond_false]
    rw [zdu hl (by omega)]
    try unfold pst
    try simp only
    rw [zen (by omega)]
    exact ⟨rfl, rfl⟩

theorem z4_ok : SetOk z4 := zao
theorem zde {b : Nat} (hb : b < 256) : SetOk (zdf b) := zv6 1 b zao (by omega)

theorem zo3 {b : Nat} (hb : b < 256) : zhx (zdf b) 256 0 = (b : Int) := by
  have hh : ∀ c, c < 256 -> zq2 (zdf b) c = decide (b = c) := by
    intro c hc
    unfold zdf z4
    rw [zzk 1 b zao (by omega) hc, zs8]
    simp only [Bool.false_or]
    exact decide_eq_decide.2 (by omega)
  refine zmm (c := b) (by rw [hh b hb]; simp) 256 0 (Nat.zero_le _) (by omega) (fun i _ hi => ?_)
  rw [hh i (by omega)]
  exact decide_eq_false (by omega)

theorem zi0 {N b : Nat} (hb : b < 256) (hN : 5 <= N) : z22 N (zdf b) = some (b : Int) := by
  obtain ⟨k, rfl⟩ : ∃ k, N = k + 5 := ⟨N - 5, by omega⟩
  rw [zy5 k (zde hb), zo3 hb]

def SgOk (r : Sg) : Prop := SetOk r.1 /\ (r.2.1 = false -> r.1 = zdf r.2.2 /\ r.2.2 < 256)

theorem zwf : SetOk (ofS 10 48 z4) := zv6 10 48 zao (by omega)
theorem zx6 : SetOk (z147 zbj z4) := zz8 zbj zao

theorem zzp {s : List UInt8} {a : Nat} {r : Sg} {b : Nat} (h : zpq s a = .ok r b) : SgOk r := by
  unfold zpq at h
  cases hn : z83 s (a + 1) with
  | bad e c => rw [hn] at h; cases h
  | ok y c =>
    obtain ⟨_, rfl, rfl⟩ := z9j hn
    have hl := zob s (a + 1)
    rw [hn] at h
    simp only [PR.next] at h
    split at h
    . cases h; exact ⟨zwf, fun h => by cases h⟩
    split at h
    . cases h; exact ⟨zx6, fun h => by cases h⟩
    split at h
    . cases hx : zpp s a (a + 2) with
      | bad e c => rw [hx] at h; cases h
      | ok x c =>
        rw [hx] at h
        simp only at h
        cases hy : zpp s a c with
        | bad e c => rw [hy] at h; cases h
        | ok y d =>
          rw [hy] at h
          simp only at h
          cases h
          have := zs7 hx
          have := zs7 hy
          exact ⟨zde (by omega), fun _ => ⟨rfl, by show 16 * x + y < 256; omega⟩⟩
    split at h
    . cases h; exact ⟨zde hl, fun _ => ⟨rfl, hl⟩⟩
    . cases h

theorem zm2 {s : List UInt8} {a : Nat} {r : Sg} {b : Nat} (h : zfg s a = .ok r b) : SgOk r := by
  unfold zfg at h
  cases hn : z83 s a with
  | bad e c => rw [hn] at h; cases h
  | ok y c =>
    obtain ⟨_, rfl, rfl⟩ := z9j hn
    have hl := zob s c
    rw [hn] at h
    simp only [PR.next] at h
    split at h
    . exact zzp h
    split at h
    . cases h
    . cases h; exact ⟨zde hl, fun _ => ⟨rfl, hl⟩⟩

theorem zcs {s : List UInt8} {a : Nat} {t : List Int} {b : Nat} (h : zer s a = .ok t b) : SetOk t := by
  unfold zer at h
  cases hn : zfg s a with
  | bad e c => rw [hn] at h; cases h
  | ok r c =>
    have h1 := zm2 hn
    rw [hn] at h
    simp only [PR.next] at h
    split at h
    . cases h; exact h1.1
    . rename_i hc
      cases hm : zfg s (c + 1) with
      | bad e d => rw [hm] at h; cases h
      | ok q d =>
        have h2 := zm2 hm
        rw [hm] at h
        simp only at h
        split at h
        . cases h
        . rename_i hd
          cases h
          simp at hc hd
          have e1 := h1.2 hc.1
          have e2 := h2.2 hd.1
          exact zv6 _ _ zao (by omega)

theorem zo7 (N : Nat) {s : List UInt8} {a : Nat} (o : Nat) (ha : a <= s.length) (hs : s.length <= 256) (hN : 300 <= N) :
    z2o N (pst s a o) = okP s o id (zer s a) /\ z2n N (pst s a o) = zb7 (zer s a) := by
  unfold z2o z2n zer
  rw [(zrk N o ha hs hN).1, (zrk N o ha hs hN).2]
  cases h : zfg s a with
  | bad e c => exact ⟨rfl, rfl⟩
  | ok r c =>
    have hg := zm2 h
    have hc := zw (zed s a) h
    simp only [okP, zb7, Option.bind_some, orP, PR.next]
    unfold z79 z78 z50 z4z z77 z76 z4y z4x
    obtain ⟨st, cls, v⟩ := r
    simp only [sgF]
    cases cls with
    | true => exact ⟨rfl, rfl⟩
    | false =>
      simp only [cond_false, Bool.false_or]
      obtain ⟨e1, hv⟩ := hg.2 rfl
      simp only at e1 hv
      rw [show (45 : Int) = ((45 : Nat) : Int) from rfl, zhn N o 45 hc.2 hs]
      cases hb : isB s c 45 with
      | false => exact ⟨rfl, rfl⟩
      | true =>
        simp only [Option.bind_some, Bool.not_true, cond_true, cond_false, Bool.false_eq_true, if_false]
        have hlt : c + 1 <= s.length := by simp [isB] at hb; omega
        rw [(zrk N o hlt hs hN).1, (zrk N o hlt hs hN).2]
        cases h2 : zfg s (c + 1) with
        | bad e d => exact ⟨rfl, rfl⟩
        | ok q d =>
          have hg2 := zm2 h2
          obtain ⟨st2, cls2, v2⟩ := q
          simp only [okP, zb7, Option.bind_some, orP, sgF]
          cases cls2 with
          | true => exact ⟨rfl, rfl⟩
          | false =>
            obtain ⟨e2, hv2⟩ := hg2.2 rfl
            simp only at e2 hv2
            subst e1
            subst e2
            simp only [cond_false, Bool.false_or]
            rw [zi0 hv (by omega), zi0 hv2 (by omega)]
            simp only [Option.bind_some]
            by_cases hlt2 : v2 < v
            . rw [decide_eq_true hlt2, decide_eq_true (show (v2 : Int) < v by omega)]
              exact ⟨rfl, rfl⟩
            . rw [decide_eq_false hlt2, decide_eq_false (show ¬ (v2 : Int) < v by omega)]
              simp only [cond_false]
              rw [zsq (x := (v : Int)) (by omega) (by omega), zsq (x := (v2 : Int)) (by omega) (by omega), zxq N hv hv2 (by omega)]
              exact ⟨rfl, rfl⟩

theorem zz9 {N : Nat} (hN : 5 <= N) {s t : List Int} (hs : SetOk s) (ht : SetOk t) : z92 N s t = some (orS s t) := by
  obtain ⟨k, rfl⟩ : ∃ k, N = k + 5 := ⟨N - 5, by omega⟩
  exact or_eq k hs ht

theorem z111 {N : Nat} (hN : 5 <= N) {s : List Int} (hs : SetOk s) : z84 N s = some (z16e s) := by
  obtain ⟨k, rfl⟩ : ∃ k, N = k + 5 := ⟨N - 5, by omega⟩
  exact z16d k hs

theorem zmo {s : List UInt8} : ∀ (k a : Nat) {acc t : List Int} {b : Nat}, SetOk acc -> z9f s k a acc = .ok t b -> SetOk t
  | 0, a, acc, t, b, ha, h => by cases h
  | k + 1, a, acc, t, b, ha, h => by
    unfold z9f at h
    split at h
    . cases h; exact ha
    . cases hi : zer s a with
      | bad e c => rw [hi] at h; cases h
      | ok u c =>
        rw [hi] at h
        exact zmo k c (z10z ha (zcs hi)) h

theorem zlj (N : Nat) {s : List UInt8} (o : Nat) (hs : s.length <= 256) (hN : 300 <= N) (x2 : List Int) (nt : Bool) (k0 : PSt -> List Int -> Option (List Int × (PSt × Unit))) : ∀ (k N' a : Nat) (acc : List Int), k <= N' -> a <= s.length -> s.length < a + k -> SetOk acc →
    iter (fun (v : (PSt × (List Int))) r => z3n N x2 nt v.1 v.2 (fun p set_ => (r (p, set_))) k0) N' (pst s a o, acc) = match z9f s k a acc with | .ok t b => k0 (pst s b o) t | .bad .. => none
  | 0, N', a, acc, h1, h2, h3, h4 => by omega
  | k + 1, N', a, acc, h1, h2, h3, h4 => by
    obtain ⟨M, rfl⟩ : ∃ M, N' = M + 1 := ⟨N' - 1, by omega⟩
    simp only [iter, z9f]
    unfold z3n
    dsimp only
    rw [show (93 : Int) = ((93 : Nat) : Int) from rfl, zhn N o 93 h2 hs]
    cases hb : isB s a 93 with
    | true => rfl
    | false =>
      simp only [Option.bind_some, Bool.not_false, cond_true, cond_false, Bool.false_eq_true, if_false]
      rw [(zo7 N o h2 hs hN).1]
      cases hi : zer s a with
      | bad e c => rfl
      | ok t c =>
        have hc := zw (z6p s a) hi
        simp only [okP, Option.bind_some, PR.next, id]
        rw [zz9 (by omega) h4 (zcs hi)]
        simp only [Option.bind_some]
        exact zlj N o hs hN x2 nt k0 k M c _ (by omega) hc.2 (by omega) (z10z h4 (zcs hi))

theorem zjq (N : Nat) {s : List UInt8} (o : Nat) (hs : s.length <= 256) (hN : 300 <= N) (x2 : List Int) (nt : Bool) (k0 : (Int × (Int × Unit)) -> Option (Int × (Int × Unit))) (k1 : PSt -> List Int -> Option (Int × (Int × Unit))) : ∀ (k N' a : Nat) (acc : List Int), k <= N' -> a <= s.length -> s.length < a + k -> SetOk acc →
    iter (fun (v : (PSt × (List Int))) r => z2q N x2 nt v.1 v.2 (fun p set_ => (r (p, set_))) k0 k1) N' (pst s a o, acc) = match z9f s k a acc with | .ok t b => k1 (pst s b o) t | .bad e c => k0 (e, ((c : Int), ()))
  | 0, N', a, acc, h1, h2, h3, h4 => by omega
  | k + 1, N', a, acc, h1, h2, h3, h4 => by
    obtain ⟨M, rfl⟩ : ∃ M, N' = M + 1 := ⟨N' - 1, by omega⟩
    simp only [iter, z9f]
    unfold z2q
    dsimp only
    rw [show (93 : Int) = ((93 : Nat) : Int) from rfl, zhn N o 93 h2 hs]
    cases hb : isB s a 93 with
    | true => rfl
    | false =>
      simp only [Option.bind_some, Bool.not_false, cond_true, cond_false, Bool.false_eq_true, if_false]
      rw [(zo7 N o h2 hs hN).1, (zo7 N o h2 hs hN).2]
      cases hi : zer s a with
      | bad e c => rfl
      | ok t c =>
        have hc := zw (z6p s a) hi
        simp only [okP, zb7, orP, Option.bind_some, PR.next, id]
        rw [zz9 (by omega) h4 (zcs hi)]
        simp only [Option.bind_some]
        exact zjq N o hs hN x2 nt k0 k1 k M c _ (by omega) hc.2 (by omega) (z10z h4 (zcs hi))

theorem zmi {s : List UInt8} {a b : Nat} (ha : a < s.length) (hb : gb s a = b) : zaq s a b = .ok () (a + 1) := by
  unfold zaq z83
  rw [if_pos ha]
  simp only [PR.next, hb, if_true]

theorem zlu (N : Nat) {s : List UInt8} {a : Nat} (o : Nat) (ha : a < s.length) (hb : gb s a = 91) (hs : s.length <= 256) (hN : 300 <= N) :
    z2p N (pst s a o) = okP s o id (zar s (a + 1)) /\ z2d N (pst s a o) = zb7 (zar s (a + 1)) := by
  unfold z2p z2d zar
  have q := zji N o 91 (Nat.le_of_lt ha) hs
  rw [zmi ha hb] at q
  rw [show (91 : Int) = ((91 : Nat) : Int) from rfl, q.1, q.2]
  simp only [okP, zb7, orP, Option.bind_some]
  rw [show (94 : Int) = ((94 : Nat) : Int) from rfl, zhn N o 94 (show a + 1 <= s.length by omega) hs]
  simp only [Option.bind_some]
  have e : (cond (isB s (a + 1) 94) (a + 1 + 1) (a + 1)) = (if isB s (a + 1) 94 = true then a + 1 + 1 else a + 1) := by cases isB s (a + 1) 94 <;> rfl
  rw [e]
  have hle : (if isB s (a + 1) 94 = true then a + 1 + 1 else a + 1) <= s.length := by
    split
    . rename_i h; simp [isB] at h; omega
    . omega
  generalize (if isB s (a + 1) 94 = true then a + 1 + 1 else a + 1) = a1 at hle
  rw [(zo7 N o hle hs hN).1, (zo7 N o hle hs hN).2]
  cases hi : zer s a1 with
  | bad e c => exact ⟨rfl, rfl⟩
  | ok t c =>
    have hc := zw (z6p s a1) hi
    simp only [okP, zb7, orP, Option.bind_some, PR.next, id]
    unfold z8d z65
    rw [zlj N o hs hN _ _ _ (s.length + 1) N c t (by omega) hc.2 (by omega) (zcs hi), zjq N o hs hN _ _ _ _ (s.length + 1) N c t (by omega) hc.2 (by omega) (zcs hi)]
    cases hm : z9f s (s.length + 1) c t with
    | bad e d => exact ⟨rfl, rfl⟩
    | ok acc d =>
      have hk := zmo _ _ (zcs hi) hm
      simp only
      cases isB s (a + 1) 94 with
      | true =>
        simp only [cond_true, if_true]
        rw [z111 (by omega) hk]
        exact ⟨rfl, rfl⟩
      | false => exact ⟨rfl, rfl⟩

theorem zry {v b : Nat} (hv : v <= 17) (hb : 48 <= b) (hb2 : b <= 57) :
    (if ((17 : Int) < (Go.IntKind.wrap Go.IntKind.i64 ((Go.IntKind.wrap Go.IntKind.i64 ((10 : Int) * (v : Int))) + (Go.IntKind.wrap Go.IntKind.i64 (Go.IntKind.wrap Go.IntKind.u8 ((b : Int) - (48 : Int))))))) then (17 : Int) else (Go.IntKind.wrap Go.IntKind.i64 ((Go.IntKind.wrap Go.IntKind.i64 ((10 : Int) * (v : Int))) + (Go.IntKind.wrap Go.IntKind.i64 (Go.IntKind.wrap Go.IntKind.u8 ((b : Int) - (48 : Int))))))) = ((min (10 * v + (b - 48)) 17 : Nat) : Int) := by
  rw [zsq (by omega) (by omega), z8s (x := (b : Int) - 48) (by unfold I64; omega), z8s (x := 10 * (v : Int)) (by unfold I64; omega), z8s (by unfold I64; omega)]
  split <;> omega

theorem zxt (N : Nat) {s : List UInt8} {a v : Nat} (fr : Int) (o : Nat) (hs : s.length <= 256) (hv : v <= 17) (h : a < s.length) (hd : zjx (gb s a) = true) (rec : PSt -> Int -> Option (Int × (PSt × Unit))) (k0 : PSt -> Int -> Option (Int × (PSt × Unit))) :
    z2i N fr (pst s a o) (v : Int) rec k0 = rec (pst s (a + 1) o) ((min (10 * v + (gb s a - 48)) 17 : Nat) : Int) := by
  unfold z2i z5c pst
  dsimp only
  have hd' : 48 <= gb s a /\ gb s a <= 57 := by simpa [zjx] using hd
  rw [decide_eq_true (show (a : Int) < (s.length : Int) by omega), zby h, zc1, zhk, hd]
  simp only [cond_true, Option.bind_some]
  rw [zen (by omega), zry hv hd'.1 hd'.2]

theorem zxr (N : Nat) {s : List UInt8} {a v : Nat} (fr : Int) (o : Nat) (hn : ¬ (a < s.length /\ zjx (gb s a) = true)) (rec : PSt -> Int -> Option (Int × (PSt × Unit))) (k0 : PSt -> Int -> Option (Int × (PSt × Unit))) :
    z2i N fr (pst s a o) (v : Int) rec k0 = k0 (pst s a o) (v : Int) := by
  unfold z2i z5c pst
  dsimp only
  rcases Nat.lt_or_ge a s.length with h | h
  . rw [decide_eq_true (show (a : Int) < (s.length : Int) by omega), zby h, zc1, zhk]
    have hd : zjx (gb s a) = false := by
      cases hd : zjx (gb s a) with
      | true => exact absurd ⟨h, hd⟩ hn
      | false => rfl
    rw [hd]
    rfl
  . rw [decide_eq_false (show ¬ (a : Int) < (s.length : Int) by omega)]
    rfl

theorem zne (N : Nat) {s : List UInt8} (fr : Int) (o : Nat) (hs : s.length <= 256) (k0 : PSt -> Int -> Option (Int × (PSt × Unit))) : ∀ (k N' a v : Nat), k <= N' -> a <= s.length -> s.length < a + k -> v <= 17 →
    iter (fun (v : (PSt × Int)) r => z2i N fr v.1 v.2 (fun p n => (r (p, n))) k0) N' (pst s a o, (v : Int)) = k0 (pst s (z8y s k a v).2 o) ((z8y s k a v).1 : Int)
  | 0, N', a, v, h1, h2, h3, h4 => by omega
  | k + 1, N', a, v, h1, h2, h3, h4 => by
    obtain ⟨M, rfl⟩ : ∃ M, N' = M + 1 := ⟨N' - 1, by omega⟩
    rw [iter]
    dsimp only
    by_cases hc : a < s.length /\ zjx (gb s a) = true
    . rw [zxt N fr o hs h4 hc.1 hc.2, zne N fr o hs k0 k M (a + 1) _ (by omega) (by omega) (by omega) (Nat.min_le_right _ _)]
      conv => rhs; rw [z8y, if_pos hc]
    . rw [zxr N fr o hc]
      conv => rhs; rw [z8y, if_neg hc]

theorem zv9 (N : Nat) {s : List UInt8} {a v : Nat} (fr : Int) (o : Nat) (hs : s.length <= 256) (hv : v <= 17) (h : a < s.length) (hd : zjx (gb s a) = true) (rec : PSt -> Int -> Option (Int × (Int × Unit))) (k0 : PSt -> Int -> Option (Int × (Int × Unit))) :
    z1k N fr (pst s a o) (v : Int) rec k0 = rec (pst s (a + 1) o) ((min (10 * v + (gb s a - 48)) 17 : Nat) : Int) := by
  unfold z1k z3r pst
  dsimp only
  have hd' : 48 <= gb s a /\ gb s a <= 57 := by simpa [zjx] using hd
  rw [decide_eq_true (show (a : Int) < (s.length : Int) by omega), zby h, zc1, zhk, hd]
  simp only [cond_true, Option.bind_some]
  rw [zen (by omega), zry hv hd'.1 hd'.2]

theorem zv8 (N : Nat) {s : List UInt8} {a v : Nat} (fr : Int) (o : Nat) (hn : ¬ (a < s.length /\ zjx (gb s a) = true)) (rec : PSt -> Int -> Option (Int × (Int × Unit))) (k0 : PSt -> Int -> Option (Int × (Int × Unit))) :
    z1k N fr (pst s a o) (v : Int) rec k0 = k0 (pst s a o) (v : Int) := by
  unfold z1k z3r pst
  dsimp only
  rcases Nat.lt_or_ge a s.length with h | h
  . rw [decide_eq_true (show (a : Int) < (s.length : Int) by omega), zby h, zc1, zhk]
    have hd : zjx (gb s a) = false := by
      cases hd : zjx (gb s a) with
      | true => exact absurd ⟨h, hd⟩ hn
      | false => rfl
    rw [hd]
    rfl
  . rw [decide_eq_false (show ¬ (a : Int) < (s.length : Int) by omega)]
    rfl

theorem zky (N : Nat) {s : List UInt8} (fr : Int) (o : Nat) (hs : s.length <= 256) (k0 : PSt -> Int -> Option (Int × (Int × Unit))) : ∀ (k N' a v : Nat), k <= N' -> a <= s.length -> s.length < a + k -> v <= 17 →
    iter (fun (v : (PSt × Int)) r => z1k N fr v.1 v.2 (fun p n => (r (p, n))) k0) N' (pst s a o, (v : Int)) = k0 (pst s (z8y s k a v).2 o) ((z8y s k a v).1 : Int)
  | 0, N', a, v, h1, h2, h3, h4 => by omega
  | k + 1, N', a, v, h1, h2, h3, h4 => by
    obtain ⟨M, rfl⟩ : ∃ M, N' = M + 1 := ⟨N' - 1, by omega⟩
    rw [iter]
    dsimp only
    by_cases hc : a < s.length /\ zjx (gb s a) = true
    . rw [zv9 N fr o hs h4 hc.1 hc.2, zky N fr o hs k0 k M (a + 1) _ (by omega) (by omega) (by omega) (Nat.min_le_right _ _)]
      conv => rhs; rw [z8y, if_pos hc]
    . rw [zv8 N fr o hc]
      conv => rhs; rw [z8y, if_neg hc]

theorem zxs (N : Nat) {s : List UInt8} {a : Nat} (o : Nat) (ha : a <= s.length) (hs : s.length <= 256) (hN : 300 <= N) :
    z33 N (pst s a o) = okP s o (fun v : Nat => (v : Int)) (zp6 s a) /\ z2z N (pst s a o) = zb7 (zp6 s a) := by
  unfold z33 z2z z7w z5g zp6
  rw [(zez N o ha).1, (zez N o ha).2]
  cases h : z83 s a with
  | bad e c => exact ⟨rfl, rfl⟩
  | ok x c =>
    obtain ⟨h1, rfl, rfl⟩ := z9j h
    simp only [okP, zb7, orP, Option.bind_some, PR.next, zhk]
    cases hd : zjx (gb s c) with
    | false => exact ⟨rfl, rfl⟩
    | true =>
      simp only [Bool.not_true, cond_false, if_true]
      unfold z7v zac z5f z8i
      rw [show (0 : Int) = ((0 : Nat) : Int) from rfl, zne N _ o hs _ (s.length + 1) N c 0 (by omega) ha (by omega) (by omega), zky N _ o hs _ (s.length + 1) N c 0 (by omega) ha (by omega) (by omega)]
      generalize hq : z8y s (s.length + 1) c 0 = q
      obtain ⟨v, b⟩ := q
      unfold z7u z7t z5e z5d
      simp only [pst]
      rw [zby h1, zc1]
      simp only [zen (show c <= 100000 by omega), cond_true, show (48 : Int) = ((48 : Nat) : Int) from rfl, eqI]
      by_cases h48 : gb s c = 48
      . rw [decide_eq_true h48]
        simp only [cond_true]
        by_cases hb : c + 1 < b
        . rw [decide_eq_true (show ((c + 1 : Nat) : Int) < (b : Int) by omega), if_pos ⟨h48, hb⟩]
          exact ⟨rfl, rfl⟩
        . rw [decide_eq_false (show ¬ ((c + 1 : Nat) : Int) < (b : Int) by omega), if_neg (fun h => hb h.2)]
          simp only [cond_false]
          by_cases hv : 16 < v
          . rw [decide_eq_true (show (16 : Int) < (v : Int) by omega), if_pos hv]
            exact ⟨rfl, rfl⟩
          . rw [decide_eq_false (show ¬ (16 : Int) < (v : Int) by omega), if_neg hv]
            exact ⟨rfl, rfl⟩
      . rw [decide_eq_false h48, if_neg (fun h => h48 h.1)]
        simp only [cond_false]
        by_cases hv : 16 < v
        . rw [decide_eq_true (show (16 : Int) < (v : Int) by omega), if_pos hv]
          exact ⟨rfl, rfl⟩
        . rw [decide_eq_false (show ¬ (16 : Int) < (v : Int) by omega), if_neg hv]
          exact ⟨rfl, rfl⟩

def lhF (x : Int × Int) : Int × (Int × Unit) := (x.1, (x.2, ()))

theorem z1ar (N : Nat) {s : List UInt8} {a : Nat} (o lo hi fr : Nat) (ha : a <= s.length) (hs : s.length <= 256) :
    z48 N (pst s a o) (lo : Int) (hi : Int) (fr : Int) ((zq N (pst s a o) (125 : Int)).bind fun y1 => some (((lo : Int), ((hi : Int), ())), (y1.2.1, ()))) = okP s o lhF (zs3 s lo hi fr a) ∧
    z36 N (pst s a o) (lo : Int) (hi : Int) (fr : Int) (fun p4 => some p4) (orP (z15 N (pst s a o) (125 : Int)) (fun z1 => some z1) ((zq N (pst s a o) (125 : Int)).bind fun y1 => none)) = zb7 (zs3 s lo hi fr a) := by
  unfold z48 z36 zs3
  have e : decide ((hi : Int) < (if ((1 : Int) > (lo : Int)) then (1 : Int) else (lo : Int))) = decide (hi < max lo 1) := by
    refine decide_eq_decide.2 ?_
    split <;> omega
  rw [e]
  by_cases h : hi < max lo 1
  . rw [decide_eq_true h, if_pos h]; exact ⟨rfl, rfl⟩
  . rw [decide_eq_false h, if_neg h]
    simp only [cond_false]
    have q := zji N o 125 ha hs
    rw [show (125 : Int) = ((125 : Nat) : Int) from rfl, q.1, q.2]
    cases zaq s a 125 with
    | bad e c => exact ⟨rfl, rfl⟩
    | ok x c => exact ⟨rfl, rfl⟩

theorem zsg (N : Nat) {s : List UInt8} {a : Nat} (o : Nat) (ha : a <= s.length) (hs : s.length <= 256) (hN : 300 <= N) :
    z39 N (pst s a o) = okP s o lhF (z8z s a) /\ z2x N (pst s a o) = zb7 (z8z s a) := by
  unfold z39 z2x z8z
  rw [(zxs N o ha hs hN).1, (zxs N o ha hs hN).2]
  cases h : zp6 s a with
  | bad e c => exact ⟨rfl, rfl⟩
  | ok lo c =>
    have hc := zw (zdv s a) h
    simp only [okP, zb7, orP, Option.bind_some, PR.next]
    unfold z63 z4c
    rw [show (44 : Int) = ((44 : Nat) : Int) from rfl, zhn N o 44 hc.2 hs]
    simp only [Option.bind_some]
    cases h1 : isB s c 44 with
    | false => exact z1ar N o lo lo a hc.2 hs
    | true =>
      have hlt : c + 1 <= s.length := by simp [isB] at h1; omega
      simp only [cond_true, if_true]
      have q := zhn N o 125 hlt hs
      rw [show (125 : Int) = ((125 : Nat) : Int) from rfl, q]
      simp only [Option.bind_some]
      cases h2 : isB s (c + 1) 125 with
      | true => exact ⟨rfl, rfl⟩
      | false =>
        simp only [cond_false, Bool.false_eq_true, if_false]
        rw [(zxs N o hlt hs hN).1, (zxs N o hlt hs hN).2]
        cases h3 : zp6 s (c + 1) with
        | bad e d => exact ⟨rfl, rfl⟩
        | ok hi d =>
          have hd := zw (zdv s (c + 1)) h3
          simp only [okP, zb7, orP, Option.bind_some, PR.next]
          exact z1ar N o lo hi (c + 1) hd.2 hs

end
end Go.Proofs.YtbfmhambfonpcaaDoorLg

set_option linter.all false
set_option maxRecDepth 100000
namespace Go.Proofs.YtbfmhambfonpcaaDoorLg
noncomputable section
open Go Go.Lift Go.Proofs.YtbfmhambfonpcaaDoorPx

theorem zd0 {x : Int} (h : -9223372036854775808 <= x) (h2 : x <= 9223372036854775807) : (Lit.int .i64 x).wf = true := by
  simp [Lit.wf, IntKind.min, IntKind.max, IntKind.signed, IntKind.bits]; omega

theorem z13y {x : Int} (h : U64 x) : (Lit.int .u64 x).wf = true := by
  unfold U64 at h
  simp [Lit.wf, IntKind.min, IntKind.max, IntKind.signed, IntKind.bits]; omega

theorem zr6 {st : List Int} (h : SetOk st) : st.length = 4 /\ ∀ x ∈ st, (Lit.int .u64 x).wf = true := by
  obtain ⟨a, b, c, d, rfl, ha, hb, hc, hd⟩ := h
  refine ⟨rfl, fun x hx => ?_⟩
  simp only [List.mem_cons, List.not_mem_nil, or_false] at hx
  rcases hx with rfl | rfl | rfl | rfl <;> exact z13y (by assumption)

theorem z4i : ∀ xs ys : List Tree, z27 (xs ++ ys) = z27 xs + z27 ys
  | [], ys => by simp [z27]
  | x :: xs, ys => by simp [z27, z4i xs ys, Nat.add_assoc]

theorem z41 (t : Tree) : z27 [t] = z2s t := by simp [z27]

theorem zl6 (k : Int) (t : Tree) : z27 (zci k t) <= z2s t := by
  unfold zci
  cases z7n t == k with
  | true =>
    obtain ⟨kk, st, ks, lo, hi⟩ := t
    show z27 ks <= _
    rw [z2s]; omega
  | false => rw [cond_false, z41]; exact Nat.le_refl _

theorem zek (k : Int) : ∀ ps : List Tree, z27 (z52 k ps) <= z27 ps
  | [] => Nat.le_refl _
  | p :: ps => by
    have := zek k ps
    have h2 := zl6 k p
    show z27 (zci k p ++ z52 k ps) <= z27 (p :: ps)
    rw [z4i, z27]
    omega

theorem zli (k : Int) (ps : List Tree) : z2s (z57 k ps) <= z27 ps + 1 := by
  have h := zek k ps
  unfold z57
  split
  . rename_i x hx
    rw [hx, z41] at h
    omega
  . rw [z2s]; omega

theorem zy0 (k : Int) (t : Tree) : z2s (z57 k [t]) <= z2s t := by
  have e : z52 k [t] = zci k t := by simp [z52]
  have h := zl6 k t
  unfold z57
  rw [e]
  split
  . rename_i x hx
    rw [hx, z41] at h
    exact h
  . unfold zci
    cases hk : z7n t == k with
    | true =>
      obtain ⟨kk, st, ks, lo, hi⟩ := t
      show z2s (.mk k [0, 0, 0, 0] ks 0 0) <= _
      rw [z2s, z2s]
      exact Nat.le_refl _
    | false =>
      rename_i hne
      exact absurd (by unfold zci; rw [hk]; rfl) (hne t)

theorem z10x (k : Int) {t : Tree} (h : WfN t) : ∀ x ∈ zci k t, WfN x := by
  unfold zci
  cases z7n t == k with
  | true =>
    obtain ⟨kk, st, ks, lo, hi⟩ := t
    rw [WfN] at h
    exact (zgp ks).1 h.2.2.1.2
  | false =>
    intro x hx
    simp at hx
    subst hx; exact h

theorem zw6 (k : Int) : ∀ {ps : List Tree}, (∀ x ∈ ps, WfN x) -> ∀ x ∈ z52 k ps, WfN x
  | [], _, x, hx => by cases hx
  | p :: ps, h, x, hx => by
    have hx : x ∈ zci k p ++ z52 k ps := hx
    rcases List.mem_append.1 hx with hx | hx
    . exact z10x k (h p (by simp)) x hx
    . exact zw6 k (fun y hy => h y (by simp [hy])) x hx

theorem z_wf : ([0, 0, 0, 0] : List Int).length = 4 /\ ∀ x ∈ ([0, 0, 0, 0] : List Int), (Lit.int .u64 x).wf = true := zr6 zao

theorem zvt {k : Int} (hk : k = 2 \/ k = 3) {ps : List Tree} (h : ∀ x ∈ ps, WfN x) (hn : z27 ps <= 1000000) : WfN (z57 k ps) := by
  have hf := zw6 k h
  have hl := Nat.le_trans (z4h (z52 k ps)) (zek k ps)
  unfold z57
  split
  . rename_i x hx
    exact hf x (by rw [hx]; simp)
  . rw [WfN]
    refine ⟨zd0 (by omega) (by omega), z_wf, ⟨Nat.le_trans hl (Nat.le_trans hn (by unfold maxLen; omega)), (zgp _).2 hf⟩, zd0 (by omega) (by omega), zd0 (by omega) (by omega)⟩

theorem zrw {st : List Int} (h : SetOk st) : WfN (zx3 st) := by
  unfold zx3
  rw [WfN]
  exact ⟨zd0 (by omega) (by omega), zr6 h, ⟨Nat.zero_le _, by rw [zx0]; trivial⟩, zd0 (by omega) (by omega), zd0 (by omega) (by omega)⟩

theorem z146 {t : Tree} {lo hi : Int} (h : WfN t) (h1 : -1 <= lo /\ lo <= 100) (h2 : -1 <= hi /\ hi <= 100) : WfN (zpf t lo hi) := by
  unfold zpf
  rw [WfN]
  exact ⟨zd0 (by omega) (by omega), zr6 z4_ok, ⟨by unfold maxLen; simp, by rw [zx0, zx0]; exact ⟨h, trivial⟩⟩, zd0 (by omega) (by omega), zd0 (by omega) (by omega)⟩

def TOk (a b : Nat) (c : Nat) (t : Tree) : Prop := WfN t /\ z2s t + c <= 3 * (b - a) + 1

def TRes (a c : Nat) (r : PR Tree) : Prop := ∀ t b, r = .ok t b -> TOk a b c t

theorem TRes.bad {a c : Nat} {e : Int} {x : Nat} : TRes a c (.bad e x) := fun t b h => by cases h

theorem TRes.next {α : Type} {a c : Nat} {r : PR α} {f : α -> Nat -> PR Tree} (h : ∀ x b, r = .ok x b -> TRes a c (f x b)) : TRes a c (r.next f) := by
  cases r with
  | bad e x => exact TRes.bad
  | ok x b => exact h x b rfl

theorem zy8 {s : List UInt8} {a : Nat} {t : List Int} {b : Nat} (h : zar s a = .ok t b) : SetOk t := by
  unfold zar at h
  cases hi : zer s (if isB s a 94 = true then a + 1 else a) with
  | bad e c => rw [hi] at h; cases h
  | ok u c =>
    rw [hi] at h
    simp only [PR.next] at h
    cases hm : z9f s (s.length + 1) c u with
    | bad e d => rw [hm] at h; cases h
    | ok v d =>
      rw [hm] at h
      simp only at h
      have hk := zmo _ _ (zcs hi) hm
      cases h
      split
      . exact z16c hk
      . exact hk

theorem zzc {s : List UInt8} {a v b : Nat} (h : zp6 s a = .ok v b) : v <= 16 := by
  unfold zp6 at h
  cases hn : z83 s a with
  | bad e c => rw [hn] at h; cases h
  | ok y c =>
    rw [hn] at h
    simp only [PR.next] at h
    split at h
    . split at h
      . cases h
      split at h
      . cases h
      . cases h; omega
    . cases h

theorem zzo {s : List UInt8} {lo hi fr a : Nat} {x : Int × Int} {b : Nat} (hl : lo <= 16) (hh : hi <= 16) (h : zs3 s lo hi fr a = .ok x b) : x = ((lo : Int), (hi : Int)) /\ max lo 1 <= hi := by
  unfold zs3 at h
  split at h
  . cases h
  . cases hn : zaq s a 125 with
    | bad e c => rw [hn] at h; cases h
    | ok y c => rw [hn] at h; cases h; exact ⟨rfl, by omega⟩

theorem zox {s : List UInt8} {a : Nat} {x : Int × Int} {b : Nat} (h : z8z s a = .ok x b) : 0 <= x.1 /\ x.1 <= 16 /\ (x.2 = -1 \/ (1 <= x.2 /\ x.1 <= x.2 /\ x.2 <= 16)) := by
  unfold z8z at h
  cases hn : zp6 s a with
  | bad e c => rw [hn] at h; cases h
  | ok lo c =>
    have hl := zzc hn
    rw [hn] at h
    simp only [PR.next] at h
    split at h
    . split at h
      . cases h; exact ⟨by simp, by simp; omega, .inl rfl⟩
      . cases hm : zp6 s (c + 1) with
        | bad e d => rw [hm] at h; cases h
        | ok hi d =>
          have hh := zzc hm
          rw [hm] at h
          obtain ⟨rfl, h3⟩ := zzo hl hh h
          exact ⟨by simp, by simp; omega, .inr ⟨by simp; omega, by simp; omega, by simp; omega⟩⟩
    . obtain ⟨rfl, h3⟩ := zzo hl hl h
      exact ⟨by simp, by simp; omega, .inr ⟨by simp; omega, by simp, by simp; omega⟩⟩

abbrev zx1 (s : List UInt8) (sub : Option (Nat -> PR Tree)) : Prop := ∀ f, sub = some f -> ∀ b, b <= s.length -> Ahead s b (f b)
abbrev z13f (s : List UInt8) (sub : Option (Nat -> PR Tree)) : Prop := ∀ f, sub = some f -> ∀ b, b <= s.length -> TRes b 0 (f b)

theorem zgc (st : List Int) : z2s (zx3 st) = 1 := by unfold zx3; rw [z2s, z27]
theorem zva (t : Tree) (lo hi : Int) : z2s (zpf t lo hi) = 1 + z2s t := by unfold zpf; rw [z2s, z41]

theorem zwx {sub : Option (Nat -> PR Tree)} {s : List UInt8} {a : Nat} (hA : zx1 s sub) (hT : z13f s sub) (ha : a < s.length) : TRes a 2 (zcn sub s a) := by
  unfold zcn
  split
  . cases sub with
    | none => exact TRes.bad
    | some f =>
      refine TRes.next fun t a1 h1 => TRes.next fun _ a2 h2 => ?_
      have g1 := zw (hA f rfl (a + 1) (by omega)) h1
      have g2 := zw (zh3 s a1 41) h2
      have g3 := hT f rfl (a + 1) (by omega) t a1 h1
      intro t' b e
      cases e
      exact ⟨g3.1, by have := g3.2; omega⟩
  split
  . intro t b e
    cases e
    exact ⟨zrw (zv6 256 0 zao (by omega)), by rw [zgc]; omega⟩
  split
  . refine TRes.next fun st a1 h1 => ?_
    have g1 := zw (zk0 (a + 1)) h1
    intro t b e
    cases e
    exact ⟨zrw (zy8 h1), by rw [zgc]; omega⟩
  split
  . refine TRes.next fun st a1 h1 => ?_
    have g1 := zw (zjw (Nat.le_of_lt ha)) h1
    intro t b e
    cases e
    exact ⟨zrw (zzp h1).1, by rw [zgc]; omega⟩
  split
  . exact TRes.bad
  . intro t b e
    cases e
    exact ⟨zrw (zde (zob s a)), by rw [zgc]; omega⟩

theorem zgy {sub : Option (Nat -> PR Tree)} {s : List UInt8} {a : Nat} (hA : zx1 s sub) (hT : z13f s sub) (ha : a < s.length) : TRes a 2 (zb4 sub s a) := by
  refine TRes.next fun t a1 h1 => ?_
  have g1 := zw (zc4 hA ha) h1
  have g2 := zwx hA hT ha t a1 h1
  have hr : ∀ lo hi b, -1 <= lo /\ lo <= 100 -> -1 <= hi /\ hi <= 100 -> a1 < b -> TOk a b 2 (zpf t lo hi) := fun lo hi b h1 h2 hb => ⟨z146 g2.1 h1 h2, by rw [zva]; have := g2.2; omega⟩
  split
  . split
    . intro t' b e; cases e; exact hr _ _ _ (by omega) (by omega) (by omega)
    split
    . intro t' b e; cases e; exact hr _ _ _ (by omega) (by omega) (by omega)
    split
    . intro t' b e; cases e; exact hr _ _ _ (by omega) (by omega) (by omega)
    split
    . refine TRes.next fun lh a2 h2 => ?_
      have g3 := zw (zi5 (show a1 + 1 <= s.length by omega)) h2
      have g4 := zox h2
      intro t' b e; cases e
      exact hr _ _ _ (by omega) (by omega) (by omega)
    . intro t' b e; cases e; exact g2
  . intro t' b e; cases e; exact g2

theorem zcw {sub : Option (Nat -> PR Tree)} {s : List UInt8} (hs : s.length <= 256) (hA : zx1 s sub) (hT : z13f s sub) (a0 : Nat) : ∀ (k a : Nat) (ps : List Tree), a <= s.length -> a0 <= a -> (∀ x ∈ ps, WfN x) -> z27 ps <= 3 * (a - a0) -> TRes a0 0 (zcm sub s k a ps)
  | 0, a, ps, h1, h2, h3, h4 => TRes.bad
  | k + 1, a, ps, h1, h2, h3, h4 => by
    unfold zcm
    split
    . intro t b e
      cases e
      have := zli 2 ps
      exact ⟨zvt (.inl rfl) h3 (by omega), by omega⟩
    . rename_i hc
      have hlt : a < s.length := by simp [zbl] at hc; exact hc.1
      refine TRes.next fun t a1 e1 => ?_
      have g1 := zw (z8x hA hlt) e1
      have g2 := zgy hA hT hlt t a1 e1
      refine zcw hs hA hT a0 k a1 _ g1.2 (by omega) (fun x hx => ?_) ?_
      . rcases List.mem_append.1 hx with hx | hx
        . exact h3 x hx
        . simp at hx; subst hx; exact g2.1
      . rw [z4i, z41]
        have := g2.2
        omega

theorem zp2 {sub : Option (Nat -> PR Tree)} {s : List UInt8} (hs : s.length <= 256) (hA : zx1 s sub) (hT : z13f s sub) (a0 : Nat) : ∀ (k a : Nat) (ps : List Tree), a <= s.length -> a0 <= a -> (∀ x ∈ ps, WfN x) -> ((∃ t, ps = [t] /\ z2s t <= 3 * (a - a0) + 1) \/ z27 ps + 1 <= 3 * (a - a0)) -> TRes a0 0 (zco sub s k a ps)
  | 0, a, ps, h1, h2, h3, h4 => TRes.bad
  | k + 1, a, ps, h1, h2, h3, h4 => by
    have hn : z27 ps <= 3 * (a - a0) + 1 := by
      rcases h4 with ⟨t, rfl, h⟩ | h
      . rw [z41]; exact h
      . omega
    unfold zco
    split
    . rename_i hc
      have hlt : a < s.length := by simp [isB] at hc; exact hc.1
      refine TRes.next fun t a1 e1 => ?_
      have g1 := zw (z3p hA _ (a + 1) [] (by omega)) e1
      have g2 := zcw hs hA hT (a + 1) _ (a + 1) [] (by omega) (Nat.le_refl _) (fun x hx => by cases hx) (by simp [z27]) t a1 e1
      refine zp2 hs hA hT a0 k a1 _ g1.2 (by omega) (fun x hx => ?_) (.inr ?_)
      . rcases List.mem_append.1 hx with hx | hx
        . exact h3 x hx
        . simp at hx; subst hx; exact g2.1
      . rw [z4i, z41]
        have := g2.2
        omega
    . intro t b e
      cases e
      refine ⟨zvt (.inr rfl) h3 (by omega), ?_⟩
      rcases h4 with ⟨t, rfl, h⟩ | h
      . have := zy0 3 t; omega
      . have := zli 3 ps; omega

theorem zsj {s : List UInt8} (hs : s.length <= 256) : ∀ (d a : Nat), a <= s.length -> TRes a 0 (zax s d a) := by
  have key : ∀ (sub : Option (Nat -> PR Tree)), zx1 s sub -> z13f s sub -> ∀ a, a <= s.length -> TRes a 0 ((zcm sub s (s.length + 1) a []).next fun t a1 => zco sub s (s.length + 1) a1 [t]) := by
    intro sub hA hT a ha
    refine TRes.next fun t a1 e1 => ?_
    have g1 := zw (z3p hA _ a [] ha) e1
    have g2 := zcw hs hA hT a _ a [] ha (Nat.le_refl _) (fun x hx => by cases hx) (by simp [z27]) t a1 e1
    exact zp2 hs hA hT a _ a1 _ g1.2 g1.1 (fun x hx => by simp at hx; subst hx; exact g2.1) (.inl ⟨t, rfl, g2.2⟩)
  intro d
  induction d with
  | zero => intro a ha; unfold zax; exact key none (fun f h => by cases h) (fun f h => by cases h) a ha
  | succ d ih => intro a ha; unfold zax; exact key _ (fun f h => by cases h; exact z9i s d) (fun f h => by cases h; exact ih) a ha

end
end Go.Proofs.YtbfmhambfonpcaaDoorLg

set_option linter.all false
set_option maxRecDepth 100000
namespace Go.Proofs.YtbfmhambfonpcaaDoorLg
noncomputable section
open Go Go.Lift Go.Proofs.YtbfmhambfonpcaaDoorPx

def z9t (s : List UInt8) : Nat -> Option (Nat -> PR Tree)
  | 0 => none
  | d + 1 => some (zax s d)

theorem z58 (s : List UInt8) (d : Nat) : zx1 s (z9t s d) := by
  cases d with
  | zero => intro f h; cases h
  | succ d => intro f h; cases h; exact z9i s d

theorem zks {s : List UInt8} (hs : s.length <= 256) (d : Nat) : z13f s (z9t s d) := by
  cases d with
  | zero => intro f h; cases h
  | succ d => intro f h; cases h; exact zsj hs d

theorem ze7 (s : List UInt8) (d a : Nat) : zax s d a = (zcm (z9t s d) s (s.length + 1) a []).next fun t a1 => zco (z9t s d) s (s.length + 1) a1 [t] := by
  cases d <;> (rw [zax]; rfl)

def zsn (s : List UInt8) (d : Nat) (self : PSt -> Option (NodT.den × (PSt × Unit))) : Prop := ∀ d', d = d' + 1 -> ∀ a, a <= s.length -> self (pst s a (16 - d')) = okP s (16 - d') unN (zax s d' a)
def z134 (s : List UInt8) (d : Nat) (self : PSt -> Option (Int × (Int × Unit))) : Prop := ∀ d', d = d' + 1 -> ∀ a, a <= s.length -> self (pst s a (16 - d')) = zb7 (zax s d' a)

def zlc (sub : Option (Nat -> PR Tree)) (s : List UInt8) (a : Nat) : PR Tree := match sub with
    | none => .bad 3 a
    | some f => (f (a + 1)).next fun t a1 => (zaq s a1 41).next fun _ a2 => .ok t a2

theorem zw1 (N : Nat) {s : List UInt8} {a d : Nat} (hd : d <= 16) (ha : a < s.length) (hb : gb s a = 40) (hs : s.length <= 256) (self : PSt -> Option (NodT.den × (PSt × Unit))) (hself : zsn s d self) :
    z3m N self (pst s a (16 - d)) = okP s (16 - d) unN (zlc (z9t s d) s a) := by
  unfold z3m z6e
  simp only [pst]
  rw [show (16 : Int) = ((16 : Nat) : Int) from rfl, eqI]
  cases d with
  | zero => rfl
  | succ d =>
    rw [decide_eq_false (by omega)]
    simp only [cond_false]
    rw [zen (by omega), show 16 - (d + 1) + 1 = 16 - d by omega]
    have q := zji N (16 - d) 40 (Nat.le_of_lt ha) hs
    rw [zmi ha hb] at q
    unfold pst at q
    rw [show (40 : Int) = ((40 : Nat) : Int) from rfl, q.1]
    simp only [okP, Option.bind_some]
    rw [hself d rfl (a + 1) (by omega)]
    show _ = okP s (16 - (d + 1)) unN ((zax s d (a + 1)).next fun t a1 => (zaq s a1 41).next fun _ a2 => .ok t a2)
    cases h : zax s d (a + 1) with
    | bad e c => rfl
    | ok t c =>
      have hc := zw (z9i s d (a + 1) (by omega)) h
      simp only [okP, Option.bind_some, PR.next]
      rw [show (41 : Int) = ((41 : Nat) : Int) from rfl, (zji N (16 - d) 41 hc.2 hs).1]
      cases zaq s c 41 with
      | bad e b => rfl
      | ok u b =>
        simp only [okP, Option.bind_some, pst]
        have e : IntKind.wrap .i64 (((16 - d : Nat) : Int) - 1) = ((16 - (d + 1) : Nat) : Int) := by
          rw [z8s (by unfold I64; omega)]; omega
        rw [e]

theorem z12h (N : Nat) {s : List UInt8} {a d : Nat} (hd : d <= 16) (ha : a < s.length) (hb : gb s a = 40) (hs : s.length <= 256) (self : PSt -> Option (Int × (Int × Unit))) (hself : z134 s d self) (hok : zsn s d (ze N)) :
    z38 N self (pst s a (16 - d)) = zb7 (zlc (z9t s d) s a) := by
  unfold z38 z4o
  simp only [pst]
  rw [show (16 : Int) = ((16 : Nat) : Int) from rfl, eqI]
  cases d with
  | zero => rfl
  | succ d =>
    rw [decide_eq_false (by omega)]
    simp only [cond_false]
    rw [zen (by omega), show 16 - (d + 1) + 1 = 16 - d by omega]
    have q := zji N (16 - d) 40 (Nat.le_of_lt ha) hs
    rw [zmi ha hb] at q
    unfold pst at q
    rw [show (40 : Int) = ((40 : Nat) : Int) from rfl, q.1, q.2]
    simp only [okP, zb7, orP, Option.bind_some]
    rw [hself d rfl (a + 1) (by omega), hok d rfl (a + 1) (by omega)]
    show _ = zb7 ((zax s d (a + 1)).next fun t a1 => (zaq s a1 41).next fun _ a2 => .ok t a2)
    cases h : zax s d (a + 1) with
    | bad e c => rfl
    | ok t c =>
      have hc := zw (z9i s d (a + 1) (by omega)) h
      simp only [okP, zb7, orP, Option.bind_some, PR.next]
      have q := zji N (16 - d) 41 hc.2 hs
      rw [show (41 : Int) = ((41 : Nat) : Int) from rfl, q.1, q.2]
      cases zaq s c 41 with
      | bad e b => rfl
      | ok u b => rfl

theorem zza {N : Nat} (hN : 257 < N) : z2a N (0 : Int) (255 : Int) = some (ofS 256 0 z4) := by
  rw [show (0 : Int) = ((0 : Nat) : Int) from rfl, show (255 : Int) = ((255 : Nat) : Int) from rfl, zxq N (by omega) (by omega) hN]; rfl

theorem zzv (N : Nat) {s : List UInt8} {a d : Nat} (hd : d <= 16) (ha : a < s.length) (hs : s.length <= 256) (hN : 300 <= N) (self : PSt -> Option (NodT.den × (PSt × Unit))) (hself : zsn s d self) :
    z3z N self (pst s a (16 - d)) = okP s (16 - d) unN (zcn (z9t s d) s a) := by
  have hl := zob s a
  unfold z3z zcn
  simp only [pst]
  rw [zby ha, zc1]
  simp only [cond_true, show (40 : Int) = ((40 : Nat) : Int) from rfl, show (46 : Int) = ((46 : Nat) : Int) from rfl, show (91 : Int) = ((91 : Nat) : Int) from rfl, show (92 : Int) = ((92 : Nat) : Int) from rfl, eqI]
  by_cases e1 : gb s a = 40
  . rw [decide_eq_true e1, if_pos e1]
    simp only [cond_true]
    have q := zw1 N hd ha e1 hs self hself
    unfold pst at q
    rw [q]
    show _ = okP s (16 - d) unN (zlc (z9t s d) s a)
    cases zlc (z9t s d) s a <;> rfl
  rw [decide_eq_false e1, if_neg e1]
  simp only [cond_false]
  by_cases e2 : gb s a = 46
  . rw [decide_eq_true e2, if_pos e2]
    simp only [cond_true]
    rw [zza (by omega), zen (by omega)]
    rfl
  rw [decide_eq_false e2, if_neg e2]
  simp only [cond_false]
  by_cases e3 : gb s a = 91
  . rw [decide_eq_true e3, if_pos e3]
    simp only [cond_true]
    have q := (zlu N (16 - d) ha e3 hs hN).1
    unfold pst at q
    rw [q]
    cases zar s (a + 1) <;> rfl
  rw [decide_eq_false e3, if_neg e3]
  simp only [cond_false]
  by_cases e4 : gb s a = 92
  . rw [decide_eq_true e4, if_pos e4]
    simp only [cond_true]
    have q := (z12j N (16 - d) ha e4 hs hN).1
    unfold pst at q
    rw [q]
    cases zpq s a <;> rfl
  rw [decide_eq_false e4, if_neg e4]
  simp only [cond_false]
  unfold z7c
  rw [zz3 hl]
  cases specials.contains (gb s a) with
  | true => rfl
  | false =>
    simp only [cond_false, Bool.false_eq_true, if_false]
    rw [zdu hl (by omega), zen (by omega)]
    rfl

theorem z1b0 (N : Nat) {s : List UInt8} {a d : Nat} (hd : d <= 16) (ha : a < s.length) (hs : s.length <= 256) (hN : 300 <= N) (self : PSt -> Option (Int × (Int × Unit))) (hself : z134 s d self) (hok : zsn s d (ze N)) :
    z3g N self (pst s a (16 - d)) = zb7 (zcn (z9t s d) s a) := by
  have hl := zob s a
  unfold z3g zcn
  simp only [pst]
  rw [zby ha, zc1]
  simp only [cond_true, show (40 : Int) = ((40 : Nat) : Int) from rfl, show (46 : Int) = ((46 : Nat) : Int) from rfl, show (91 : Int) = ((91 : Nat) : Int) from rfl, show (92 : Int) = ((92 : Nat) : Int) from rfl, eqI]
  by_cases e1 : gb s a = 40
  . rw [decide_eq_true e1, if_pos e1]
    simp only [cond_true]
    have q := z12h N hd ha e1 hs self hself hok
    have q2 := zw1 N hd ha e1 hs _ hok
    unfold pst at q q2
    rw [q, q2]
    show _ = zb7 (zlc (z9t s d) s a)
    cases zlc (z9t s d) s a <;> rfl
  rw [decide_eq_false e1, if_neg e1]
  simp only [cond_false]
  by_cases e2 : gb s a = 46
  . rw [decide_eq_true e2, if_pos e2]
    simp only [cond_true]
    rw [zza (by omega)]
    rfl
  rw [decide_eq_false e2, if_neg e2]
  simp only [cond_false]
  by_cases e3 : gb s a = 91
  . rw [decide_eq_true e3, if_pos e3]
    simp only [cond_true]
    have q := zlu N (16 - d) ha e3 hs hN
    unfold pst at q
    rw [q.1, q.2]
    cases zar s (a + 1) <;> rfl
  rw [decide_eq_false e3, if_neg e3]
  simp only [cond_false]
  by_cases e4 : gb s a = 92
  . rw [decide_eq_true e4, if_pos e4]
    simp only [cond_true]
    have q := z12j N (16 - d) ha e4 hs hN
    unfold pst at q
    rw [q.1, q.2]
    cases zpq s a <;> rfl
  rw [decide_eq_false e4, if_neg e4]
  simp only [cond_false]
  unfold z51
  rw [zz3 hl]
  cases specials.contains (gb s a) with
  | true => rfl
  | false =>
    simp only [cond_false, Bool.false_eq_true, if_false]
    rw [zdu hl (by omega)]
    rfl

theorem z1an (t : Tree) : List.map Go.Lift.foN ([unN t] : List NodT.den) = [t] := by
  rw [List.map_cons, zw5, List.map_nil]

theorem zus (N : Nat) {s : List UInt8} {a d : Nat} (hd : d <= 16) (ha : a < s.length) (hs : s.length <= 256) (hN : 300 <= N) (self : PSt -> Option (NodT.den × (PSt × Unit))) (hself : zsn s d self) :
    z26 N self (pst s a (16 - d)) = okP s (16 - d) unN (zb4 (z9t s d) s a) := by
  unfold z26 zb4
  rw [zzv N hd ha hs hN self hself]
  cases h : zcn (z9t s d) s a with
  | bad e c => rfl
  | ok t c =>
    have hc := zw (zc4 (z58 s d) ha) h
    simp only [okP, Option.bind_some, PR.next, pst, eqI]
    by_cases hlt : c < s.length
    . rw [decide_eq_false (by omega), if_pos hlt, zby hlt, zc1]
      simp only [cond_false, cond_true]
      unfold z6c
      simp only [show (43 : Int) = ((43 : Nat) : Int) from rfl, show (42 : Int) = ((42 : Nat) : Int) from rfl, show (63 : Int) = ((63 : Nat) : Int) from rfl, show (123 : Int) = ((123 : Nat) : Int) from rfl, eqI]
      rw [zen (by omega), z1an]
      by_cases e1 : gb s c = 43
      . rw [decide_eq_true e1, if_pos e1]; rfl
      rw [decide_eq_false e1, if_neg e1]
      by_cases e2 : gb s c = 42
      . rw [decide_eq_true e2, if_pos e2]; rfl
      rw [decide_eq_false e2, if_neg e2]
      by_cases e3 : gb s c = 63
      . rw [decide_eq_true e3, if_pos e3]; rfl
      rw [decide_eq_false e3, if_neg e3]
      by_cases e4 : gb s c = 123
      . rw [decide_eq_true e4, if_pos e4]
        simp only [cond_true, cond_false]
        have q := (zsg N (16 - d) (show c + 1 <= s.length by omega) hs hN).1
        unfold pst at q
        rw [q]
        cases z8z s (c + 1) <;> rfl
      . rw [decide_eq_false e4, if_neg e4]; rfl
    . rw [decide_eq_true (by omega), if_neg hlt]; rfl

theorem z10w (N : Nat) {s : List UInt8} {a d : Nat} (hd : d <= 16) (ha : a < s.length) (hs : s.length <= 256) (hN : 300 <= N) (self : PSt -> Option (Int × (Int × Unit))) (hself : z134 s d self) (hok : zsn s d (ze N)) :
    z28 N self (pst s a (16 - d)) = zb7 (zb4 (z9t s d) s a) := by
  unfold z28 zb4
  rw [z1b0 N hd ha hs hN self hself hok, zzv N hd ha hs hN _ hok]
  cases h : zcn (z9t s d) s a with
  | bad e c => rfl
  | ok t c =>
    have hc := zw (zc4 (z58 s d) ha) h
    simp only [okP, zb7, orP, Option.bind_some, PR.next, pst, eqI]
    by_cases hlt : c < s.length
    . rw [decide_eq_false (by omega), if_pos hlt, zby hlt, zc1]
      simp only [cond_false, cond_true]
      unfold z4m
      simp only [show (43 : Int) = ((43 : Nat) : Int) from rfl, show (42 : Int) = ((42 : Nat) : Int) from rfl, show (63 : Int) = ((63 : Nat) : Int) from rfl, show (123 : Int) = ((123 : Nat) : Int) from rfl, eqI]
      rw [zen (by omega)]
      by_cases e1 : gb s c = 43
      . rw [decide_eq_true e1, if_pos e1]; rfl
      rw [decide_eq_false e1, if_neg e1]
      by_cases e2 : gb s c = 42
      . rw [decide_eq_true e2, if_pos e2]; rfl
      rw [decide_eq_false e2, if_neg e2]
      by_cases e3 : gb s c = 63
      . rw [decide_eq_true e3, if_pos e3]; rfl
      rw [decide_eq_false e3, if_neg e3]
      by_cases e4 : gb s c = 123
      . rw [decide_eq_true e4, if_pos e4]
        simp only [cond_true, cond_false]
        have q := zsg N (16 - d) (show c + 1 <= s.length by omega) hs hN
        unfold pst at q
        rw [q.1, q.2]
        cases z8z s (c + 1) <;> rfl
      . rw [decide_eq_false e4, if_neg e4]; rfl
    . rw [decide_eq_true (by omega), if_neg hlt]; rfl

theorem room {n : Nat} (h : n <= 10000) : decide (((n + 1) * 80) <= 70368744177664) = true := decide_eq_true (by omega)

theorem zya (N : Nat) (self : PSt -> Option (NodT.den × (PSt × Unit))) (x2 : NodT.den) (s : List UInt8) (a o : Nat) (L : List NodT.den) (rec : PSt -> List NodT.den -> Option (NodT.den × (PSt × Unit))) (k0 : PSt -> List NodT.den -> Option (NodT.den × (PSt × Unit))) :
    z44 N self x2 (pst s a o) L rec k0 = cond (zbl s a) (k0 (pst s a o) L) ((z26 N self (pst s a o)).bind fun y => cond (decide (((L.length + 1) * 80) <= 70368744177664)) (rec y.2.1 (L ++ [y.1])) none) := by
  unfold z44 z7z
  unfold zbl
  simp only [pst]
  rcases Nat.lt_or_ge a s.length with h | h
  . rw [decide_eq_true (show (a : Int) < (s.length : Int) by omega), decide_eq_true h, zby h, zc1]
    simp only [cond_true, Bool.not_true, Bool.false_or, bne, show (124 : Int) = ((124 : Nat) : Int) from rfl, show (41 : Int) = ((41 : Nat) : Int) from rfl, eqI]
    by_cases e1 : gb s a = 124
    . have e2 : (gb s a == 124) = true := by simpa using e1
      rw [decide_eq_true e1, e2]; rfl
    . have e2 : (gb s a == 124) = false := by simpa using e1
      rw [decide_eq_false e1, e2]
      by_cases e3 : gb s a = 41
      . have e4 : (gb s a == 41) = true := by simpa using e3
        rw [decide_eq_true e3, e4]; rfl
      . have e4 : (gb s a == 41) = false := by simpa using e3
        rw [decide_eq_false e3, e4]; rfl
  . rw [decide_eq_false (show ¬ (a : Int) < (s.length : Int) by omega), decide_eq_false (show ¬ a < s.length by omega)]
    rfl

theorem zwl (N : Nat) (self : PSt -> Option (Int × (Int × Unit))) (x2 : NodT.den) (s : List UInt8) (a o : Nat) (L : List NodT.den) (rec : PSt -> List NodT.den -> Option (Int × (Int × Unit))) (k0 : (Int × (Int × Unit)) -> Option (Int × (Int × Unit))) (k1 : PSt -> List NodT.den -> Option (Int × (Int × Unit))) :
    z2v N self x2 (pst s a o) L rec k0 k1 = cond (zbl s a) (k1 (pst s a o) L) (orP (z28 N self (pst s a o)) (fun z => k0 z) ((z26 N (ze N) (pst s a o)).bind fun y => cond (decide (((L.length + 1) * 80) <= 70368744177664)) (rec y.2.1 (L ++ [y.1])) none)) := by
  unfold z2v z5j
  unfold zbl
  simp only [pst]
  rcases Nat.lt_or_ge a s.length with h | h
  . rw [decide_eq_true (show (a : Int) < (s.length : Int) by omega), decide_eq_true h, zby h, zc1]
    simp only [cond_true, Bool.not_true, Bool.false_or, bne, show (124 : Int) = ((124 : Nat) : Int) from rfl, show (41 : Int) = ((41 : Nat) : Int) from rfl, eqI]
    by_cases e1 : gb s a = 124
    . have e2 : (gb s a == 124) = true := by simpa using e1
      rw [decide_eq_true e1, e2]; rfl
    . have e2 : (gb s a == 124) = false := by simpa using e1
      rw [decide_eq_false e1, e2]
      by_cases e3 : gb s a = 41
      . have e4 : (gb s a == 41) = true := by simpa using e3
        rw [decide_eq_true e3, e4]; rfl
      . have e4 : (gb s a == 41) = false := by simpa using e3
        rw [decide_eq_false e3, e4]; rfl
  . rw [decide_eq_false (show ¬ (a : Int) < (s.length : Int) by omega), decide_eq_false (show ¬ a < s.length by omega)]
    rfl

theorem zse (N : Nat) {s : List UInt8} {d : Nat} (hd : d <= 16) (hs : s.length <= 256) (hN : 300 <= N) (self : PSt -> Option (NodT.den × (PSt × Unit))) (hself : zsn s d self) (x2 : NodT.den) (k0 : PSt -> List NodT.den -> Option (NodT.den × (PSt × Unit)))
    (hk : ∀ a ps, z27 ps <= 3 * a -> a <= s.length -> k0 (pst s a (16 - d)) (ps.map unN) = some (unN (z57 2 ps), (pst s a (16 - d), ()))) : ∀ (k N' a : Nat) (ps : List Tree), k <= N' -> a <= s.length -> s.length < a + k -> z27 ps <= 3 * a →
    iter (fun (v : (PSt × (List NodT.den))) r => z44 N self x2 v.1 v.2 (fun p parts => (r (p, parts))) k0) N' (pst s a (16 - d), ps.map unN) = okP s (16 - d) unN (zcm (z9t s d) s k a ps)
  | 0, N', a, ps, h1, h2, h3, h4 => by omega
  | k + 1, N', a, ps, h1, h2, h3, h4 => by
    obtain ⟨M, rfl⟩ : ∃ M, N' = M + 1 := ⟨N' - 1, by omega⟩
    rw [iter, zcm]
    dsimp only
    rw [zya]
    cases hst : zbl s a with
    | true =>
      simp only [cond_true, if_true]
      rw [hk a ps h4 h2]
      rfl
    | false =>
      have hlt : a < s.length := by
        unfold zbl at hst
        simp at hst
        exact hst.1
      simp only [cond_false, Bool.false_eq_true, if_false]
      rw [zus N hd hlt hs hN self hself]
      cases hp : zb4 (z9t s d) s a with
      | bad e c => rfl
      | ok t c =>
        have hc := zw (z8x (z58 s d) hlt) hp
        have ht := (zgy (z58 s d) (zks hs d) hlt t c hp).2
        have hl := z4h ps
        simp only [okP, Option.bind_some, PR.next]
        rw [room (by rw [List.length_map]; omega)]
        simp only [cond_true]
        have := zse N hd hs hN self hself x2 k0 hk k M c (ps ++ [t]) (by omega) hc.2 (by omega) (by rw [z4i, z41]; omega)
        rw [List.map_append] at this
        exact this

theorem zou (N : Nat) {s : List UInt8} {d : Nat} (hd : d <= 16) (hs : s.length <= 256) (hN : 300 <= N) (self : PSt -> Option (Int × (Int × Unit))) (hself : z134 s d self) (hok : zsn s d (ze N)) (x2 : NodT.den) (k0 : (Int × (Int × Unit)) -> Option (Int × (Int × Unit))) (k1 : PSt -> List NodT.den -> Option (Int × (Int × Unit))) (hk0 : ∀ z, k0 z = some z)
    (hk : ∀ a ps, z27 ps <= 3 * a -> a <= s.length -> k1 (pst s a (16 - d)) (ps.map unN) = none) : ∀ (k N' a : Nat) (ps : List Tree), k <= N' -> a <= s.length -> s.length < a + k -> z27 ps <= 3 * a →
    iter (fun (v : (PSt × (List NodT.den))) r => z2v N self x2 v.1 v.2 (fun p parts => (r (p, parts))) k0 k1) N' (pst s a (16 - d), ps.map unN) = zb7 (zcm (z9t s d) s k a ps)
  | 0, N', a, ps, h1, h2, h3, h4 => by omega
  | k + 1, N', a, ps, h1, h2, h3, h4 => by
    obtain ⟨M, rfl⟩ : ∃ M, N' = M + 1 := ⟨N' - 1, by omega⟩
    rw [iter, zcm]
    dsimp only
    rw [zwl]
    cases hst : zbl s a with
    | true =>
      simp only [cond_true, if_true]
      rw [hk a ps h4 h2]
      rfl
    | false =>
      have hlt : a < s.length := by
        unfold zbl at hst
        simp at hst
        exact hst.1
      simp only [cond_false, Bool.false_eq_true, if_false]
      rw [z10w N hd hlt hs hN self hself hok, zus N hd hlt hs hN _ hok]
      cases hp : zb4 (z9t s d) s a with
      | bad e c => exact hk0 _
      | ok t c =>
        have hc := zw (z8x (z58 s d) hlt) hp
        have ht := (zgy (z58 s d) (zks hs d) hlt t c hp).2
        have hl := z4h ps
        simp only [okP, zb7, orP, Option.bind_some, PR.next]
        rw [room (by rw [List.length_map]; omega)]
        simp only [cond_true]
        have := zou N hd hs hN self hself hok x2 k0 k1 hk0 hk k M c (ps ++ [t]) (by omega) hc.2 (by omega) (by rw [z4i, z41]; omega)
        rw [List.map_append] at this
        exact this

theorem zmn {N : Nat} (hN : 2000 <= N) (k : Int) {ps : List Tree} (h : z27 ps <= 1000) : z6m N k (List.map Go.Lift.foN (ps.map unN)) = some (unN (z57 k ps)) := by
  have h1 := z4h ps
  have h2 := Nat.le_trans (z4h (z52 k ps)) (zek k ps)
  rw [znv]
  exact z12f N k ps (by unfold maxLen; omega) (by omega) (by omega)

theorem zyb (N : Nat) {s : List UInt8} {a d : Nat} (hd : d <= 16) (ha : a <= s.length) (hs : s.length <= 256) (hN : 2000 <= N) (self : PSt -> Option (NodT.den × (PSt × Unit))) (hself : zsn s d self) :
    z35 N self (pst s a (16 - d)) = okP s (16 - d) unN (zcm (z9t s d) s (s.length + 1) a []) := by
  unfold z35 z80 zaf
  exact zse N hd hs (by omega) self hself _ _ (fun b ps h1 h2 => by (try dsimp only); rw [zmn hN 2 (by omega)]; rfl) (s.length + 1) N a [] (by omega) ha (by omega) (Nat.zero_le _)

theorem z1av (N : Nat) {s : List UInt8} {a d : Nat} (hd : d <= 16) (ha : a <= s.length) (hs : s.length <= 256) (hN : 2000 <= N) (self : PSt -> Option (Int × (Int × Unit))) (hself : z134 s d self) (hok : zsn s d (ze N)) :
    z31 N self (pst s a (16 - d)) = zb7 (zcm (z9t s d) s (s.length + 1) a []) := by
  unfold z31 z5k z8j
  exact zou N hd hs (by omega) self hself hok _ _ _ (fun z => rfl) (fun b ps h1 h2 => by (try dsimp only); rw [zmn hN 2 (by omega)]; rfl) (s.length + 1) N a [] (by omega) ha (by omega) (Nat.zero_le _)

theorem zp3 (N : Nat) {s : List UInt8} {d : Nat} (hd : d <= 16) (hs : s.length <= 256) (hN : 2000 <= N) (self : PSt -> Option (NodT.den × (PSt × Unit))) (hself : zsn s d self) (x2 : NodT.den) (k0 : PSt -> List NodT.den -> Option (NodT.den × (PSt × Unit)))
    (hk : ∀ a ps, z27 ps <= 3 * a + 1 -> a <= s.length -> k0 (pst s a (16 - d)) (ps.map unN) = some (unN (z57 3 ps), (pst s a (16 - d), ()))) : ∀ (k N' a : Nat) (ps : List Tree), k <= N' -> a <= s.length -> s.length < a + k -> z27 ps <= 3 * a + 1 →
    iter (fun (v : (PSt × (List NodT.den))) r => z5m N self x2 v.1 v.2 (fun p parts => (r (p, parts))) k0) N' (pst s a (16 - d), ps.map unN) = okP s (16 - d) unN (zco (z9t s d) s k a ps)
  | 0, N', a, ps, h1, h2, h3, h4 => by omega
  | k + 1, N', a, ps, h1, h2, h3, h4 => by
    obtain ⟨M, rfl⟩ : ∃ M, N' = M + 1 := ⟨N' - 1, by omega⟩
    rw [iter, zco]
    dsimp only
    conv => lhs; unfold z5m
    rw [show (124 : Int) = ((124 : Nat) : Int) from rfl, zhn N (16 - d) 124 h2 hs]
    cases hb : isB s a 124 with
    | false =>
      simp only [Option.bind_some, cond_false, Bool.false_eq_true, if_false]
      rw [hk a ps h4 h2]
      rfl
    | true =>
      have hlt : a + 1 <= s.length := by simp [isB] at hb; omega
      simp only [Option.bind_some, cond_true, if_true]
      rw [zyb N hd hlt hs hN self hself]
      cases hp : zcm (z9t s d) s (s.length + 1) (a + 1) [] with
      | bad e c => rfl
      | ok t c =>
        have hc := zw (z3p (z58 s d) _ (a + 1) [] hlt) hp
        have ht := (zcw hs (z58 s d) (zks hs d) (a + 1) _ (a + 1) [] hlt (Nat.le_refl _) (fun x hx => by cases hx) (by simp [z27]) t c hp).2
        have hl := z4h ps
        simp only [okP, Option.bind_some, PR.next]
        rw [room (by rw [List.length_map]; omega)]
        simp only [cond_true]
        have := zp3 N hd hs hN self hself x2 k0 hk k M c (ps ++ [t]) (by omega) hc.2 (by omega) (by rw [z4i, z41]; omega)
        rw [List.map_append] at this
        exact this

theorem zly (N : Nat) {s : List UInt8} {d : Nat} (hd : d <= 16) (hs : s.length <= 256) (hN : 2000 <= N) (self : PSt -> Option (Int × (Int × Unit))) (hself : z134 s d self) (hok : zsn s d (ze N)) (x2 : NodT.den) (k0 : (Int × (Int × Unit)) -> Option (Int × (Int × Unit))) (k1 : PSt -> List NodT.den -> Option (Int × (Int × Unit))) (hk0 : ∀ z, k0 z = some z)
    (hk : ∀ a ps, z27 ps <= 3 * a + 1 -> a <= s.length -> k1 (pst s a (16 - d)) (ps.map unN) = none) : ∀ (k N' a : Nat) (ps : List Tree), k <= N' -> a <= s.length -> s.length < a + k -> z27 ps <= 3 * a + 1 →
    iter (fun (v : (PSt × (List NodT.den))) r => z3v N self x2 v.1 v.2 (fun p parts => (r (p, parts))) k0 k1) N' (pst s a (16 - d), ps.map unN) = zb7 (zco (z9t s d) s k a ps)
  | 0, N', a, ps, h1, h2, h3, h4 => by omega
  | k + 1, N', a, ps, h1, h2, h3, h4 => by
    obtain ⟨M, rfl⟩ : ∃ M, N' = M + 1 := ⟨N' - 1, by omega⟩
    rw [iter, zco]
    dsimp only
    conv => lhs; unfold z3v
    rw [show (124 : Int) = ((124 : Nat) : Int) from rfl, zhn N (16 - d) 124 h2 hs]
    cases hb : isB s a 124 with
    | false =>
      simp only [Option.bind_some, cond_false, Bool.false_eq_true, if_false]
      rw [hk a ps h4 h2]
      rfl
    | true =>
      have hlt : a + 1 <= s.length := by simp [isB] at hb; omega
      simp only [Option.bind_some, cond_true, if_true]
      rw [z1av N hd hlt hs hN self hself hok, zyb N hd hlt hs hN _ hok]
      cases hp : zcm (z9t s d) s (s.length + 1) (a + 1) [] with
      | bad e c => exact hk0 _
      | ok t c =>
        have hc := zw (z3p (z58 s d) _ (a + 1) [] hlt) hp
        have ht := (zcw hs (z58 s d) (zks hs d) (a + 1) _ (a + 1) [] hlt (Nat.le_refl _) (fun x hx => by cases hx) (by simp [z27]) t c hp).2
        have hl := z4h ps
        simp only [okP, zb7, orP, Option.bind_some, PR.next]
        rw [room (by rw [List.length_map]; omega)]
        simp only [cond_true]
        have := zly N hd hs hN self hself hok x2 k0 k1 hk0 hk k M c (ps ++ [t]) (by omega) hc.2 (by omega) (by rw [z4i, z41]; omega)
        rw [List.map_append] at this
        exact this

theorem zsk (N : Nat) {s : List UInt8} {a d : Nat} (hd : d <= 16) (ha : a <= s.length) (hs : s.length <= 256) (hN : 2000 <= N) (self : PSt -> Option (NodT.den × (PSt × Unit))) (hself : zsn s d self) :
    z66 N self (pst s a (16 - d)) = okP s (16 - d) unN (zax s d a) := by
  unfold z66
  rw [zyb N hd ha hs hN self hself, ze7]
  cases hp : zcm (z9t s d) s (s.length + 1) a [] with
  | bad e c => rfl
  | ok t c =>
    have hc := zw (z3p (z58 s d) _ a [] ha) hp
    have ht := (zcw hs (z58 s d) (zks hs d) a _ a [] ha (Nat.le_refl _) (fun x hx => by cases hx) (by simp [z27]) t c hp).2
    simp only [okP, Option.bind_some, PR.next]
    unfold zah
    exact zp3 N hd hs hN self hself _ _ (fun b ps h1 h2 => by (try dsimp only); rw [zmn hN 3 (by omega)]; rfl) (s.length + 1) N c [t] (by omega) hc.2 (by omega) (by rw [z41]; omega)

theorem z132 {s : List UInt8} (hs : s.length <= 256) : ∀ (d N : Nat), d <= 16 -> 2000 + d <= N -> ∀ a, a <= s.length -> ze N (pst s a (16 - d)) = okP s (16 - d) unN (zax s d a)
  | 0, N, hd, hN, a, ha => by
    obtain ⟨M, rfl⟩ : ∃ M, N = M + 1 := ⟨N - 1, by omega⟩
    exact zsk (M + 1) hd ha hs (by omega) _ (fun d' h => by omega)
  | d + 1, N, hd, hN, a, ha => by
    obtain ⟨M, rfl⟩ : ∃ M, N = M + 1 := ⟨N - 1, by omega⟩
    exact zsk (M + 1) hd ha hs (by omega) _ (fun d' h b hb => by
      obtain rfl : d = d' := by omega
      exact z132 hs d M (by omega) (by omega) b hb)

theorem z1b1 {s : List UInt8} (hs : s.length <= 256) {d N : Nat} (hd : d <= 16) (hN : 2000 + d <= N) : zsn s d (ze N) := fun d' h a ha => z132 hs d' N (by omega) (by omega) a ha

theorem alt_f {s : List UInt8} (hs : s.length <= 256) : ∀ (d N : Nat), d <= 16 -> 2000 + d <= N -> ∀ a, a <= s.length -> zm N (pst s a (16 - d)) = zb7 (zax s d a) := by
  have step : ∀ (d M : Nat), d <= 16 -> 2000 + d <= M + 1 -> z134 s d (zm M) -> ∀ a, a <= s.length -> zm (M + 1) (pst s a (16 - d)) = zb7 (zax s d a) := by
    intro d M hd hN hself a ha
    have hok := z1b1 hs hd hN
    show z4a (M + 1) (zm M) (pst s a (16 - d)) = _
    unfold z4a
    rw [z1av (M + 1) hd ha hs (by omega) _ hself hok, zyb (M + 1) hd ha hs (by omega) _ hok, ze7]
    cases hp : zcm (z9t s d) s (s.length + 1) a [] with
    | bad e c => rfl
    | ok t c =>
      have hc := zw (z3p (z58 s d) _ a [] ha) hp
      have ht := (zcw hs (z58 s d) (zks hs d) a _ a [] ha (Nat.le_refl _) (fun x hx => by cases hx) (by simp [z27]) t c hp).2
      simp only [okP, zb7, orP, Option.bind_some, PR.next]
      unfold z8k
      exact zly (M + 1) hd hs (by omega) _ hself hok _ _ _ (fun z => rfl) (fun b ps h1 h2 => by (try dsimp only); rw [zmn (by omega) 3 (by omega)]; rfl) (s.length + 1) (M + 1) c [t] (by omega) hc.2 (by omega) (by rw [z41]; omega)
  intro d
  induction d with
  | zero =>
    intro N hd hN a ha
    obtain ⟨M, rfl⟩ : ∃ M, N = M + 1 := ⟨N - 1, by omega⟩
    exact step 0 M hd hN (fun d' h => by omega) a ha
  | succ d ih =>
    intro N hd hN a ha
    obtain ⟨M, rfl⟩ : ∃ M, N = M + 1 := ⟨N - 1, by omega⟩
    exact step (d + 1) M hd hN (fun d' h b hb => by
      obtain rfl : d = d' := by omega
      exact ih M (by omega) (by omega) b hb) a ha

def psF (r : PR Tree) : z4j [NodT, zyv] := match r with
  | .bad e a => (z112, ((e, (a : Int), ()), ()))
  | .ok t _ => (unN t, ((0, 0, ()), ()))

theorem zmc {N : Nat} (hN : 2020 <= N) (s : List UInt8) : z3o N s = some (psF (z3y s)) := by
  unfold z3o z3y
  by_cases h : 256 < s.length
  . rw [decide_eq_true (show (256 : Int) < (s.length : Int) by omega), if_pos h]; rfl
  . rw [decide_eq_false (show ¬ (256 : Int) < (s.length : Int) by omega), if_neg h]
    have hs : s.length <= 256 := by omega
    have h1 := z132 hs 16 N (Nat.le_refl _) (by omega) 0 (Nat.zero_le _)
    have h2 := alt_f hs 16 N (Nat.le_refl _) (by omega) 0 (Nat.zero_le _)
    unfold pst at h1 h2
    simp only [cond_false]
    have e1 : zm N (s, (0, (0, ()))) = zb7 (zax s 16 0) := h2
    have e2 : ze N (s, (0, (0, ()))) = okP s 0 unN (zax s 16 0) := h1
    rw [e1, e2]
    cases hm : zax s 16 0 with
    | bad e a => rfl
    | ok t a =>
      simp only [okP, zb7, orP, Option.bind_some, PR.next, pst]
      by_cases ha : a < s.length
      . rw [decide_eq_true (show (a : Int) < (s.length : Int) by omega), if_pos ha]; rfl
      . rw [decide_eq_false (show ¬ (a : Int) < (s.length : Int) by omega), if_neg ha]; rfl

end
end Go.Proofs.YtbfmhambfonpcaaDoorLg

set_option linter.all false
set_option maxRecDepth 100000
namespace Go.Proofs.YtbfmhambfonpcaaDoorLg
noncomputable section
open Go Go.Lift Go.Proofs.YtbfmhambfonpcaaDoorPx

abbrev PP := NodT.den × (List Int × (Bool × (Int × ((Int × (Int × Unit)) × Unit))))

def badP (e : Int) (a : Nat) : PP := (z112, (z4, (false, ((0 : Int), ((e, ((a : Int), ())), ())))))
def refP {α : Type} (f : α -> Nat -> PP) : PR α -> PP
  | .bad e a => badP e a
  | .ok x a => f x a

def Nz {α : Type} (r : PR α) : Prop := match r with
  | .bad e _ => (e != 0) = true
  | .ok _ _ => True

theorem Nz.next {α β : Type} {r : PR α} {f : α -> Nat -> PR β} (h : Nz r) (hf : ∀ x b, r = .ok x b -> Nz (f x b)) : Nz (r.next f) := by
  cases r with
  | bad e b => exact h
  | ok x b => exact hf x b rfl

theorem zjh (s : List UInt8) (a : Nat) : Nz (z83 s a) := by
  unfold z83; split
  . trivial
  . rfl

theorem zve {s : List UInt8} {a : Nat} (h : a < s.length) : z83 s a = .ok (gb s a) a := by unfold z83; rw [if_pos h]
theorem zs1 {s : List UInt8} {a : Nat} (h : s.length <= a) : z83 s a = .bad 1 s.length := by unfold z83; rw [if_neg (by omega)]

theorem zvg (s : List UInt8) (a b : Nat) : Nz (zaq s a b) := by
  refine (zjh s a).next fun c a1 _ => ?_
  split
  . trivial
  . rfl

theorem zzj (s : List UInt8) (fr a : Nat) : Nz (zpp s fr a) := by
  refine (zjh s a).next fun c a1 _ => ?_
  split
  . trivial
  split
  . trivial
  . rfl

theorem zzq (s : List UInt8) (a : Nat) : Nz (zpq s a) := by
  refine (zjh s _).next fun c a1 _ => ?_
  split
  . trivial
  split
  . trivial
  split
  . exact (zzj s a _).next fun h a2 _ => (zzj s a _).next fun l a3 _ => trivial
  split
  . trivial
  . rfl

theorem zuf (s : List UInt8) (a : Nat) : Nz (zfg s a) := by
  refine (zjh s _).next fun c a1 _ => ?_
  split
  . exact zzq s a
  split
  . rfl
  . trivial

theorem zvv (s : List UInt8) (a : Nat) : Nz (zer s a) := by
  refine (zuf s _).next fun c a1 _ => ?_
  split
  . trivial
  . refine (zuf s _).next fun q a2 _ => ?_
    split
    . rfl
    . trivial

theorem zs4 (s : List UInt8) : ∀ (k a : Nat) (acc : List Int), a <= s.length -> s.length < a + k -> Nz (z9f s k a acc)
  | 0, a, acc, h1, h2 => by omega
  | k + 1, a, acc, h1, h2 => by
    unfold z9f
    split
    . trivial
    . refine (zvv s a).next fun t a1 h => ?_
      have hc := zw (z6p s a) h
      exact zs4 s k a1 _ hc.2 (by omega)

theorem zy9 (s : List UInt8) (a : Nat) : Nz (zar s a) := by
  unfold zar
  refine (zvv s _).next fun t a1 h => ?_
  have hc := zw (z6p s _) h
  exact (zs4 s _ a1 t hc.2 (by omega)).next fun acc a2 _ => trivial

theorem zzb (s : List UInt8) (a : Nat) : Nz (zp6 s a) := by
  refine (zjh s _).next fun c a1 _ => ?_
  split
  . split
    . rfl
    split
    . rfl
    . trivial
  . rfl

theorem zzn (s : List UInt8) (lo hi fr a : Nat) : Nz (zs3 s lo hi fr a) := by
  unfold zs3
  split
  . rfl
  . exact (zvg s a 125).next fun _ _ _ => trivial

theorem zwr (s : List UInt8) (a : Nat) : Nz (z8z s a) := by
  refine (zzb s _).next fun lo a1 _ => ?_
  split
  . split
    . trivial
    . exact (zzb s _).next fun hi a2 _ => zzn s _ _ _ _
  . exact zzn s _ _ _ _

theorem wrapK {a : Nat} (k : Nat) (h : a + k <= 100000) : IntKind.wrap .i64 ((a : Int) + (k : Int)) = ((a + k : Nat) : Int) := by
  rw [z8s (by unfold I64; omega)]; omega

end
end Go.Proofs.YtbfmhambfonpcaaDoorLg

set_option linter.all false
set_option maxRecDepth 100000
namespace Go.Proofs.YtbfmhambfonpcaaDoorLg
noncomputable section
open Go Go.Lift Go.Proofs.YtbfmhambfonpcaaDoorPx


def z1b4 (s : List UInt8) (sub : Option (Nat -> PR Tree)) : Prop := ∀ f, sub = some f -> ∀ b, b <= s.length -> Nz (f b)

theorem z130 {sub : Option (Nat -> PR Tree)} {s : List UInt8} {a : Nat} (hS : z1b4 s sub) (ha : a < s.length) : Nz (zcn sub s a) := by
  unfold zcn
  split
  . cases sub with
    | none => rfl
    | some f => exact (hS f rfl (a + 1) (by omega)).next fun t a1 _ => (zvg s a1 41).next fun _ _ _ => trivial
  split
  . trivial
  split
  . exact (zy9 s _).next fun _ _ _ => trivial
  split
  . exact (zzq s _).next fun _ _ _ => trivial
  split
  . rfl
  . trivial

theorem zxk {sub : Option (Nat -> PR Tree)} {s : List UInt8} {a : Nat} (hS : z1b4 s sub) (ha : a < s.length) : Nz (zb4 sub s a) := by
  refine (z130 hS ha).next fun t a1 _ => ?_
  split
  . split
    . trivial
    split
    . trivial
    split
    . trivial
    split
    . exact (zwr s _).next fun _ _ _ => trivial
    . trivial
  . trivial

theorem zua {s : List UInt8} {a : Nat} (h : ¬ zbl s a = true) : a < s.length := by
  simp [zbl] at h
  exact h.1

theorem zwm {sub : Option (Nat -> PR Tree)} {s : List UInt8} (hA : zx1 s sub) (hS : z1b4 s sub) : ∀ (k a : Nat) (ps : List Tree), a <= s.length -> s.length < a + k -> Nz (zcm sub s k a ps)
  | 0, a, ps, h1, h2 => by omega
  | k + 1, a, ps, h1, h2 => by
    unfold zcm
    split
    . trivial
    . rename_i h
      have hlt := zua h
      refine (zxk hS hlt).next fun t a1 e => ?_
      have hc := zw (z8x hA hlt) e
      exact zwm hA hS k a1 _ hc.2 (by omega)

theorem zwy {sub : Option (Nat -> PR Tree)} {s : List UInt8} (hA : zx1 s sub) (hS : z1b4 s sub) : ∀ (k a : Nat) (ps : List Tree), a <= s.length -> s.length < a + k -> Nz (zco sub s k a ps)
  | 0, a, ps, h1, h2 => by omega
  | k + 1, a, ps, h1, h2 => by
    unfold zco
    split
    . rename_i h
      have hlt : a + 1 <= s.length := by simp [isB] at h; omega
      refine (zwm hA hS _ (a + 1) [] hlt (by omega)).next fun t a1 e => ?_
      have hc := zw (z3p hA _ (a + 1) [] hlt) e
      exact zwy hA hS k a1 _ hc.2 (by omega)
    . trivial

theorem z1b2 (s : List UInt8) : ∀ (d a : Nat), a <= s.length -> Nz (zax s d a) := by
  have step : ∀ d a, z1b4 s (z9t s d) -> a <= s.length -> Nz (zax s d a) := by
    intro d a hS ha
    rw [ze7]
    refine (zwm (z58 s d) hS _ a [] ha (by omega)).next fun t a1 e => ?_
    have hc := zw (z3p (z58 s d) _ a [] ha) e
    exact zwy (z58 s d) hS _ a1 _ hc.2 (by omega)
  intro d
  induction d with
  | zero => intro a ha; exact step 0 a (fun f h => by cases h) ha
  | succ d ih => intro a ha; exact step (d + 1) a (fun f h b hb => by cases h; exact ih b hb) ha


def Can (t : Tree) : Prop := (z7n t = 2 -> (zhc t).length ≠ 1) /\ (z7n t = 3 -> (zhc t).length ≠ 1 /\ t = .mk 3 z4 (zhc t) 0 0)

def CanR (r : PR Tree) : Prop := ∀ t b, r = .ok t b -> Can t

theorem CanR.bad {e : Int} {x : Nat} : CanR (.bad e x) := fun t b h => by cases h
theorem CanR.ok {t : Tree} {x : Nat} (h : Can t) : CanR (.ok t x) := fun t b h => by cases h; assumption
theorem CanR.next {α : Type} {r : PR α} {f : α -> Nat -> PR Tree} (h : ∀ x b, r = .ok x b -> CanR (f x b)) : CanR (r.next f) := by
  cases r with
  | bad e b => exact CanR.bad
  | ok x b => exact h x b rfl


def RefR {α : Type} (f : α -> Nat -> PP) (r : PR α) (p : PP) : Prop := match r with
  | .bad e a => p.2.2.2.2.1 = (e, ((a : Int), ()))
  | .ok x a => p = f x a

theorem RefR.of {α : Type} {f : α -> Nat -> PP} (r : PR α) : RefR f r (refP f r) := by cases r <;> rfl

end
end Go.Proofs.YtbfmhambfonpcaaDoorLg

set_option linter.all false
set_option maxRecDepth 100000
namespace Go.Proofs.YtbfmhambfonpcaaDoorLg
noncomputable section
open Go Go.Lift

def z12s : Code := (Tryd.f7.body).getD .skip

def L_77 : List (List Nat × List Nat) := [([0], []), ([0, 1], [2, 1]), ([0, 1, 1], [2, 1, 4, 3]), ([0, 1, 1, 1], [2, 1, 4, 3, 6]), ([0, 1, 1, 1, 1], [0]), ([1, 1, 1, 1, 1], [0])]

def E_77 (N : Nat) : Env := z3w tys glob [(14, zai N)] [] [] [] false [] []

theorem z1bd (N : Nat) : EnvOk Tryd.prog (E_77 N) := zn mixed z1v (FnsOk.cons (zex N) (FnsOk.nil)) (ItsOk.nil)

def z3a (N : Nat) : Option Bool :=
 (z3o N ([(97 : UInt8), (124 : UInt8), (98 : UInt8), (42 : UInt8)] : List UInt8)).bind fun y =>
 (z3o N ([(40 : UInt8), (97 : UInt8), (41 : UInt8), (40 : UInt8), (98 : UInt8), (99 : UInt8), (41 : UInt8)] : List UInt8)).bind fun y1 =>
 (z3o N ([(97 : UInt8), (123 : UInt8), (51 : UInt8), (44 : UInt8), (50 : UInt8), (125 : UInt8)] : List UInt8)).bind fun y2 =>
 cond (eqD (T.pair (T.int IntKind.i64) (T.pair (T.int IntKind.i64) T.unit)) y.2.1 ((0 : Int), ((0 : Int), ())))
 (cond (y.1.1 == (3 : Int))
 (cond ((((List.length y.1.2.2.1) : Nat) : Int) == (2 : Int))
 (cond (inR (1 : Int) (List.length y.1.2.2.1))
 (cond ((unN (List.getD y.1.2.2.1 1 (Tree.mk (0 : Int) ([] : List Int) ([] : List Tree) (0 : Int) (0 : Int)))).1 == (4 : Int))
 (cond (inR (1 : Int) (List.length y.1.2.2.1))
 (cond ((unN (List.getD y.1.2.2.1 1 (Tree.mk (0 : Int) ([] : List Int) ([] : List Tree) (0 : Int) (0 : Int)))).2.2.2.2.1 == (-(1 : Int)))
 (cond (eqD (T.pair (T.int IntKind.i64) (T.pair (T.int IntKind.i64) T.unit)) y1.2.1 ((0 : Int), ((0 : Int), ())))
 (cond (y1.1.1 == (2 : Int))
 (cond ((((List.length y1.1.2.2.1) : Nat) : Int) == (3 : Int))
 (some (eqD (T.pair (T.int IntKind.i64) (T.pair (T.int IntKind.i64) T.unit)) y2.2.1 ((2 : Int), ((4 : Int), ()))))
 (some false))
 (some false))
 (some false))
 (some false))
 (none))
 (some false))
 (none))
 (some false))
 (some false))
 (some false)

def t_77 (N : Nat) : Tab Bool := []

theorem z118 (N : Nat) (x : z1p []) : zc6 (E_77 N) N (t_77 N) L_77 Tryd.f7 (mkS [] 0 x) (zc5 (.v .bool) 0) = z3a N := by kernel_rfl

def z9e (N : Nat) : List A -> Res := z1z [] (fun x => z3a N) (zfe (.v .bool) 0)

theorem zep (N : Nat) : Contract Tryd.prog glob 7 (z9e N) :=
  Contract.of (E := E_77 N) (H := t_77 N) (L := L_77) (N := N) (body := z12s) (K := (zc5 (.v .bool) 0)) (z1bd N) Tryd.func7 (by kernel_rfl) (by decide) (fun _ hb => TabOk.nil) (fun x y h => by rw [z118]; exact h) (z5p (s := (.v .bool)) (m := 0))

def z94 : Code := (Tryd.f5.body).getD .skip

def z104 : List (List Nat × List Nat) := [([0], [0, 1]), ([0, 0, 1], [21, 0, 1]), ([1, 0, 1], [0, 1]), ([0, 0, 1, 0, 1], [4]), ([1, 0, 1, 0, 1], [4]), ([0, 1, 1], [0, 1, 6, 5]), ([0, 1, 1, 1], [1, 6, 5, 0, 8, 7]), ([0, 1, 1, 1, 1], [6, 5, 0, 8, 7, 10, 1, 9]), (zkp, [42, 5, 6, 0, 8, 7, 10, 1, 9]), (zyn, [5, 8, 7, 10, 0, 1, 9]), (PQ59, [4]), (PQ92, [4]), (z13r, [84, 10, 0, 1, 5, 9]), (PQ73, [10, 0, 1, 5, 9]), (PQ77, [4]), (PQ85, [4]), (PQ95, [87, 0, 1, 5, 9]), ([1, 0, 1, 1, 1, 1, 1, 1, 1], [0, 1, 5, 9]), ([0, 0, 1, 0, 1, 1, 1, 1, 1, 1, 1], [4]), ([1, 0, 1, 0, 1, 1, 1, 1, 1, 1, 1], [4]), (PQ96, [5, 9, 12, 11]), ([0, 1, 1, 1, 1, 1, 1, 1, 1, 1], [5, 9, 12, 11]), ([0, 0, 1, 1, 1, 1, 1, 1, 1, 1, 1, 1], [99, 5, 9, 12, 11]), ([1, 0, 1, 1, 1, 1, 1, 1, 1, 1, 1, 1], [9, 13, 12, 11]), ([1, 1, 0, 1, 1, 1, 1, 1, 1, 1, 1, 1, 1], [9, 13, 12, 11]), ([0, 1, 0, 1, 1, 1, 1, 1, 1, 1, 1, 1, 1], [9, 13, 12, 11]), ([0, 0, 1, 1, 1, 1, 1, 1, 1, 1, 1, 1, 1], [105, 13, 9, 12, 11]), ([1, 0, 1, 1, 1, 1, 1, 1, 1, 1, 1, 1, 1], [12, 11, 13]), ([1, 1, 0, 1, 1, 1, 1, 1, 1, 1, 1, 1, 1, 1], [12, 11, 13]), ([0, 1, 0, 1, 1, 1, 1, 1, 1, 1, 1, 1, 1, 1], [12, 11, 13]), ([0, 1, 1, 1, 1, 1, 1, 1, 1, 1, 1, 1, 1], [4]), ([1, 1, 1, 1, 1, 1, 1, 1, 1, 1, 1, 1, 1], [4])]

def zyw (N : Nat) : Env := z3w tys glob [(7, z9e N), (9, zdn N), (11, zeu N), (12, z9q N), (14, zai N)] [] [] [] false [] []

theorem z1bc (N : Nat) : EnvOk Tryd.prog (zyw N) := zn mixed z1v (FnsOk.cons (zep N) (FnsOk.cons (zew N) (FnsOk.cons (zg4 N) (FnsOk.cons (zal N) (FnsOk.cons (zex N) (FnsOk.nil)))))) (ItsOk.nil)

def z4f (N : Nat) (s : (List UInt8)) (t : (List UInt8)) (k0 : Bool -> Option Bool) : Option Bool :=
 cond (decide ((100 : Int) < (((List.length s) : Nat) : Int)))
 (k0 true)
 (k0 (decide ((100 : Int) < (((List.length t) : Nat) : Int))))

def z199 (N : Nat) (x : z1p zx4) (K : Ex -> List A -> Option Bool) : Option Bool :=
 z4f N x.1 x.2.1 (fun a2 => (K .normal (mkS [(0, .v .str), (0, .v .str), (19, .v .bool)] 109 (x.1, x.2.1, a2, ()))))

def z17b (N : Nat) : Hd Bool := fun st K => (unS zx4 129 (restr [0, 1] 0 st)).bind fun x => z199 N x K

def t2_80 (N : Nat) : Tab Bool := []

theorem z14y {N : Nat} {c : Ctx} (hb : Base Tryd.prog (zyw N) c) : z14 Tryd.prog c (zd z94 [0, 0, 1]) (z17b N) :=
  z16 (s := zx4) (m := 129) (g := z199 N) [0, 1] (zg hb N (t2_80 N) z104 z94 TabOk.nil [0, 0, 1] _ rfl) (fun x K => by kernel_rfl)

def z4g (N : Nat) (s : (List UInt8)) (t : (List UInt8)) (k0 : Bool -> Option Bool) (k1 : Option Bool) : Option Bool :=
 z4f N s t
 (fun x21 => cond x21
 ((z3a N).bind fun y =>
 k0 y)
 (k1))

def z19n (N : Nat) (x : z1p zx4) (K : Ex -> List A -> Option Bool) : Option Bool :=
 z4g N x.1 x.2.1 (fun a0 => (K .ret (mkS [(4, .v .bool)] 126 (a0, ())))) (K .normal (mkS zx4 129 (x.1, x.2.1, ())))

def z17p (N : Nat) : Hd Bool := fun st K => (unS zx4 129 (restr [0, 1] 0 st)).bind fun x => z19n N x K

def t1_80 (N : Nat) : Tab Bool := [([0, 0, 1], z17b N)]

theorem z15c {N : Nat} {c : Ctx} (hb : Base Tryd.prog (zyw N) c) : z14 Tryd.prog c (zd z94 [0, 1]) (z17p N) :=
  z16 (s := zx4) (m := 129) (g := z19n N) [0, 1] (zg hb N (t1_80 N) z104 z94 (TabOk.cons (z14y hb) TabOk.nil) [0, 1] _ rfl) (fun x K => by kernel_rfl)

def z4d (N : Nat) (s : (List UInt8)) (t : (List UInt8)) (a : DT1) (b : DT1) (g : (Int × (Int × Unit))) (c : DT1) (h : (Int × (Int × Unit))) (k0 : Bool -> Option Bool) : Option Bool :=
 (z5o N a).bind fun y =>
 cond (!y)
 (k0 true)
 (cond (g.1 == (0 : Int))
 ((z6n N a b).bind fun y1 =>
 cond (!y1)
 (k0 true)
 (cond (g.1 != (0 : Int))
 (k0 (g.1 != (3 : Int)))
 (k0 false)))
 (cond (g.1 != (0 : Int))
 (k0 (g.1 != (3 : Int)))
 (k0 false)))

def z18x (N : Nat) (x : z1p z13n) (K : Ex -> List A -> Option Bool) : Option Bool :=
 z4d N x.1 x.2.1 x.2.2.1 x.2.2.2.1 x.2.2.2.2.1 x.2.2.2.2.2.1 x.2.2.2.2.2.2.1 (fun a5 => (K .normal (mkS [(0, .v .str), (0, .v .str), (3, .box TT0), (3, .box TT0), (0, .box TT6), (73, .v .bool)] 46 (x.1, x.2.1, x.2.2.1, x.2.2.2.2.2.1, x.2.2.2.2.2.2.1, a5, ()))))

def z16z (N : Nat) : Hd Bool := fun st K => (unS z13n 120 (restr [5, 8, 7, 10, 0, 1, 9] 0 st)).bind fun x => z18x N x K

def t4_80 (N : Nat) : Tab Bool := []

theorem z14m {N : Nat} {c : Ctx} (hb : Base Tryd.prog (zyw N) c) : z14 Tryd.prog c (zd z94 z13r) (z16z N) :=
  z16 (s := z13n) (m := 120) (g := z18x N) [5, 8, 7, 10, 0, 1, 9] (zg hb N (t4_80 N) z104 z94 TabOk.nil z13r _ rfl) (fun x K => by kernel_rfl)

def z4e (N : Nat) (s : (List UInt8)) (t : (List UInt8)) (a : DT1) (b : DT1) (g : (Int × (Int × Unit))) (c : DT1) (h : (Int × (Int × Unit))) (k0 : Bool -> Option Bool) (k1 : Option Bool) : Option Bool :=
 z4d N s t a b g c h
 (fun x84 => cond x84
 (k0 false)
 (k1))

def z192 (N : Nat) (x : z1p z13n) (K : Ex -> List A -> Option Bool) : Option Bool :=
 z4e N x.1 x.2.1 x.2.2.1 x.2.2.2.1 x.2.2.2.2.1 x.2.2.2.2.2.1 x.2.2.2.2.2.2.1 (fun a0 => (K .ret (mkS [(4, .v .bool)] 126 (a0, ())))) (K .normal (mkS [(0, .v .str), (0, .v .str), (3, .box TT0), (3, .box TT0), (0, .box TT6)] 120 (x.1, x.2.1, x.2.2.1, x.2.2.2.2.2.1, x.2.2.2.2.2.2.1, ())))

def z174 (N : Nat) : Hd Bool := fun st K => (unS z13n 120 (restr [5, 8, 7, 10, 0, 1, 9] 0 st)).bind fun x => z192 N x K

def t3_80 (N : Nat) : Tab Bool := [(z13r, z16z N)]

theorem z14r {N : Nat} {c : Ctx} (hb : Base Tryd.prog (zyw N) c) : z14 Tryd.prog c (zd z94 ztx) (z174 N) :=
  z16 (s := z13n) (m := 120) (g := z192 N) [5, 8, 7, 10, 0, 1, 9] (zg hb N (t3_80 N) z104 z94 (TabOk.cons (z14m hb) TabOk.nil) ztx _ rfl) (fun x K => by kernel_rfl)

def z24 (N : Nat) (a : DT1) (c : DT1) (d : DT1) (i : (Int × (Int × Unit))) (k0 : Int -> Option Bool) : Option Bool :=
 cond (a.1 == (3 : Int))
 (k0 (((List.length a.2.2.1) : Nat) : Int))
 (k0 (1 : Int))

def z18u (N : Nat) (x : z1p SQ84) (K : Ex -> List A -> Option Bool) : Option Bool :=
 z24 N x.1 x.2.1 x.2.2.1 x.2.2.2.1 (fun a3 => (K .normal (mkS SQ52 117 (x.2.1, x.2.2.1, x.2.2.2.1, a3, ()))))

def z16w (N : Nat) : Hd Bool := fun st K => (unS SQ84 118 (restr [5, 9, 12, 11] 0 st)).bind fun x => z18u N x K

def t5_80 (N : Nat) : Tab Bool := []

theorem z14j {N : Nat} {c : Ctx} (hb : Base Tryd.prog (zyw N) c) : z14 Tryd.prog c (zd z94 [0, 1, 1, 1, 1, 1, 1, 1, 1, 1, 1]) (z16w N) :=
  z16 (s := SQ84) (m := 118) (g := z18u N) [5, 9, 12, 11] (zg hb N (t5_80 N) z104 z94 TabOk.nil [0, 1, 1, 1, 1, 1, 1, 1, 1, 1, 1] _ rfl) (fun x K => by kernel_rfl)

def z23 (N : Nat) (c : DT1) (d : DT1) (i : (Int × (Int × Unit))) (n : Int) (k0 : Int -> Option Bool) : Option Bool :=
 cond (c.1 == (3 : Int))
 (k0 (IntKind.wrap IntKind.i64 (n + (((List.length c.2.2.1) : Nat) : Int))))
 (k0 (IntKind.wrap IntKind.i64 (n + (1 : Int))))

def z18r (N : Nat) (x : z1p SQ52) (K : Ex -> List A -> Option Bool) : Option Bool :=
 z23 N x.1 x.2.1 x.2.2.1 x.2.2.2.1 (fun a2 => (K .normal (mkS [(11, .box TT0), (0, .box TT6), (0, .v (.int .i64))] 117 (x.2.1, x.2.2.1, a2, ()))))

def z16t (N : Nat) : Hd Bool := fun st K => (unS SQ52 117 (restr [9, 13, 12, 11] 0 st)).bind fun x => z18r N x K

def t6_80 (N : Nat) : Tab Bool := []

theorem z14g {N : Nat} {c : Ctx} (hb : Base Tryd.prog (zyw N) c) : z14 Tryd.prog c (zd z94 [0, 1, 1, 1, 1, 1, 1, 1, 1, 1, 1, 1]) (z16t N) :=
  z16 (s := SQ52) (m := 117) (g := z18r N) [9, 13, 12, 11] (zg hb N (t6_80 N) z104 z94 TabOk.nil [0, 1, 1, 1, 1, 1, 1, 1, 1, 1, 1, 1] _ rfl) (fun x K => by kernel_rfl)

def z21 (N : Nat) (s : (List UInt8)) (t : (List UInt8)) : Option Bool :=
 z4g N s t
 (fun x4 => some x4)
 ((z3o N s).bind fun y =>
 cond (decide ((1 + (List.length s)) <= 9223372036854775807))
 (cond (decide (((List.length (([(40 : UInt8)] : List UInt8) ++ s)) + 1) <= 9223372036854775807))
 ((z3o N ((([(40 : UInt8)] : List UInt8) ++ s) ++ ([(41 : UInt8)] : List UInt8))).bind fun y1 =>
 (z3o N t).bind fun y2 =>
 cond (y.2.1.1 != (0 : Int))
 ((z1y N y.1 ((0 : Int), (([(0 : Int), (0 : Int), (0 : Int), (0 : Int)] : List Int), (([] : List Tree), ((0 : Int), ((0 : Int), ())))))).bind fun y3 =>
 cond y3
 (cond (decide ((0 : Int) <= y.2.1.2.1))
 (cond (decide (y.2.1.2.1 <= (((List.length s) : Nat) : Int)))
 ((z3a N).bind fun y4 =>
 some y4)
 (some false))
 (some false))
 (some false))
 (z4e N s t y.1 y1.1 y1.2.1 y2.1 y2.2.1
 (fun x41 => some x41)
 (cond (y2.2.1.1 != (0 : Int))
 ((z3a N).bind fun y5 =>
 some y5)
 (cond (decide (((List.length s) + 1) <= 9223372036854775807))
 (cond (decide (((List.length (s ++ ([(124 : UInt8)] : List UInt8))) + (List.length t)) <= 9223372036854775807))
 ((z3o N ((s ++ ([(124 : UInt8)] : List UInt8)) ++ t)).bind fun y6 =>
 z24 N y.1 y2.1 y6.1 y6.2.1
 (fun n => z23 N y2.1 y6.1 y6.2.1 n
 (fun n1 => cond (eqD (T.pair (T.int IntKind.i64) (T.pair (T.int IntKind.i64) T.unit)) y6.2.1 ((0 : Int), ((0 : Int), ())))
 (cond (y6.1.1 == (3 : Int))
 (cond ((((List.length y6.1.2.2.1) : Nat) : Int) == n1)
 ((z3a N).bind fun y7 =>
 some y7)
 (some false))
 (some false))
 (some false))))
 (none))
 (none)))))
 (none))
 (none))

def t_80 (N : Nat) : Tab Bool := [([0, 1], z17p N), (ztx, z174 N), ([0, 1, 1, 1, 1, 1, 1, 1, 1, 1, 1], z16w N), ([0, 1, 1, 1, 1, 1, 1, 1, 1, 1, 1, 1], z16t N)]

theorem z117 (N : Nat) (x : z1p zx4) : zc6 (zyw N) N (t_80 N) z104 Tryd.f5 (mkS zx4 0 x) (zc5 (.v .bool) 2) = z21 N x.1 x.2.1 := by kernel_rfl

def zam (N : Nat) : List A -> Res := z1z zx4 (fun x => z21 N x.1 x.2.1) (zfe (.v .bool) 2)

theorem zaz (N : Nat) : Contract Tryd.prog glob 5 (zam N) :=
  Contract.of (E := zyw N) (H := t_80 N) (L := z104) (N := N) (body := z94) (K := (zc5 (.v .bool) 2)) (z1bc N) Tryd.func5 (by kernel_rfl) (by decide) (fun _ hb => (TabOk.cons (z15c hb) (TabOk.cons (z14r hb) (TabOk.cons (z14j hb) (TabOk.cons (z14g hb) TabOk.nil))))) (fun x y h => by rw [z117]; exact h) (z5p (s := (.v .bool)) (m := 2))

end
end Go.Proofs.YtbfmhambfonpcaaDoorLg

set_option linter.all false
set_option maxRecDepth 100000
namespace Go.Proofs.YtbfmhambfonpcaaDoorLg
noncomputable section
open Go Go.Lift Go.Proofs.YtbfmhambfonpcaaDoorPx

theorem zsr (k : Nat) : z3a (k + 300) = some true := by kernel_rfl

mutual
theorem zgx : ∀ a : Tree, zia a a = true
  | .mk k st ks lo hi => by rw [zia]; simp [zkz ks]
theorem zkz : ∀ a : List Tree, zkc a a = true
  | [] => by simp [zkc]
  | x :: xs => by rw [zkc, zgx x, zkz xs]; rfl
end

end
end Go.Proofs.YtbfmhambfonpcaaDoorLg

set_option linter.all false
set_option maxRecDepth 100000
namespace Go.Proofs.YtbfmhambfonpcaaDoorLg
noncomputable section
open Go Go.Lift Go.Proofs.YtbfmhambfonpcaaDoorPx

def z145 (r : PR Tree) : Tree := match r with
  | .bad _ _ => .mk 0 z4 [] 0 0
  | .ok t _ => t

theorem zu3 : WfN (.mk 0 z4 [] 0 0) := by
  rw [WfN]
  refine ⟨?_, zr6 zao, ?_, ?_, ?_⟩
  . exact zd0 (by omega) (by omega)
  . exact ⟨by unfold maxLen; simp, by simp [zx0]⟩
  . exact zd0 (by omega) (by omega)
  . exact zd0 (by omega) (by omega)

theorem zl7 (s : List UInt8) : WfN (z145 (z3y s)) /\ z2s (z145 (z3y s)) <= 1000 := by
  have hz : WfN (.mk 0 z4 [] 0 0) /\ z2s (.mk 0 z4 [] 0 0) <= 1000 := ⟨zu3, by simp [z2s, z27]⟩
  unfold z3y
  by_cases hl : 256 < s.length
  . rw [if_pos hl]; exact hz
  . rw [if_neg hl]
    have hs : s.length <= 256 := by omega
    cases h : zax s 16 0 with
    | bad e c => exact hz
    | ok t c =>
      have hc := zw (z9i s 16 0 (by omega)) h
      have ht := zsj hs 16 0 (by omega) t c h
      simp only [PR.next]
      split
      . exact hz
      . exact ⟨ht.1, by have := ht.2; show z2s t <= 1000; omega⟩

end
end Go.Proofs.YtbfmhambfonpcaaDoorLg

set_option linter.all false
set_option maxRecDepth 100000
namespace Go.Proofs.YtbfmhambfonpcaaDoorLg
noncomputable section
open Go Go.Lift Go.Proofs.YtbfmhambfonpcaaDoorPx


theorem zef : ∀ {ks : List Tree}, zdh ks = true ↔ ∀ x ∈ ks, z1t x = true
  | [] => ⟨fun _ => (by intro x h; cases h), fun _ => (by simp [zdh])⟩
  | y :: ys => by
    rw [zdh, Bool.and_eq_true, zef]
    exact ⟨fun h x hx => by
      rcases List.mem_cons.1 hx with rfl | hx
      . exact h.1
      . exact h.2 x hx, fun h => ⟨h y (List.mem_cons_self ..), fun x hx => h x (List.mem_cons_of_mem _ hx)⟩⟩

theorem zg9 (st : List Int) : z1t (zx3 st) = true := by
  unfold zx3; rw [z1t, zdh]; rfl

theorem zg0 {t : Tree} {lo hi : Int} (h : z1t t = true) (ht : zn6 lo hi = true) : z1t (zpf t lo hi) = true := by
  unfold zpf; rw [z1t, zdh, zdh, h]
  unfold shT z4
  rw [if_neg (by decide), if_neg (by decide), if_neg (by decide), if_pos rfl, ht]; rfl

theorem sh2 {st : List Int} {ks : List Tree} {lo hi : Int} (h : shT 2 st ks lo hi = true) : st = z4 /\ lo = 0 /\ hi = 0 /\ ks.length ≠ 1 /\ ∀ x ∈ ks, z7n x ≠ 2 := by
  unfold shT at h
  rw [if_neg (by decide), if_pos rfl] at h
  simp at h
  exact ⟨h.1, h.2.1, h.2.2.1, h.2.2.2.1, h.2.2.2.2⟩

theorem sh3 {st : List Int} {ks : List Tree} {lo hi : Int} (h : shT 3 st ks lo hi = true) : st = z4 /\ lo = 0 /\ hi = 0 /\ 2 <= ks.length /\ ∀ x ∈ ks, z7n x ≠ 3 := by
  unfold shT at h
  rw [if_neg (by decide), if_neg (by decide), if_pos rfl] at h
  simp at h
  exact ⟨h.1, h.2.1, h.2.2.1, h.2.2.2.1, h.2.2.2.2⟩

theorem mk2 {ks : List Tree} (h1 : ks.length ≠ 1) (h2 : ∀ x ∈ ks, z7n x ≠ 2) (h3 : ∀ x ∈ ks, z1t x = true) : z1t (.mk 2 [0, 0, 0, 0] ks 0 0) = true := by
  rw [z1t, zef.2 h3]
  unfold shT
  rw [if_neg (by decide), if_pos rfl]
  simp
  exact ⟨h1, h2⟩

theorem mk3 {ks : List Tree} (h1 : 2 <= ks.length) (h2 : ∀ x ∈ ks, z7n x ≠ 3) (h3 : ∀ x ∈ ks, z1t x = true) : z1t (.mk 3 [0, 0, 0, 0] ks 0 0) = true := by
  rw [z1t, zef.2 h3]
  unfold shT
  rw [if_neg (by decide), if_neg (by decide), if_pos rfl]
  simp
  exact ⟨h1, h2⟩

theorem zt8 {k : Int} (hk : k = 2 \/ k = 3) {p : Tree} (h : z1t p = true) : ∀ x ∈ zci k p, z1t x = true /\ z7n x ≠ k := by
  intro x hx
  unfold zci at hx
  cases hq : z7n p == k with
  | false =>
    rw [hq] at hx
    rw [List.mem_singleton.1 hx]
    exact ⟨h, fun e => by rw [e] at hq; simp at hq⟩
  | true =>
    rw [hq] at hx
    obtain ⟨k', st, ks, lo, hi⟩ := p
    have e : k' = k := eq_of_beq hq
    subst e
    rw [z1t, Bool.and_eq_true] at h
    refine ⟨zef.1 h.2 x hx, ?_⟩
    rcases hk with rfl | rfl
    . exact (sh2 h.1).2.2.2.2 x hx
    . exact (sh3 h.1).2.2.2.2 x hx

theorem zhf {k : Int} (hk : k = 2 \/ k = 3) {ps : List Tree} (h : ∀ p ∈ ps, z1t p = true) : ∀ x ∈ z52 k ps, z1t x = true /\ z7n x ≠ k := by
  intro x hx
  obtain ⟨p, hp, hx⟩ := List.mem_flatMap.1 hx
  exact zt8 hk (h p hp) x hx

theorem zuy {p : Tree} (h : z1t p = true) : 0 < (zci 3 p).length := by
  unfold zci
  cases hq : z7n p == 3 with
  | false => exact Nat.zero_lt_one
  | true =>
    obtain ⟨k', st, ks, lo, hi⟩ := p
    have e : k' = 3 := eq_of_beq hq
    subst e
    rw [z1t, Bool.and_eq_true] at h
    have := (sh3 h.1).2.2.2.1
    show 0 < ks.length
    omega

theorem zgg {ps : List Tree} (hn : ps ≠ []) (h : ∀ p ∈ ps, z1t p = true) : 0 < (z52 3 ps).length := by
  cases ps with
  | nil => exact absurd rfl hn
  | cons p qs =>
    have := zuy (h p (List.mem_cons_self ..))
    show 0 < (zci 3 p ++ z52 3 qs).length
    rw [List.length_append]; omega

theorem zpy {ps : List Tree} (h : ∀ p ∈ ps, z1t p = true) : z1t (z57 2 ps) = true := by
  have q := zhf (Or.inl rfl) h
  unfold z57
  generalize z52 2 ps = f at q
  match f, q with
  | [], q => exact mk2 (by simp) (fun x hx => by cases hx) (fun x hx => by cases hx)
  | [x], q => exact (q x (List.mem_cons_self ..)).1
  | x :: y :: zs, q => exact mk2 (by simp) (fun x hx => (q x hx).2) (fun x hx => (q x hx).1)

theorem zpx {ps : List Tree} (hn : ps ≠ []) (h : ∀ p ∈ ps, z1t p = true) : z1t (z57 3 ps) = true := by
  have q := zhf (Or.inr rfl) h
  have hp := zgg hn h
  unfold z57
  generalize z52 3 ps = f at q hp
  match f, q, hp with
  | [x], q, _ => exact (q x (List.mem_cons_self ..)).1
  | x :: y :: zs, q, _ => exact mk3 (by simp) (fun x hx => (q x hx).2) (fun x hx => (q x hx).1)

theorem zo6 {k : Int} (hk : k = 2 \/ k = 3) {t : Tree} (h : z1t t = true) : z57 k [t] = t := by
  have e : z52 k [t] = zci k t := by simp [z52]
  unfold z57
  rw [e]
  unfold zci
  cases hq : z7n t == k with
  | false => rfl
  | true =>
    obtain ⟨k', st, ks, lo, hi⟩ := t
    have e : k' = k := eq_of_beq hq
    subst e
    rw [z1t, Bool.and_eq_true] at h
    have w : st = z4 /\ lo = 0 /\ hi = 0 /\ ks.length ≠ 1 := by
      rcases hk with rfl | rfl
      . have := sh2 h.1; exact ⟨this.1, this.2.1, this.2.2.1, this.2.2.2.1⟩
      . have := sh3 h.1; exact ⟨this.1, this.2.1, this.2.2.1, by have := this.2.2.2.1; omega⟩
    obtain ⟨rfl, rfl, rfl, hl⟩ := w
    simp only [cond_true]
    show (match ks with | [x] => x | kids => Tree.mk k' [0, 0, 0, 0] kids 0 0) = _
    match ks, hl with
    | [], _ => rfl
    | [x], h1 => exact absurd rfl h1
    | x :: y :: zs, _ => rfl

def RgR (r : PR Tree) : Prop := ∀ t b, r = .ok t b -> z1t t = true
theorem RgR.bad {e : Int} {x : Nat} : RgR (.bad e x) := fun t b h => by cases h
theorem RgR.ok {t : Tree} {x : Nat} (h : z1t t = true) : RgR (.ok t x) := fun t b h => by cases h; assumption
theorem RgR.next {α : Type} {r : PR α} {f : α -> Nat -> PR Tree} (h : ∀ x b, r = .ok x b -> RgR (f x b)) : RgR (r.next f) := by
  cases r with
  | bad e b => exact RgR.bad
  | ok x b => exact h x b rfl

theorem zts {sub : Option (Nat -> PR Tree)} {s : List UInt8} {a : Nat} (hS : ∀ f, sub = some f -> ∀ b, RgR (f b)) : RgR (zcn sub s a) := by
  unfold zcn
  split
  . cases sub with
    | none => exact RgR.bad
    | some f => exact RgR.next fun t a1 e => RgR.next fun _ a2 _ => RgR.ok (hS f rfl (a + 1) t a1 e)
  split
  . exact RgR.ok (zg9 _)
  split
  . exact RgR.next fun _ _ _ => RgR.ok (zg9 _)
  split
  . exact RgR.next fun _ _ _ => RgR.ok (zg9 _)
  split
  . exact RgR.bad
  . exact RgR.ok (zg9 _)

theorem zpi {sub : Option (Nat -> PR Tree)} {s : List UInt8} {a : Nat} (hS : ∀ f, sub = some f -> ∀ b, RgR (f b)) : RgR (zb4 sub s a) := by
  refine RgR.next fun t a1 e => ?_
  have ht := zts hS t a1 e
  split
  . split
    . exact RgR.ok (zg0 ht rfl)
    split
    . exact RgR.ok (zg0 ht rfl)
    split
    . exact RgR.ok (zg0 ht rfl)
    split
    . exact RgR.next fun lh _ e => RgR.ok (zg0 ht (by
        have := zox e
        unfold zn6
        exact decide_eq_true ⟨this.1, this.2.1, this.2.2⟩))
    . exact RgR.ok ht
  . exact RgR.ok ht

theorem zl1 {ps : List Tree} {t : Tree} (h : ∀ p ∈ ps, z1t p = true) (ht : z1t t = true) : ∀ p ∈ ps ++ [t], z1t p = true := by
  intro p hp
  rcases List.mem_append.1 hp with hp | hp
  . exact h p hp
  . rw [List.mem_singleton.1 hp]; exact ht

theorem zgm {sub : Option (Nat -> PR Tree)} {s : List UInt8} (hS : ∀ f, sub = some f -> ∀ b, RgR (f b)) : ∀ (k a : Nat) (ps : List Tree), (∀ p ∈ ps, z1t p = true) -> RgR (zcm sub s k a ps)
  | 0, a, ps, h => RgR.bad
  | k + 1, a, ps, h => by
    unfold zcm
    split
    . exact RgR.ok (zpy h)
    . exact RgR.next fun t a1 e => zgm hS k a1 _ (zl1 h (zpi hS t a1 e))


def z8m (sub : Option (Nat -> PR Tree)) (s : List UInt8) : Nat -> Nat -> List Tree -> PR (List Tree)
  | 0, _, _ => .bad 0 0
  | k + 1, a, ps => if isB s a 124 then (zcm sub s (s.length + 1) (a + 1) []).next fun t a1 => z8m sub s k a1 (ps ++ [t]) else .ok ps a

theorem znt {α β γ : Type} (r : PR α) (f : α -> Nat -> PR β) (g : β -> Nat -> PR γ) : (r.next f).next g = r.next fun x a => (f x a).next g := by cases r <;> rfl

theorem ze6 (sub : Option (Nat -> PR Tree)) (s : List UInt8) : ∀ (k a : Nat) (ps : List Tree), zco sub s k a ps = (z8m sub s k a ps).next fun L b => .ok (z57 3 L) b
  | 0, a, ps => rfl
  | k + 1, a, ps => by
    rw [zco, z8m]
    split
    . rw [znt]
      congr 1
      funext t a1
      exact ze6 sub s k a1 _
    . rfl

theorem zfq {sub : Option (Nat -> PR Tree)} {s : List UInt8} (hS : ∀ f, sub = some f -> ∀ b, RgR (f b)) : ∀ (k a : Nat) (ps L : List Tree) (b : Nat), (∀ p ∈ ps, z1t p = true) -> z8m sub s k a ps = .ok L b -> (∀ p ∈ L, z1t p = true) /\ (ps ≠ [] -> L ≠ [])
  | 0, a, ps, L, b, h, e => by cases e
  | k + 1, a, ps, L, b, h, e => by
    rw [z8m] at e
    split at e
    . cases hc : zcm sub s (s.length + 1) (a + 1) [] with
      | bad x y => rw [hc] at e; cases e
      | ok t a1 =>
        rw [hc] at e
        have q := zfq hS k a1 _ L b (zl1 h (zgm hS _ _ [] (fun p hp => by cases hp) t a1 hc)) e
        exact ⟨q.1, fun _ => q.2 (by simp)⟩
    . cases e; exact ⟨h, fun h => h⟩

theorem zp4 (s : List UInt8) : ∀ (d a : Nat), RgR (zax s d a) := by
  have step : ∀ d a, (∀ f, z9t s d = some f -> ∀ b, RgR (f b)) -> RgR (zax s d a) := by
    intro d a hS
    rw [ze7]
    refine RgR.next fun t a1 e => ?_
    rw [ze6]
    refine RgR.next fun L b e2 => RgR.ok ?_
    have q := zfq hS _ _ [t] L b (fun p hp => by rw [List.mem_singleton.1 hp]; exact zgm hS _ _ [] (fun p hp => by cases hp) t a1 e) e2
    exact zpx (q.2 (by simp)) q.1
  intro d
  induction d with
  | zero => intro a; exact step 0 a (fun f h => by cases h)
  | succ d ih => intro a; exact step (d + 1) a (fun f h b => by cases h; exact ih b)

theorem zz1 (s : List UInt8) (d : Nat) : ∀ f, z9t s d = some f -> ∀ b, RgR (f b) := by
  cases d with
  | zero => intro f h; cases h
  | succ d => intro f h; cases h; exact fun b => zp4 s d b


structure Cx (s S : List UInt8) (p : Nat) : Prop where
  len : s.length + p <= S.length
  at_ : ∀ a, a < s.length -> gb S (a + p) = gb s a
  end_ : s.length + p < S.length -> gb S (s.length + p) = 41 \/ gb S (s.length + p) = 124

def Lf {α : Type} (p : Nat) (r r' : PR α) : Prop := ∀ x b, r = .ok x b -> r' = .ok x (b + p)

theorem Lf.next {α β : Type} {p : Nat} {r r' : PR α} {f f' : α -> Nat -> PR β} (h : Lf p r r') (hf : ∀ x b, r = .ok x b -> Lf p (f x b) (f' x (b + p))) : Lf p (r.next f) (r'.next f') := by
  cases hr : r with
  | bad e c => intro x b e; cases e
  | ok x b => rw [h x b hr]; exact hf x b hr
theorem Lf.bad {α : Type} {p : Nat} {e : Int} {a : Nat} {r' : PR α} : Lf p (.bad e a) r' := fun x b h => by cases h
theorem Lf.ok {α : Type} {p : Nat} {x : α} {a : Nat} : Lf p (.ok x a) (.ok x (a + p)) := fun y b h => by cases h; rfl

variable {s S : List UInt8} {p : Nat}

theorem Cx.next (h : Cx s S p) (a : Nat) : Lf p (z83 s a) (z83 S (a + p)) := by
  rcases Nat.lt_or_ge a s.length with hl | hl
  . have := h.len
    rw [zve hl, zve (show a + p < S.length by omega), h.at_ a hl]; exact Lf.ok
  . rw [zs1 hl]; exact Lf.bad

theorem Cx.isb (h : Cx s S p) {a b : Nat} (ha : a <= s.length) (hb : b ≠ 41 /\ b ≠ 124) : isB S (a + p) b = isB s a b := by
  have := h.len
  unfold isB
  rcases Nat.lt_or_ge a s.length with hl | hl
  . rw [decide_eq_true hl, decide_eq_true (show a + p < S.length by omega), h.at_ a hl]
  . obtain rfl : a = s.length := by omega
    rw [decide_eq_false (show ¬ s.length < s.length by omega)]
    rcases Nat.lt_or_ge (s.length + p) S.length with h2 | h2
    . have := h.end_ h2
      have e : (gb S (s.length + p) == b) = false := by
        rw [beq_eq_false_iff_ne]; omega
      rw [e]; simp
    . rw [decide_eq_false (by omega)]; rfl

theorem Cx.isb_t (h : Cx s S p) {a b : Nat} (e : isB s a b = true) : isB S (a + p) b = true := by
  have := h.len
  simp [isB] at e
  have q := h.at_ a e.1
  simp [isB, q, e.2]; omega

theorem Cx.isb_in (h : Cx s S p) {a b : Nat} (ha : a < s.length) : isB S (a + p) b = isB s a b := by
  have := h.len
  unfold isB
  rw [decide_eq_true ha, decide_eq_true (show a + p < S.length by omega), h.at_ a ha]

theorem Cx.need (h : Cx s S p) (a b : Nat) : Lf p (zaq s a b) (zaq S (a + p) b) := by
  refine (h.next a).next fun c a1 _ => ?_
  split
  . rw [show a1 + p + 1 = a1 + 1 + p by omega]; exact Lf.ok
  . exact Lf.bad

theorem Cx.hex (h : Cx s S p) (fr fr' a : Nat) : Lf p (zpp s fr a) (zpp S fr' (a + p)) := by
  refine (h.next a).next fun c a1 _ => ?_
  split
  . rw [show a1 + p + 1 = a1 + 1 + p by omega]; exact Lf.ok
  split
  . rw [show a1 + p + 1 = a1 + 1 + p by omega]; exact Lf.ok
  . exact Lf.bad

theorem Cx.esc (h : Cx s S p) (a : Nat) : Lf p (zpq s a) (zpq S (a + p)) := by
  unfold zpq
  rw [show a + p + 1 = a + 1 + p by omega, show a + p + 2 = a + 2 + p by omega]
  refine (h.next (a + 1)).next fun c a1 _ => ?_
  split
  . exact Lf.ok
  split
  . exact Lf.ok
  split
  . exact (h.hex a (a + p) (a + 2)).next fun x a2 _ => (h.hex a (a + p) a2).next fun y a3 _ => Lf.ok
  split
  . exact Lf.ok
  . exact Lf.bad

theorem Cx.sign (h : Cx s S p) (a : Nat) : Lf p (zfg s a) (zfg S (a + p)) := by
  refine (h.next a).next fun c a1 _ => ?_
  split
  . exact h.esc a
  split
  . exact Lf.bad
  . rw [show a + p + 1 = a + 1 + p by omega]; exact Lf.ok

theorem Cx.item (h : Cx s S p) (a : Nat) : Lf p (zer s a) (zer S (a + p)) := by
  refine (h.sign a).next fun r a1 e => ?_
  have hc := zw (zed s a) e
  rw [h.isb hc.2 (by decide), show a1 + p + 1 = a1 + 1 + p by omega]
  split
  . exact Lf.ok
  . refine (h.sign (a1 + 1)).next fun q a2 _ => ?_
    split
    . exact Lf.bad
    . exact Lf.ok

theorem Cx.items (h : Cx s S p) : ∀ (k k' a : Nat) (acc : List Int), a <= s.length -> k <= k' -> Lf p (z9f s k a acc) (z9f S k' (a + p) acc)
  | 0, k', a, acc, ha, hk => Lf.bad
  | k + 1, k', a, acc, ha, hk => by
    obtain ⟨j, rfl⟩ : ∃ j, k' = j + 1 := ⟨k' - 1, by omega⟩
    unfold z9f
    rw [h.isb ha (by decide), show a + p + 1 = a + 1 + p by omega]
    split
    . exact Lf.ok
    . refine (h.item a).next fun t a1 e => ?_
      exact Cx.items h k j a1 _ (zw (z6p s a) e).2 (by omega)

theorem Cx.cls (h : Cx s S p) {a : Nat} (ha : a <= s.length) : Lf p (zar s a) (zar S (a + p)) := by
  have hl := h.len
  unfold zar
  rw [h.isb ha (by decide), show (if isB s a 94 = true then a + p + 1 else a + p) = (if isB s a 94 = true then a + 1 else a) + p by split <;> omega]
  refine (h.item _).next fun t a1 e => ?_
  refine (h.items _ _ a1 t (zw (z6p s _) e).2 (by omega)).next fun acc a2 _ => Lf.ok

theorem Cx.scan (h : Cx s S p) : ∀ (k k' a v : Nat), a <= s.length -> s.length < a + k -> k <= k' -> z8y S k' (a + p) v = ((z8y s k a v).1, (z8y s k a v).2 + p)
  | 0, k', a, v, h1, h2, h3 => by omega
  | k + 1, k', a, v, h1, h2, h3 => by
    have hl := h.len
    obtain ⟨j, rfl⟩ : ∃ j, k' = j + 1 := ⟨k' - 1, by omega⟩
    rw [z8y, z8y]
    rcases Nat.lt_or_ge a s.length with hlt | hge
    . rw [h.at_ a hlt]
      by_cases hd : zjx (gb s a) = true
      . rw [if_pos ⟨(by omega : a + p < S.length), hd⟩, if_pos ⟨hlt, hd⟩, show a + p + 1 = a + 1 + p by omega]
        exact Cx.scan h k j (a + 1) _ (by omega) (by omega) (by omega)
      . rw [if_neg (fun q => hd q.2), if_neg (fun q => hd q.2)]
    . obtain rfl : a = s.length := by omega
      rw [if_neg (fun q => by
        have := h.end_ q.1
        have q2 := q.2
        rcases this with e | e <;> (rw [e] at q2; exact absurd q2 (by decide)))]
      rw [if_neg (fun q => absurd q.1 (by omega))]

theorem Cx.num (h : Cx s S p) {a : Nat} (ha : a <= s.length) : Lf p (zp6 s a) (zp6 S (a + p)) := by
  have hl := h.len
  unfold zp6
  rw [h.scan (s.length + 1) (S.length + 1) a 0 ha (by omega) (by omega)]
  refine (h.next a).next fun c a1 _ => ?_
  split
  . dsimp only
    by_cases q : c = 48 /\ a + 1 < (z8y s (s.length + 1) a 0).2
    . rw [if_pos q]; exact Lf.bad
    . have q' : ¬ (c = 48 /\ a + p + 1 < (z8y s (s.length + 1) a 0).2 + p) := fun w => q ⟨w.1, by omega⟩
      rw [if_neg q, if_neg q']
      by_cases v : 16 < (z8y s (s.length + 1) a 0).1
      . rw [if_pos v]; exact Lf.bad
      . rw [if_neg v, if_neg v]; exact Lf.ok
  . exact Lf.bad

theorem Cx.fin (h : Cx s S p) (lo hi fr fr' a : Nat) : Lf p (zs3 s lo hi fr a) (zs3 S lo hi fr' (a + p)) := by
  unfold zs3
  split
  . exact Lf.bad
  . exact (h.need a 125).next fun _ _ _ => Lf.ok

theorem Cx.braces (h : Cx s S p) {a : Nat} (ha : a <= s.length) : Lf p (z8z s a) (z8z S (a + p)) := by
  refine (h.num ha).next fun lo a1 e => ?_
  have hc := zw (zdv s a) e
  rw [h.isb hc.2 (by decide)]
  split
  . rename_i h44
    have hlt : a1 < s.length := by simp [isB] at h44; omega
    rw [show a1 + p + 1 = a1 + 1 + p by omega, h.isb (by omega) (by decide), show a1 + p + 2 = a1 + 2 + p by omega]
    split
    . exact Lf.ok
    . exact (h.num (by omega)).next fun hi a2 _ => h.fin lo hi _ _ a2
  . exact h.fin lo lo _ _ a1

def Ld {α : Type} (D : Prop) (p : Nat) (r r' : PR α) : Prop := ∀ x b, r = .ok x b -> r' = .ok x (b + p) \/ (D /\ ∃ c, r' = .bad 3 c)

theorem Lf.ld {α : Type} {D : Prop} {p : Nat} {r r' : PR α} (h : Lf p r r') : Ld D p r r' := fun x b e => Or.inl (h x b e)

theorem Ld.next {α β : Type} {D : Prop} {p : Nat} {r r' : PR α} {f f' : α -> Nat -> PR β} (h : Ld D p r r') (hf : ∀ x b, r = .ok x b -> Ld D p (f x b) (f' x (b + p))) : Ld D p (r.next f) (r'.next f') := by
  cases hr : r with
  | bad e c => intro x b e; cases e
  | ok x b =>
    rcases h x b hr with e | ⟨hD, c, e⟩
    . rw [e]; exact hf x b hr
    . rw [e]; exact fun _ _ _ => Or.inr ⟨hD, c, rfl⟩

def z13g (D : Prop) (s : List UInt8) (p : Nat) (sub sub' : Option (Nat -> PR Tree)) : Prop := ∀ f, sub = some f -> (sub' = none /\ D) \/ ∃ f', sub' = some f' /\ ∀ a, a <= s.length -> ∀ x b, f a = .ok x b -> b < s.length -> f' (a + p) = .ok x (b + p) \/ (D /\ ∃ c, f' (a + p) = .bad 3 c)

theorem Cx.atom (h : Cx s S p) {D : Prop} {sub sub' : Option (Nat -> PR Tree)} (hS : z13g D s p sub sub') {a : Nat} (ha : a < s.length) : Ld D p (zcn sub s a) (zcn sub' S (a + p)) := by
  unfold zcn
  rw [h.at_ a ha, show a + p + 1 = a + 1 + p by omega]
  split
  . cases sub with
    | none => exact fun x b e => by cases e
    | some f =>
      intro x b e
      rcases hS f rfl with ⟨rfl, hD⟩ | ⟨f', rfl, hf⟩
      . exact Or.inr ⟨hD, _, rfl⟩
      . dsimp only at e ⊢
        cases hr : f (a + 1) with
        | bad ee c => rw [hr] at e; cases e
        | ok t c =>
          rw [hr] at e
          cases hn : zaq s c 41 with
          | bad ee c2 => simp only [PR.next, hn] at e; cases e
          | ok u c2 =>
            simp only [PR.next, hn] at e
            have hc : c < s.length := by
              rcases Nat.lt_or_ge c s.length with q | q
              . exact q
              . unfold zaq at hn; rw [zs1 q] at hn; cases hn
            rcases hf (a + 1) (by omega) t c hr hc with q | ⟨hD, c3, q⟩
            . rw [q]
              simp only [PR.next]
              rw [h.need c 41 u c2 hn]
              cases e
              exact Or.inl rfl
            . rw [q]; exact Or.inr ⟨hD, c3, rfl⟩
  split
  . exact Lf.ok.ld
  split
  . refine ((h.cls (a := a + 1) (by omega)).next fun _ _ _ => ?_).ld
    exact Lf.ok
  split
  . refine ((h.esc a).next fun _ _ _ => ?_).ld
    exact Lf.ok
  split
  . exact Lf.bad.ld
  . exact Lf.ok.ld

theorem Cx.piece (h : Cx s S p) {D : Prop} {sub sub' : Option (Nat -> PR Tree)} (hA : zx1 s sub) (hS : z13g D s p sub sub') {a : Nat} (ha : a < s.length) : Ld D p (zb4 sub s a) (zb4 sub' S (a + p)) := by
  have hl := h.len
  refine (h.atom hS ha).next fun t a1 e => ?_
  have hc := zw (zc4 hA ha) e
  rcases Nat.lt_or_ge a1 s.length with hlt | hge
  . rw [if_pos hlt, if_pos (show a1 + p < S.length by omega), h.at_ a1 hlt, show a1 + p + 1 = a1 + 1 + p by omega]
    split
    . exact Lf.ok.ld
    split
    . exact Lf.ok.ld
    split
    . exact Lf.ok.ld
    split
    . refine ((h.braces (a := a1 + 1) (by omega)).next fun _ _ _ => ?_).ld
      exact Lf.ok
    . exact Lf.ok.ld
  . obtain rfl : a1 = s.length := by omega
    rw [if_neg (by omega)]
    split
    . rename_i h2
      have := h.end_ h2
      rw [if_neg (by omega), if_neg (by omega), if_neg (by omega), if_neg (by omega)]
      exact Lf.ok.ld
    . exact Lf.ok.ld

theorem Cx.stop (h : Cx s S p) {a : Nat} (ha : a <= s.length) : zbl S (a + p) = zbl s a := by
  have hl := h.len
  unfold zbl
  rcases Nat.lt_or_ge a s.length with hlt | hge
  . rw [decide_eq_true hlt, decide_eq_true (show a + p < S.length by omega), h.at_ a hlt]
  . obtain rfl : a = s.length := by omega
    rw [decide_eq_false (show ¬ s.length < s.length by omega)]
    rcases Nat.lt_or_ge (s.length + p) S.length with h2 | h2
    . rcases h.end_ h2 with e | e <;> simp [e]
    . rw [decide_eq_false (by omega)]; rfl

theorem Cx.cat (h : Cx s S p) {D : Prop} {sub sub' : Option (Nat -> PR Tree)} (hA : zx1 s sub) (hS : z13g D s p sub sub') : ∀ (k k' a : Nat) (ps : List Tree), a <= s.length -> k <= k' -> Ld D p (zcm sub s k a ps) (zcm sub' S k' (a + p) ps)
  | 0, k', a, ps, ha, hk => Lf.bad.ld
  | k + 1, k', a, ps, ha, hk => by
    obtain ⟨j, rfl⟩ : ∃ j, k' = j + 1 := ⟨k' - 1, by omega⟩
    unfold zcm
    rw [h.stop ha]
    split
    . exact Lf.ok.ld
    . rename_i hst
      have hlt := zua hst
      refine (h.piece hA hS hlt).next fun t a1 e => ?_
      exact Cx.cat h hA hS k j a1 _ (zw (z8x hA hlt) e).2 (by omega)

theorem Cx.altsL (h : Cx s S p) {D : Prop} {sub sub' : Option (Nat -> PR Tree)} (hA : zx1 s sub) (hS : z13g D s p sub sub') (Q : List Tree) : ∀ (k k' a : Nat) (ps L : List Tree) (b : Nat), a <= s.length -> k <= k' -> z8m sub s k a ps = .ok L b -> (b < s.length \/ isB S (s.length + p) 124 = false) →
    z8m sub' S k' (a + p) (Q ++ ps) = .ok (Q ++ L) (b + p) \/ (D /\ ∃ c, z8m sub' S k' (a + p) (Q ++ ps) = .bad 3 c)
  | 0, k', a, ps, L, b, ha, hk, e, hb => by cases e
  | k + 1, k', a, ps, L, b, ha, hk, e, hb => by
    have hl := h.len
    obtain ⟨j, rfl⟩ : ∃ j, k' = j + 1 := ⟨k' - 1, by omega⟩
    rw [z8m] at e
    rw [z8m]
    cases hi : isB s a 124 with
    | true =>
      rw [hi] at e
      rw [h.isb_t hi, if_pos rfl]
      rw [if_pos rfl] at e
      have hlt : a < s.length := by simp [isB] at hi; omega
      cases hc : zcm sub s (s.length + 1) (a + 1) [] with
      | bad x y => rw [hc] at e; cases e
      | ok t a1 =>
        rw [hc] at e
        have hp := zw (z3p hA _ (a + 1) [] (by omega)) hc
        rw [show a + p + 1 = a + 1 + p by omega]
        rcases h.cat hA hS (s.length + 1) (S.length + 1) (a + 1) [] (by omega) (by omega) t a1 hc with q | ⟨hD, c, q⟩
        . rw [q]
          simp only [PR.next]
          rw [List.append_assoc]
          exact Cx.altsL h hA hS Q k j a1 _ L b hp.2 (by omega) e hb
        . rw [q]; exact Or.inr ⟨hD, c, rfl⟩
    | false =>
      rw [hi, if_neg (by simp)] at e
      cases e
      have hf : isB S (a + p) 124 = false := by
        rcases hb with hb | hb
        . rw [h.isb_in hb]; exact hi
        . rcases Nat.lt_or_ge a s.length with hlt | hge
          . rw [h.isb_in hlt]; exact hi
          . obtain rfl : a = s.length := by omega
            exact hb
      rw [hf, if_neg (by simp)]
      exact Or.inl rfl

theorem Cx.alt (h : Cx s S p) {D : Prop} : ∀ (d d' : Nat), (d <= d' \/ D) -> ∀ a, a <= s.length -> ∀ x b, zax s d a = .ok x b -> (b < s.length \/ isB S (s.length + p) 124 = false) -> zax S d' (a + p) = .ok x (b + p) \/ (D /\ ∃ c, zax S d' (a + p) = .bad 3 c) := by
  have step : ∀ (d d' : Nat), z13g D s p (z9t s d) (z9t S d') -> ∀ a, a <= s.length -> ∀ x b, zax s d a = .ok x b -> (b < s.length \/ isB S (s.length + p) 124 = false) -> zax S d' (a + p) = .ok x (b + p) \/ (D /\ ∃ c, zax S d' (a + p) = .bad 3 c) := by
    intro d d' hS a ha x b e hb
    have hl := h.len
    rw [ze7] at e ⊢
    cases hc : zcm (z9t s d) s (s.length + 1) a [] with
    | bad y z => rw [hc] at e; cases e
    | ok t a1 =>
      rw [hc] at e
      simp only [PR.next] at e
      have hp := zw (z3p (z58 s d) _ a [] ha) hc
      rcases h.cat (z58 s d) hS (s.length + 1) (S.length + 1) a [] ha (by omega) t a1 hc with q | ⟨hD, c, q⟩
      . rw [q]
        simp only [PR.next]
        rw [ze6] at e ⊢
        cases hL : z8m (z9t s d) s (s.length + 1) a1 [t] with
        | bad y z => rw [hL] at e; cases e
        | ok L b1 =>
          rw [hL] at e
          cases e
          rcases h.altsL (z58 s d) hS [] (s.length + 1) (S.length + 1) a1 [t] L _ hp.2 (by omega) hL hb with q | ⟨hD, c, q⟩
          . simp only [List.nil_append] at q
            rw [q]; exact Or.inl rfl
          . simp only [List.nil_append] at q
            rw [q]; exact Or.inr ⟨hD, c, rfl⟩
      . rw [q]; exact Or.inr ⟨hD, c, rfl⟩
  intro d
  induction d with
  | zero => intro d' hd; exact step 0 d' (fun f e => by cases e)
  | succ d ih =>
    intro d' hd
    refine step (d + 1) d' fun f e => ?_
    cases e
    cases d' with
    | zero =>
      refine Or.inl ⟨rfl, ?_⟩
      rcases hd with hd | hd
      . omega
      . exact hd
    | succ d' =>
      refine Or.inr ⟨_, rfl, fun a ha x b e hb => ih d' ?_ a ha x b e (Or.inl hb)⟩
      rcases hd with hd | hd
      . exact Or.inl (by omega)
      . exact Or.inr hd

end
end Go.Proofs.YtbfmhambfonpcaaDoorLg
