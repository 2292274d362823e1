import Derived.Test.YtmeecjkimeiogaaDoorLgPrSo3
import Derived.Test.YtmeecjkimeiogaaDoorLgPn
import Derived.Test.YtmeecjkimeiogaaDoorLgPrSo4
import Derived.WalkKit
import Derived.Tactics
import Derived.Tactics2
import Derived.Defers
import Derived.Lib.Hide
import Derived.Below
import Derived.Recover
import Derived.Orders
import Derived.WalkSmall
import Derived.LoopN
import Derived.Test.YtmeecjkimeiogaaDoorChecked
import Derived.KernelRfl
set_option linter.all false
set_option maxRecDepth 100000
namespace Go.Proofs.YtmeecjkimeiogaaDoorLg
noncomputable section
open Go Go.Lift

abbrev PrsT : T := .pair .str z6j

theorem fail_walk {w : World} {v : Value} {e at_ : Int} :
    Calls Tryd.prog 41 #[v, .int .i64 e, .int .i64 at_] w fun r w' => r = .panicked [{ v := .iface 46 (.agg #[.int .i64 e, .int .i64 at_]), recovered := false }] /\ w' = w := by
  go_enter Tryd.func41, Tryd.ntmps41
  go_wp2
  exact ⟨rfl, rfl, rfl⟩

def zo (N : Nat) : List A -> PnRes := zh4 [(0, .box TT2), (0, .v (.int .i64)), (0, .v (.int .i64))] (fun x => some ((x.2.1, (x.2.2.1, ())) : Int × (Int × Unit))) (fun z => ⟨.pair (.int .i64) (.pair (.int .i64) .unit), z⟩)

theorem zw (N : Nat) : ContractP Tryd.prog glob 41 46 (zo N) := by
  refine ContractP.hand ⟨_, Tryd.func41, by kernel_rfl, by decide⟩ ?_
  intro w S vals ob x y har hS hg hy
  obtain ⟨x, n, m, u⟩ := x
  cases u
  obtain ⟨⟨v0, hv0, hA0⟩, _⟩ := har.rel 0 _ rfl
  obtain ⟨⟨v1, hv1, hA1⟩, _⟩ := har.rel 1 _ rfl
  obtain ⟨⟨v2, hv2, hA2⟩, _⟩ := har.rel 2 _ rfl
  have hlen := har.len
  have hvals : vals = [v0, v1, v2] := by
    match vals, hlen with
    | [a, b, c], _ => cases hv0; cases hv1; cases hv2; rfl
  have e1 := VR.int_inv hA1.1
  have e2 := VR.int_inv hA2.1
  subst e1
  subst e2
  subst hvals
  cases hy
  refine fail_walk.mono ?_
  rintro r w' ⟨rfl, rfl⟩
  exact ⟨rfl, WF.refl _ _, hS⟩

def zul : Code := (Tryd.f92.body).getD .skip

def L_64 : List (List Nat × List Nat) := [([0], [0]), ([0, 0, 1], [12, 0]), ([1, 0, 1], [0]), ([0, 1, 0, 1], [0]), ([0, 1, 1], [2, 0]), ([1, 1, 1], [2, 0])]

def E_64 (N : Nat) : Env := z1s tys glob [] [] [] [0] false [] []

theorem z1ks (N : Nat) : EnvOk Tryd.prog (E_64 N) := zf mixed zq (FnsOk.nil) (ItsOk.nil)

def z3t (N : Nat) : PnT := pnT [(41, 46, zo N)]

theorem z8b (N : Nat) : PnOk Tryd.prog glob (z3t N) := PnOk.cons (zw N) (PnOk.nil)

def z95 (N : Nat) (p : DT4) (k0 : (Int × (Int × Unit)) -> Option (Int × (Int × Unit))) (k1 : Option (Int × (Int × Unit))) : Option (Int × (Int × Unit)) :=
 cond (p.2.1 == (((List.length p.1) : Nat) : Int))
 (k0 ((1 : Int), (p.2.1, ())))
 (k1)

def z1ih (N : Nat) (x : zz [(0, .box TT2)]) (K : ExP -> List A -> Option (Int × (Int × Unit))) : Option (Int × (Int × Unit)) :=
 z95 N x.1 (fun a0 => (K (.pan 46) (mkS [(0, .v z6j)] 0 (a0, ())))) (K .normal (mkS [(0, .box TT2)] 27 (x.1, ())))

def z1f6 (N : Nat) : HdP (Int × (Int × Unit)) := fun st K => (unS [(0, .box TT2)] 27 (restr [0] 0 st)).bind fun x => z1ih N x K

def t1_64 (N : Nat) : zc5 (Int × (Int × Unit)) := []

theorem z1bf {N : Nat} {c : Ctx} (hb : Base Tryd.prog (E_64 N) c) (hP : PnOk Tryd.prog glob (z3t N)) : z22 Tryd.prog c (ze zul [0, 1]) (z1f6 N) :=
  z28 (s := [(0, .box TT2)]) (m := 27) (g := z1ih N) [0] (z1n hb hP N (t1_64 N) L_64 zul TabOkP.nil [0, 1] _ rfl) (fun x K => by kernel_rfl)

def z26 (N : Nat) (p : DT4) : Option (Int × (Int × Unit)) :=
 z95 N p
 (fun p1 => some p1)
 (cond (inR p.2.1 (List.length p.1))
 (none)
 (none))

def t_64 (N : Nat) : zc5 (Int × (Int × Unit)) := [([0, 1], z1f6 N)]

theorem z158 (N : Nat) (x : zz [(0, .box TT2)]) : zh5 (E_64 N) (z3t N) N (t_64 N) L_64 Tryd.f92 46 z6j (mkS [(0, .box TT2)] 0 x) (fun z => some z) = z26 N x.1 := by kernel_rfl

def z1y (N : Nat) : List A -> PnRes := zh4 [(0, .box TT2)] (fun x => z26 N x.1) (fun z => ⟨z6j, z⟩)

theorem z2l (N : Nat) : ContractP Tryd.prog glob 92 46 (z1y N) :=
  ContractP.of (E := E_64 N) (Pn := z3t N) (H := t_64 N) (L := L_64) (N := N) (body := zul) (t := z6j) (z1ks N) (z8b N) Tryd.func92 (by kernel_rfl) (by decide) (fun _ hb => (TabOkP.cons (z1bf hb (z8b N)) TabOkP.nil)) (fun x y h => by rw [z158]; exact h)

def zuk : Code := (Tryd.f87.body).getD .skip

def L_65 : List (List Nat × List Nat) := [([0, 0], [7, 0]), ([1, 0], [0]), ([0, 1, 0], [0]), ([1], [0])]

def E_65 (N : Nat) : Env := z1s tys glob [(92, z12 N)] [] [] [0] false [] []

theorem z1kr (N : Nat) : EnvOk Tryd.prog (E_65 N) := zf mixed zq (FnsOk.cons (z1c N) (FnsOk.nil)) (ItsOk.nil)

def z3u (N : Nat) : PnT := pnT [(92, 46, z1y N), (41, 46, zo N)]

theorem z8c (N : Nat) : PnOk Tryd.prog glob (z3u N) := PnOk.cons (z2l N) (PnOk.cons (zw N) (PnOk.nil))

def z96 (N : Nat) (p : DT4) (b : Int) (k0 : (Int × (Int × Unit)) -> Option (Int × (Int × Unit))) (k1 : DT4 -> Option (Int × (Int × Unit))) : Option (Int × (Int × Unit)) :=
 orP ((z26 N p)) (fun z => k0 z)
 ((z1f N p).bind fun y =>
 cond (y.1 != b)
 (k0 ((2 : Int), (y.2.1.2.1, ())))
 (k1 y.2.1))

def z1ig (N : Nat) (x : zz zpb) (K : ExP -> List A -> Option (Int × (Int × Unit))) : Option (Int × (Int × Unit)) :=
 z96 N x.1 x.2.1 (fun a0 => (K (.pan 46) (mkS [(0, .v z6j)] 0 (a0, ())))) (fun a0 => (K .normal (mkS [(0, .box TT2)] 20 (a0, ()))))

def z1f5 (N : Nat) : HdP (Int × (Int × Unit)) := fun st K => (unS zpb 19 (restr [0, 1] 0 st)).bind fun x => z1ig N x K

def t1_65 (N : Nat) : zc5 (Int × (Int × Unit)) := []

theorem z1be {N : Nat} {c : Ctx} (hb : Base Tryd.prog (E_65 N) c) (hP : PnOk Tryd.prog glob (z3u N)) : z22 Tryd.prog c (ze zuk [0]) (z1f5 N) :=
  z28 (s := zpb) (m := 19) (g := z1ig N) [0, 1] (z1n hb hP N (t1_65 N) L_65 zuk TabOkP.nil [0] _ rfl) (fun x K => by kernel_rfl)

def z27 (N : Nat) (p : DT4) (b : Int) : Option (Int × (Int × Unit)) :=
 z96 N p b
 (fun p1 => some p1)
 (fun p2 => none)

def t_65 (N : Nat) : zc5 (Int × (Int × Unit)) := [([0], z1f5 N)]

theorem z157 (N : Nat) (x : zz zpb) : zh5 (E_65 N) (z3u N) N (t_65 N) L_65 Tryd.f87 46 z6j (mkS zpb 0 x) (fun z => some z) = z27 N x.1 x.2.1 := by kernel_rfl

def z2f (N : Nat) : List A -> PnRes := zh4 zpb (fun x => z27 N x.1 x.2.1) (fun z => ⟨z6j, z⟩)

theorem z3h (N : Nat) : ContractP Tryd.prog glob 87 46 (z2f N) :=
  ContractP.of (E := E_65 N) (Pn := z3u N) (H := t_65 N) (L := L_65) (N := N) (body := zuk) (t := z6j) (z1kr N) (z8c N) Tryd.func87 (by kernel_rfl) (by decide) (fun _ hb => (TabOkP.cons (z1be hb (z8c N)) TabOkP.nil)) (fun x y h => by rw [z157]; exact h)

def zao : Code := (Tryd.f86.body).getD .skip

def z13j : List (List Nat × List Nat) := [([0], [0]), ([0, 1], [0, 3]), ([0, 0, 1, 1], [12, 0, 3]), ([1, 0, 1, 1], [0, 3]), ([0, 1, 0, 1, 1], [0, 3]), ([0, 1, 1, 1], [0, 4, 3]), ([0, 0, 1, 1, 1, 1], [0, 4, 3]), (z10q, [37, 4, 0, 3]), (z10p, [4, 0, 3]), (z1k0, [0, 3, 4]), ([0, 0, 1, 0, 0, 0, 1, 1, 1, 1], [0, 4, 3]), ([1, 0, 1, 0, 0, 0, 1, 1, 1, 1], [0, 4, 3]), (z10l, [0, 4, 3]), ([0, 1, 1, 1, 1], [0, 3, 4]), (zkp, [75, 0, 3, 4]), (zxw, [4, 0, 3]), (zy5, [4, 0, 3]), (z10o, [80, 0, 3, 4]), (z10n, [4, 0]), (z13f, [4, 0]), (z10k, [2, 0]), (z13e, [2, 0])]

def z12g (N : Nat) : Env := z1s tys glob [(92, z12 N), (96, z6w N)] [] [] [0] false [] []

theorem z1kq (N : Nat) : EnvOk Tryd.prog (z12g N) := zf mixed zq (FnsOk.cons (z1c N) (FnsOk.cons (zaq N) (FnsOk.nil))) (ItsOk.nil)

def z19 (N : Nat) : PnT := pnT [(92, 46, z1y N), (41, 46, zo N)]

theorem z3g (N : Nat) : PnOk Tryd.prog glob (z19 N) := PnOk.cons (z2l N) (PnOk.cons (zw N) (PnOk.nil))

def z9y (N : Nat) (p : DT4) (from_ : Int) (k0 : (Int × (Int × Unit)) -> Option (Int × (Int × Unit))) (k1 : DT4 -> Option (Int × (Int × Unit))) : Option (Int × (Int × Unit)) :=
 orP ((z26 N p)) (fun z => k0 z)
 ((z1f N p).bind fun y =>
 (z6x N y.1).bind fun y1 =>
 cond (!y1)
 (k0 ((2 : Int), (from_, ())))
 (k1 y.2.1))

def z1if (N : Nat) (x : zz z139) (K : ExP -> List A -> Option (Int × (Int × Unit))) : Option (Int × (Int × Unit)) :=
 z9y N x.1 x.2.1 (fun a0 => (K (.pan 46) (mkS [(0, .v z6j)] 0 (a0, ())))) (fun a0 => (K .normal (mkS z139 81 (a0, x.2.1, ()))))

def z1f4 (N : Nat) : HdP (Int × (Int × Unit)) := fun st K => (unS z139 81 (restr [0, 3] 0 st)).bind fun x => z1if N x K

def t1_66 (N : Nat) : zc5 (Int × (Int × Unit)) := []

theorem z1bd {N : Nat} {c : Ctx} (hb : Base Tryd.prog (z12g N) c) (hP : PnOk Tryd.prog glob (z19 N)) : z22 Tryd.prog c (ze zao [0, 1, 1]) (z1f4 N) :=
  z28 (s := z139) (m := 81) (g := z1if N) [0, 3] (z1n hb hP N (t1_66 N) z13j zao TabOkP.nil [0, 1, 1] _ rfl) (fun x K => by kernel_rfl)

def z9w (N : Nat) (p : DT4) (from_ : Int) (n : Int) (k0 : Option (Int × (Int × Unit))) (k1 : Option (Int × (Int × Unit))) : Option (Int × (Int × Unit)) :=
 cond (decide (p.2.1 < (((List.length p.1) : Nat) : Int)))
 (cond (inR p.2.1 (List.length p.1))
 ((z6x N (((UInt8.toNat (List.getD p.1 (Int.toNat p.2.1) (0 : UInt8))) : Nat) : Int)).bind fun y =>
 cond y
 (k0)
 (k1))
 (none))
 (k1)

def z1go (N : Nat) (x : zz SQ0) (K : ExP -> List A -> Option (Int × (Int × Unit))) : Option (Int × (Int × Unit)) :=
 z9w N x.1 x.2.1 x.2.2.1 (K .normal (mkS SQ0 80 (x.1, x.2.1, x.2.2.1, ()))) (K (.exit 0) (mkS SQ0 80 (x.1, x.2.1, x.2.2.1, ())))

def z1dd (N : Nat) : HdP (Int × (Int × Unit)) := fun st K => (unS SQ0 80 (restr [0, 4, 3] 0 st)).bind fun x => z1go N x K

def t4_66 (N : Nat) : zc5 (Int × (Int × Unit)) := []

theorem z19m {N : Nat} {c : Ctx} (hb : Base Tryd.prog (z12g N) c) (hP : PnOk Tryd.prog glob (z19 N)) : z22 Tryd.prog c (ze zao zxy) (z1dd N) :=
  z28 (s := SQ0) (m := 80) (g := z1go N) [0, 4, 3] (z1n hb hP N (t4_66 N) z13j zao TabOkP.nil zxy _ rfl) (fun x K => by kernel_rfl)

def z9t (N : Nat) (from_ : Int) (p : DT4) (n : Int) (rec : DT4 -> Int -> Option (Int × (Int × Unit))) (k0 : DT4 -> Int -> Option (Int × (Int × Unit))) : Option (Int × (Int × Unit)) :=
 z9w N p from_ n
 (cond (inR p.2.1 (List.length p.1))
 (rec (p.1, ((IntKind.wrap IntKind.i64 (p.2.1 + (1 : Int))), p.2.2)) (if ((17 : Int) < (IntKind.wrap IntKind.i64 ((IntKind.wrap IntKind.i64 ((10 : Int) * n)) + (IntKind.wrap IntKind.i64 (IntKind.wrap IntKind.u8 ((((UInt8.toNat (List.getD p.1 (Int.toNat p.2.1) (0 : UInt8))) : Nat) : Int) - (48 : Int))))))) then (17 : Int) else (IntKind.wrap IntKind.i64 ((IntKind.wrap IntKind.i64 ((10 : Int) * n)) + (IntKind.wrap IntKind.i64 (IntKind.wrap IntKind.u8 ((((UInt8.toNat (List.getD p.1 (Int.toNat p.2.1) (0 : UInt8))) : Nat) : Int) - (48 : Int))))))))
 (none))
 (k0 p n)

def zfa (N : Nat) (p : DT4) (from_ : Int) (n : Int) (k0 : DT4 -> Int -> Option (Int × (Int × Unit))) : Option (Int × (Int × Unit)) :=
 iter (fun (v : (DT4 × Int)) r => z9t N from_ v.1 v.2 (fun p n => (r (p, n))) k0) N (p, n)

def z1gx (N : Nat) (i : Int) (v : (DT4 × Int)) (r : (DT4 × Int) -> Option (Int × (Int × Unit))) (K : ExP -> List A -> Option (Int × (Int × Unit))) : Option (Int × (Int × Unit)) :=
 z9t N i v.1 v.2 (fun p n => (r (p, n))) (fun a0 a2 => (K (.exit 0) (mkS SQ0 80 (a0, i, a2, ()))))

def z1dm (N : Nat) : HdP (Int × (Int × Unit)) := fun st K => (unS SQ0 80 (restr [0, 4, 3] 0 st)).bind fun x => iter (fun v r => z1gx N ((fun x => x.2.1) x) v r K) N ((fun x => (x.1, x.2.2.1)) x)

def t3_66 (N : Nat) : zc5 (Int × (Int × Unit)) := [(zxy, z1dd N)]

theorem z19v {N : Nat} {c : Ctx} (hb : Base Tryd.prog (z12g N) c) (hP : PnOk Tryd.prog glob (z19 N)) : z22 Tryd.prog c (ze zao [0, 0, 1, 1, 1, 1]) (z1dm N) :=
  zmh (s := SQ0) (m := 80) (z1gx N) [0, 4, 3] N (fun x => x.2.1) (fun x => (x.1, x.2.2.1)) (fun i v => (v.1, i, v.2, ())) (fun _ => rfl) (z1n hb hP N (t3_66 N) z13j zao (TabOkP.cons (z19m hb hP) TabOkP.nil) [0, 0, 0, 1, 1, 1, 1] _ rfl) (fun i v r K => by kernel_rfl)

def z9x (N : Nat) (p : DT4) (from_ : Int) (n : Int) (k0 : DT4 -> Int -> Option (Int × (Int × Unit))) : Option (Int × (Int × Unit)) :=
 zfa N p from_ n
 (fun p1 n1 => k0 p1 n1)

def z1hf (N : Nat) (x : zz SQ0) (K : ExP -> List A -> Option (Int × (Int × Unit))) : Option (Int × (Int × Unit)) :=
 z9x N x.1 x.2.1 x.2.2.1 (fun a0 a2 => (K .normal (mkS SQ0 80 (a0, x.2.1, a2, ()))))

def z1e4 (N : Nat) : HdP (Int × (Int × Unit)) := fun st K => (unS SQ0 80 (restr [0, 4, 3] 0 st)).bind fun x => z1hf N x K

def t2_66 (N : Nat) : zc5 (Int × (Int × Unit)) := [([0, 0, 1, 1, 1, 1], z1dm N)]

theorem z1ad {N : Nat} {c : Ctx} (hb : Base Tryd.prog (z12g N) c) (hP : PnOk Tryd.prog glob (z19 N)) : z22 Tryd.prog c (ze zao [0, 1, 1, 1, 1]) (z1e4 N) :=
  z28 (s := SQ0) (m := 80) (g := z1hf N) [0, 4, 3] (z1n hb hP N (t2_66 N) z13j zao (TabOkP.cons (z19v hb hP) TabOkP.nil) [0, 1, 1, 1, 1] _ rfl) (fun x K => by kernel_rfl)

def z9u (N : Nat) (p : DT4) (from_ : Int) (n : Int) (k0 : Bool -> Option (Int × (Int × Unit))) : Option (Int × (Int × Unit)) :=
 cond (inR from_ (List.length p.1))
 (cond ((((UInt8.toNat (List.getD p.1 (Int.toNat from_) (0 : UInt8))) : Nat) : Int) == (48 : Int))
 (k0 (decide ((IntKind.wrap IntKind.i64 (from_ + (1 : Int))) < p.2.1)))
 (k0 false))
 (none)

def z1gg (N : Nat) (x : zz SQ0) (K : ExP -> List A -> Option (Int × (Int × Unit))) : Option (Int × (Int × Unit)) :=
 z9u N x.1 x.2.1 x.2.2.1 (fun a3 => (K .normal (mkS [(0, .box TT2), (2, .v (.int .i64)), (0, .v (.int .i64)), (70, .v .bool)] 9 (x.1, x.2.1, x.2.2.1, a3, ()))))

def z1d5 (N : Nat) : HdP (Int × (Int × Unit)) := fun st K => (unS SQ0 80 (restr [0, 3, 4] 0 st)).bind fun x => z1gg N x K

def t6_66 (N : Nat) : zc5 (Int × (Int × Unit)) := []

theorem z19e {N : Nat} {c : Ctx} (hb : Base Tryd.prog (z12g N) c) (hP : PnOk Tryd.prog glob (z19 N)) : z22 Tryd.prog c (ze zao zkp) (z1d5 N) :=
  z28 (s := SQ0) (m := 80) (g := z1gg N) [0, 3, 4] (z1n hb hP N (t6_66 N) z13j zao TabOkP.nil zkp _ rfl) (fun x K => by kernel_rfl)

def z9v (N : Nat) (p : DT4) (from_ : Int) (n : Int) (k0 : (Int × (Int × Unit)) -> Option (Int × (Int × Unit))) (k1 : Option (Int × (Int × Unit))) : Option (Int × (Int × Unit)) :=
 z9u N p from_ n
 (fun x75 => cond x75
 (k0 ((2 : Int), (from_, ())))
 (k1))

def z1gj (N : Nat) (x : zz SQ0) (K : ExP -> List A -> Option (Int × (Int × Unit))) : Option (Int × (Int × Unit)) :=
 z9v N x.1 x.2.1 x.2.2.1 (fun a0 => (K (.pan 46) (mkS [(0, .v z6j)] 0 (a0, ())))) (K .normal (mkS SQ0 80 (x.1, x.2.1, x.2.2.1, ())))

def z1d8 (N : Nat) : HdP (Int × (Int × Unit)) := fun st K => (unS SQ0 80 (restr [0, 3, 4] 0 st)).bind fun x => z1gj N x K

def t5_66 (N : Nat) : zc5 (Int × (Int × Unit)) := [(zkp, z1d5 N)]

theorem z19h {N : Nat} {c : Ctx} (hb : Base Tryd.prog (z12g N) c) (hP : PnOk Tryd.prog glob (z19 N)) : z22 Tryd.prog c (ze zao [0, 1, 1, 1, 1, 1]) (z1d8 N) :=
  z28 (s := SQ0) (m := 80) (g := z1gj N) [0, 3, 4] (z1n hb hP N (t5_66 N) z13j zao (TabOkP.cons (z19e hb hP) TabOkP.nil) [0, 1, 1, 1, 1, 1] _ rfl) (fun x K => by kernel_rfl)

def z51 (N : Nat) (p : DT4) : Option (Int × (Int × Unit)) :=
 z9y N p p.2.1
 (fun p1 => some p1)
 (fun p2 => z9x N p2 p.2.1 (0 : Int)
 (fun p3 n => z9v N p3 p.2.1 n
 (fun p4 => some p4)
 (cond (decide ((16 : Int) < n))
 (some ((3 : Int), (p.2.1, ())))
 (none))))

def t_66 (N : Nat) : zc5 (Int × (Int × Unit)) := [([0, 1, 1], z1f4 N), ([0, 1, 1, 1, 1], z1e4 N), ([0, 1, 1, 1, 1, 1], z1d8 N)]

theorem z156 (N : Nat) (x : zz [(0, .box TT2)]) : zh5 (z12g N) (z19 N) N (t_66 N) z13j Tryd.f86 46 z6j (mkS [(0, .box TT2)] 0 x) (fun z => some z) = z51 N x.1 := by kernel_rfl

def z94 (N : Nat) : List A -> PnRes := zh4 [(0, .box TT2)] (fun x => z51 N x.1) (fun z => ⟨z6j, z⟩)

theorem zfb (N : Nat) : ContractP Tryd.prog glob 86 46 (z94 N) :=
  ContractP.of (E := z12g N) (Pn := z19 N) (H := t_66 N) (L := z13j) (N := N) (body := zao) (t := z6j) (z1kq N) (z3g N) Tryd.func86 (by kernel_rfl) (by decide) (fun _ hb => (TabOkP.cons (z1bd hb (z3g N)) (TabOkP.cons (z1ad hb (z3g N)) (TabOkP.cons (z19h hb (z3g N)) TabOkP.nil)))) (fun x y h => by rw [z156]; exact h)

def zo9 : Code := (Tryd.f94.body).getD .skip

def L_67 : List (List Nat × List Nat) := [([0], [0, 1]), ([0, 1], [0, 5, 1]), ([0, 1, 1], [5, 0, 1]), ([0, 0, 1, 1, 1], [16, 5, 0, 1]), ([1, 0, 1, 1, 1], [5, 0, 1]), (zxx, [4, 0]), (z13d, [4, 0]), ([0, 0, 1, 1, 1, 1], [24, 0, 1, 5]), ([1, 0, 1, 1, 1, 1], [5, 0]), (z12c, [5, 0]), ([0, 1, 1, 1, 1, 1], [4, 0]), ([1, 1, 1, 1, 1, 1], [4, 0])]

def z1me (N : Nat) : Env := z1s tys glob [(92, z12 N), (96, z6w N)] [] [] [0] false [] []

theorem z1kp (N : Nat) : EnvOk Tryd.prog (z1me N) := zf mixed zq (FnsOk.cons (z1c N) (FnsOk.cons (zaq N) (FnsOk.nil))) (ItsOk.nil)

def z30 (N : Nat) : PnT := pnT [(92, 46, z1y N), (41, 46, zo N)]

theorem z9c (N : Nat) : PnOk Tryd.prog glob (z30 N) := PnOk.cons (z2l N) (PnOk.cons (zw N) (PnOk.nil))

def z9z (N : Nat) (p : DT4) (from_ : Int) (b : Int) (k0 : Bool -> Option (Int × (Int × Unit))) : Option (Int × (Int × Unit)) :=
 cond (decide (b < (97 : Int)))
 (k0 true)
 (k0 (decide ((102 : Int) < b)))

def z1he (N : Nat) (x : zz zy4) (K : ExP -> List A -> Option (Int × (Int × Unit))) : Option (Int × (Int × Unit)) :=
 z9z N x.1 x.2.1 x.2.2.1 (fun a3 => (K .normal (mkS [(0, .box TT2), (0, .v (.int .i64)), (3, .v (.int .u8)), (18, .v .bool)] 6 (x.1, x.2.1, x.2.2.1, a3, ()))))

def z1e3 (N : Nat) : HdP (Int × (Int × Unit)) := fun st K => (unS zy4 25 (restr [5, 0, 1] 0 st)).bind fun x => z1he N x K

def t2_67 (N : Nat) : zc5 (Int × (Int × Unit)) := []

theorem z1ac {N : Nat} {c : Ctx} (hb : Base Tryd.prog (z1me N) c) (hP : PnOk Tryd.prog glob (z30 N)) : z22 Tryd.prog c (ze zo9 [0, 0, 1, 1, 1, 1]) (z1e3 N) :=
  z28 (s := zy4) (m := 25) (g := z1he N) [5, 0, 1] (z1n hb hP N (t2_67 N) L_67 zo9 TabOkP.nil [0, 0, 1, 1, 1, 1] _ rfl) (fun x K => by kernel_rfl)

def za0 (N : Nat) (p : DT4) (from_ : Int) (b : Int) (k0 : (Int × (Int × Unit)) -> Option (Int × (Int × Unit))) (k1 : Option (Int × (Int × Unit))) : Option (Int × (Int × Unit)) :=
 z9z N p from_ b
 (fun x24 => cond x24
 (k0 ((2 : Int), (from_, ())))
 (k1))

def z1ie (N : Nat) (x : zz zy4) (K : ExP -> List A -> Option (Int × (Int × Unit))) : Option (Int × (Int × Unit)) :=
 za0 N x.1 x.2.1 x.2.2.1 (fun a0 => (K (.pan 46) (mkS [(0, .v z6j)] 0 (a0, ())))) (K .normal (mkS [(0, .box TT2), (4, .v (.int .u8))] 25 (x.1, x.2.2.1, ())))

def z1f3 (N : Nat) : HdP (Int × (Int × Unit)) := fun st K => (unS zy4 25 (restr [5, 0, 1] 0 st)).bind fun x => z1ie N x K

def t1_67 (N : Nat) : zc5 (Int × (Int × Unit)) := [([0, 0, 1, 1, 1, 1], z1e3 N)]

theorem z1bc {N : Nat} {c : Ctx} (hb : Base Tryd.prog (z1me N) c) (hP : PnOk Tryd.prog glob (z30 N)) : z22 Tryd.prog c (ze zo9 [0, 1, 1, 1, 1]) (z1f3 N) :=
  z28 (s := zy4) (m := 25) (g := z1ie N) [5, 0, 1] (z1n hb hP N (t1_67 N) L_67 zo9 (TabOkP.cons (z1ac hb hP) TabOkP.nil) [0, 1, 1, 1, 1] _ rfl) (fun x K => by kernel_rfl)

def z52 (N : Nat) (p : DT4) (from_ : Int) : Option (Int × (Int × Unit)) :=
 orP ((z26 N p)) (fun z => some z)
 ((z1f N p).bind fun y =>
 (z6x N y.1).bind fun y1 =>
 cond y1
 (none)
 (za0 N (y.2.1.1, ((IntKind.wrap IntKind.i64 (y.2.1.2.1 + (1 : Int))), y.2.1.2.2)) from_ y.1
 (fun p1 => some p1)
 (none)))

def t_67 (N : Nat) : zc5 (Int × (Int × Unit)) := [([0, 1, 1, 1, 1], z1f3 N)]

theorem z155 (N : Nat) (x : zz z185) : zh5 (z1me N) (z30 N) N (t_67 N) L_67 Tryd.f94 46 z6j (mkS z185 0 x) (fun z => some z) = z52 N x.1 x.2.1 := by kernel_rfl

def z9b (N : Nat) : List A -> PnRes := zh4 z185 (fun x => z52 N x.1 x.2.1) (fun z => ⟨z6j, z⟩)

theorem zfc (N : Nat) : ContractP Tryd.prog glob 94 46 (z9b N) :=
  ContractP.of (E := z1me N) (Pn := z30 N) (H := t_67 N) (L := L_67) (N := N) (body := zo9) (t := z6j) (z1kp N) (z9c N) Tryd.func94 (by kernel_rfl) (by decide) (fun _ hb => (TabOkP.cons (z1bc hb (z9c N)) TabOkP.nil)) (fun x y h => by rw [z155]; exact h)

def zuj : Code := (Tryd.f84.body).getD .skip

def L_68 : List (List Nat × List Nat) := [([0], [0, 2]), ([0, 1], [0, 2, 4]), ([0, 1, 1], [0, 2, 4]), ([0, 1, 1, 1], [0, 5, 2, 4]), ([0, 1, 1, 1, 1], [5, 2, 0, 4]), ([0, 0, 0, 1, 1, 1, 1, 1], [22, 2, 0, 5, 4]), ([1, 0, 0, 1, 1, 1, 1, 1], [5, 2, 0]), ([0, 1, 1, 0, 0, 1, 1, 1, 1, 1], [26, 2, 0, 5, 4]), ([1, 1, 1, 0, 0, 1, 1, 1, 1, 1], [5, 2, 0]), ([0, 1, 1, 1, 1, 0, 0, 1, 1, 1, 1, 1], [30, 0, 4, 2, 5]), ([1, 1, 1, 1, 1, 0, 0, 1, 1, 1, 1, 1], [5, 2, 0]), ([0, 1, 1, 1, 1, 1, 1, 0, 0, 1, 1, 1, 1, 1], [42, 0, 4, 5, 2]), ([1, 1, 1, 1, 1, 1, 1, 0, 0, 1, 1, 1, 1, 1], [5, 2, 0]), ([0, 1, 1, 1, 1, 1, 1, 1, 0, 0, 1, 1, 1, 1, 1], [5, 2, 0]), ([0, 0, 1, 1, 1, 1, 1, 0, 0, 1, 1, 1, 1, 1], [6, 0, 4, 2]), ([1, 0, 1, 1, 1, 1, 1, 0, 0, 1, 1, 1, 1, 1], [5, 2, 0]), ([0, 0, 1, 1, 1, 0, 0, 1, 1, 1, 1, 1], [2, 3, 0]), ([1, 0, 1, 1, 1, 0, 0, 1, 1, 1, 1, 1], [2, 3, 0]), ([0, 0, 1, 0, 0, 1, 1, 1, 1, 1], [2, 3, 0]), ([1, 0, 1, 0, 0, 1, 1, 1, 1, 1], [2, 3, 0]), ([0, 1, 1, 1, 1, 1], [5, 2, 0]), (zxv, [2, 3, 0]), (z12a, [2, 3, 0])]

def E_68 (N : Nat) : Env := z1s tys glob [(82, z37 N), (85, z39 N), (87, z1k N), (92, z12 N), (93, zam N), (94, z7n N)] [] [] [0] false [] []

theorem z1ko (N : Nat) : EnvOk Tryd.prog (E_68 N) := zf mixed zq (FnsOk.cons (z4n N) (FnsOk.cons (z50 N) (FnsOk.cons (z21 N) (FnsOk.cons (z1c N) (FnsOk.cons (zge N) (FnsOk.cons (zd2 N) (FnsOk.nil))))))) (ItsOk.nil)

def z36 (N : Nat) : PnT := pnT [(94, 46, z9b N), (87, 46, z2f N), (92, 46, z1y N), (41, 46, zo N)]

theorem z6s (N : Nat) : PnOk Tryd.prog glob (z36 N) := PnOk.cons (zfc N) (PnOk.cons (z3h N) (PnOk.cons (z2l N) (PnOk.cons (zw N) (PnOk.nil))))

def z7h (N : Nat) (p : DT4) (set_ : (List Int)) (from_ : Int) (b : Int) (k0 : (List Int) -> Bool -> Option (Int × (Int × Unit))) (k1 : (Int × (Int × Unit)) -> Option (Int × (Int × Unit))) (k2 : DT4 -> Int -> Option (Int × (Int × Unit))) : Option (Int × (Int × Unit)) :=
 cond (b == (100 : Int))
 ((z3l N (48 : Int) (57 : Int)).bind fun y =>
 k0 y true)
 (cond (b == (119 : Int))
 ((zcf N ((48 : UInt8) :: (49 : UInt8) :: (50 : UInt8) :: (51 : UInt8) :: (52 : UInt8) :: (53 : UInt8) :: (54 : UInt8) :: (55 : UInt8) :: (56 : UInt8) :: (57 : UInt8) :: (65 : UInt8) :: (66 : UInt8) :: (67 : UInt8) :: (68 : UInt8) :: (69 : UInt8) :: (70 : UInt8) :: (71 : UInt8) :: (72 : UInt8) :: (73 : UInt8) :: (74 : UInt8) :: (75 : UInt8) :: (76 : UInt8) :: (77 : UInt8) :: (78 : UInt8) :: (79 : UInt8) :: (80 : UInt8) :: (81 : UInt8) :: (82 : UInt8) :: (83 : UInt8) :: (84 : UInt8) :: (85 : UInt8) :: (86 : UInt8) :: (87 : UInt8) :: (88 : UInt8) :: (89 : UInt8) :: (90 : UInt8) :: (95 : UInt8) :: (97 : UInt8) :: (98 : UInt8) :: (99 : UInt8) :: (100 : UInt8) :: (101 : UInt8) :: (102 : UInt8) :: (103 : UInt8) :: (104 : UInt8) :: (105 : UInt8) :: (106 : UInt8) :: (107 : UInt8) :: (108 : UInt8) :: (109 : UInt8) :: (110 : UInt8) :: (111 : UInt8) :: (112 : UInt8) :: (113 : UInt8) :: (114 : UInt8) :: (115 : UInt8) :: (116 : UInt8) :: (117 : UInt8) :: (118 : UInt8) :: (119 : UInt8) :: (120 : UInt8) :: (121 : UInt8) :: (122 : UInt8) :: ([] : List UInt8))).bind fun y1 =>
 k0 y1 true)
 (cond (b == (120 : Int))
 (orP ((z52 N p from_)) (fun z => k1 z)
 ((z4f N p from_).bind fun y2 =>
 orP ((z52 N y2.2.1 from_)) (fun z1 => k1 z1)
 ((z4f N y2.2.1 from_).bind fun y3 =>
 k2 y3.2.1 (zaa Go.BinOp.or IntKind.u8 (z192 IntKind.u8 y2.1 (4 : Int)) y3.1))))
 (cond (decide ((Go.Lib.indexByte ([(92 : UInt8), (46 : UInt8), (91 : UInt8), (93 : UInt8), (40 : UInt8), (41 : UInt8), (123 : UInt8), (125 : UInt8), (124 : UInt8), (42 : UInt8), (43 : UInt8), (63 : UInt8), (45 : UInt8), (94 : UInt8)] : List UInt8) (Nat.toUInt8 (Int.toNat b))) < (0 : Int)))
 (k1 ((2 : Int), (from_, ())))
 (k2 p b))))

def z1id (N : Nat) (x : zz z18e) (K : ExP -> List A -> Option (Int × (Int × Unit))) : Option (Int × (Int × Unit)) :=
 z7h N x.1 x.2.1 x.2.2.1 x.2.2.2.1 (fun a1 a2 => (K .ret (mkS SQ48 48 (x.1, a1, a2, ())))) (fun a0 => (K (.pan 46) (mkS [(0, .v z6j)] 0 (a0, ())))) (fun a0 a2 => (K .normal (mkS [(0, .box TT2), (1, .box (.arr 4 (.int .u64))), (2, .v (.int .u8))] 46 (a0, x.2.1, a2, ()))))

def z1f2 (N : Nat) : HdP (Int × (Int × Unit)) := fun st K => (unS z18e 46 (restr [5, 2, 0, 4] 0 st)).bind fun x => z1id N x K

def t1_68 (N : Nat) : zc5 (Int × (Int × Unit)) := []

theorem z1bb {N : Nat} {c : Ctx} (hb : Base Tryd.prog (E_68 N) c) (hP : PnOk Tryd.prog glob (z36 N)) : z22 Tryd.prog c (ze zuj [0, 1, 1, 1, 1, 1]) (z1f2 N) :=
  z28 (s := z18e) (m := 46) (g := z1id N) [5, 2, 0, 4] (z1n hb hP N (t1_68 N) L_68 zuj TabOkP.nil [0, 1, 1, 1, 1, 1] _ rfl) (fun x K => by kernel_rfl)

def z3v (N : Nat) (p : DT4) : Option (Int × (Int × Unit)) :=
 orP ((z27 N p (92 : Int))) (fun z => some z)
 ((z1g N p (92 : Int)).bind fun y =>
 orP ((z26 N y.2.1)) (fun z1 => some z1)
 ((z1f N y.2.1).bind fun y1 =>
 z7h N (y1.2.1.1, ((IntKind.wrap IntKind.i64 (y1.2.1.2.1 + (1 : Int))), y1.2.1.2.2)) ([(0 : Int), (0 : Int), (0 : Int), (0 : Int)] : List Int) p.2.1 y1.1
 (fun set_ class_ => none)
 (fun p1 => some p1)
 (fun p2 b => (z3l N b b).bind fun y2 =>
 none)))

def t_68 (N : Nat) : zc5 (Int × (Int × Unit)) := [([0, 1, 1, 1, 1, 1], z1f2 N)]

theorem z154 (N : Nat) (x : zz [(0, .box TT2)]) : zh5 (E_68 N) (z36 N) N (t_68 N) L_68 Tryd.f84 46 z6j (mkS [(0, .box TT2)] 0 x) (fun z => some z) = z3v N x.1 := by kernel_rfl

def z45 (N : Nat) : List A -> PnRes := zh4 [(0, .box TT2)] (fun x => z3v N x.1) (fun z => ⟨z6j, z⟩)

theorem z7i (N : Nat) : ContractP Tryd.prog glob 84 46 (z45 N) :=
  ContractP.of (E := E_68 N) (Pn := z36 N) (H := t_68 N) (L := L_68) (N := N) (body := zuj) (t := z6j) (z1ko N) (z6s N) Tryd.func84 (by kernel_rfl) (by decide) (fun _ hb => (TabOkP.cons (z1bb hb (z6s N)) TabOkP.nil)) (fun x y h => by rw [z154]; exact h)

def zo8 : Code := (Tryd.f97.body).getD .skip

def L_69 : List (List Nat × List Nat) := [([0], [0, 2]), ([0, 1], [4, 0, 2]), ([0, 0, 1, 1], [7, 0, 2, 4]), ([0, 0, 1, 0, 1, 1], [8, 0, 2, 7, 4]), ([1, 0, 1, 0, 1, 1], [0, 4, 2]), ([0, 0, 1, 1, 0, 1, 0, 1, 1], [14, 0, 4, 2, 7]), ([1, 0, 1, 1, 0, 1, 0, 1, 1], [14, 0, 4, 2]), ([0, 1, 1, 0, 1, 1, 0, 1, 0, 1, 1], [14, 0, 4, 2, 7]), ([1, 1, 1, 0, 1, 1, 0, 1, 0, 1, 1], [14, 0, 4, 2]), ([0, 1, 1, 1, 1, 0, 1, 1, 0, 1, 0, 1, 1], [14, 0, 4, 2, 7]), ([1, 1, 1, 1, 1, 0, 1, 1, 0, 1, 0, 1, 1], [14, 0, 4, 2]), ([1, 1, 1, 1, 1, 1, 0, 1, 1, 0, 1, 0, 1, 1], [14, 0, 4, 2]), ([1, 1, 1, 0, 1, 0, 1, 1], [0, 4, 2]), ([0, 1, 1, 1, 0, 1, 0, 1, 1], [0, 4, 2]), ([0, 0, 1, 0, 1, 0, 1, 1], [2, 3, 0]), ([1, 0, 1, 0, 1, 0, 1, 1], [2, 3, 0]), ([1, 0, 1, 1], [0, 4, 2]), ([0, 1, 1, 1], [4, 2, 0]), ([0, 1, 1, 1, 1], [2, 3, 0]), ([1, 1, 1, 1, 1], [2, 3, 0])]

def z1md (N : Nat) : Env := z1s tys glob [(82, z37 N), (84, z2q N), (92, z12 N)] [] [] [0] false [] []

theorem z1kn (N : Nat) : EnvOk Tryd.prog (z1md N) := zf mixed zq (FnsOk.cons (z4n N) (FnsOk.cons (z49 N) (FnsOk.cons (z1c N) (FnsOk.nil)))) (ItsOk.nil)

def z2p (N : Nat) : PnT := pnT [(84, 46, z45 N), (92, 46, z1y N), (41, 46, zo N)]

theorem z89 (N : Nat) : PnOk Tryd.prog glob (z2p N) := PnOk.cons (z7i N) (PnOk.cons (z2l N) (PnOk.cons (zw N) (PnOk.nil)))

def z92 (N : Nat) (p : DT4) (set_ : (List Int)) (b : Int) (x7 : Int) (k0 : Bool -> Option (Int × (Int × Unit))) : Option (Int × (Int × Unit)) :=
 cond (x7 == (91 : Int))
 (k0 (x7 == (91 : Int)))
 (cond (x7 == (93 : Int))
 (k0 (x7 == (93 : Int)))
 (cond (x7 == (45 : Int))
 (k0 (x7 == (45 : Int)))
 (k0 (x7 == (94 : Int)))))

def z1hd (N : Nat) (x : zz z18d) (K : ExP -> List A -> Option (Int × (Int × Unit))) : Option (Int × (Int × Unit)) :=
 z92 N x.1 x.2.1 x.2.2.1 x.2.2.2.1 (fun a3 => (K .normal (mkS [(0, .box TT2), (1, .box (.arr 4 (.int .u64))), (1, .v (.int .u8)), (9, .v .bool)] 20 (x.1, x.2.1, x.2.2.1, a3, ()))))

def z1e2 (N : Nat) : HdP (Int × (Int × Unit)) := fun st K => (unS z18d 27 (restr [7, 0, 4, 2] 0 st)).bind fun x => z1hd N x K

def t2_69 (N : Nat) : zc5 (Int × (Int × Unit)) := []

theorem z1ab {N : Nat} {c : Ctx} (hb : Base Tryd.prog (z1md N) c) (hP : PnOk Tryd.prog glob (z2p N)) : z22 Tryd.prog c (ze zo8 z17n) (z1e2 N) :=
  z28 (s := z18d) (m := 27) (g := z1hd N) [7, 0, 4, 2] (z1n hb hP N (t2_69 N) L_69 zo8 TabOkP.nil z17n _ rfl) (fun x K => by kernel_rfl)

def z93 (N : Nat) (p : DT4) (set_ : (List Int)) (b : Int) (k0 : (Int × (Int × Unit)) -> Option (Int × (Int × Unit))) (k1 : DT4 -> (List Int) -> Bool -> Option (Int × (Int × Unit))) (k2 : Option (Int × (Int × Unit))) : Option (Int × (Int × Unit)) :=
 cond (b == (92 : Int))
 (orP ((z3v N p)) (fun z => k0 z)
 ((z31 N p).bind fun y =>
 k1 y.2.1 y.1.1 y.1.2.1))
 (z92 N p set_ b b
 (fun x14 => cond x14
 (k0 ((2 : Int), (p.2.1, ())))
 (k2)))

def z1ic (N : Nat) (x : zz z13c) (K : ExP -> List A -> Option (Int × (Int × Unit))) : Option (Int × (Int × Unit)) :=
 z93 N x.1 x.2.1 x.2.2.1 (fun a0 => (K (.pan 46) (mkS [(0, .v z6j)] 0 (a0, ())))) (fun a0 a1 a2 => (K .ret (mkS SQ48 31 (a0, a1, a2, ())))) (K .normal (mkS z13c 30 (x.1, x.2.1, x.2.2.1, ())))

def z1f1 (N : Nat) : HdP (Int × (Int × Unit)) := fun st K => (unS z13c 30 (restr [4, 0, 2] 0 st)).bind fun x => z1ic N x K

def t1_69 (N : Nat) : zc5 (Int × (Int × Unit)) := [(z17n, z1e2 N)]

theorem z1ba {N : Nat} {c : Ctx} (hb : Base Tryd.prog (z1md N) c) (hP : PnOk Tryd.prog glob (z2p N)) : z22 Tryd.prog c (ze zo8 [0, 1, 1]) (z1f1 N) :=
  z28 (s := z13c) (m := 30) (g := z1ic N) [4, 0, 2] (z1n hb hP N (t1_69 N) L_69 zo8 (TabOkP.cons (z1ab hb hP) TabOkP.nil) [0, 1, 1] _ rfl) (fun x K => by kernel_rfl)

def z4j (N : Nat) (p : DT4) : Option (Int × (Int × Unit)) :=
 orP ((z26 N p)) (fun z => some z)
 ((z1f N p).bind fun y =>
 z93 N y.2.1 ([(0 : Int), (0 : Int), (0 : Int), (0 : Int)] : List Int) y.1
 (fun p1 => some p1)
 (fun p2 set_ class_ => none)
 ((z3l N y.1 y.1).bind fun y1 =>
 none))

def t_69 (N : Nat) : zc5 (Int × (Int × Unit)) := [([0, 1, 1], z1f1 N)]

theorem z153 (N : Nat) (x : zz [(0, .box TT2)]) : zh5 (z1md N) (z2p N) N (t_69 N) L_69 Tryd.f97 46 z6j (mkS [(0, .box TT2)] 0 x) (fun z => some z) = z4j N x.1 := by kernel_rfl

def z88 (N : Nat) : List A -> PnRes := zh4 [(0, .box TT2)] (fun x => z4j N x.1) (fun z => ⟨z6j, z⟩)

theorem zel (N : Nat) : ContractP Tryd.prog glob 97 46 (z88 N) :=
  ContractP.of (E := z1md N) (Pn := z2p N) (H := t_69 N) (L := L_69) (N := N) (body := zo8) (t := z6j) (z1kn N) (z89 N) Tryd.func97 (by kernel_rfl) (by decide) (fun _ hb => (TabOkP.cons (z1ba hb (z89 N)) TabOkP.nil)) (fun x y h => by rw [z153]; exact h)

def zfx : Code := (Tryd.f89.body).getD .skip

def z18i : List (List Nat × List Nat) := [([0], [0, 2]), ([0, 1], [4, 0, 3, 2]), ([0, 0, 1, 1], [17, 3, 2, 0]), ([1, 0, 1, 1], [0, 3, 2]), ([0, 0, 1, 0, 1, 1], [2, 0]), ([1, 0, 1, 0, 1, 1], [2, 0]), ([0, 1, 1, 1], [0, 3, 5, 2]), ([0, 1, 1, 1, 1], [4, 6, 3, 0, 5, 2]), (zkp, [35, 0, 5, 3, 6, 2]), (zxw, [3, 6, 2, 0]), (zy5, [3, 6, 2, 0]), (zxv, [2, 0]), (z12a, [2, 0])]

def z17t (N : Nat) : Env := z1s tys glob [(57, z1j N), (82, z37 N), (97, z6q N), (98, zan N)] [] [] [0] false [] []

theorem z1km (N : Nat) : EnvOk Tryd.prog (z17t N) := zf mixed zq (FnsOk.cons (z20 N) (FnsOk.cons (z4n N) (FnsOk.cons (zbn N) (FnsOk.cons (zgg N) (FnsOk.nil))))) (ItsOk.nil)

def z1v (N : Nat) : PnT := pnT [(97, 46, z88 N), (41, 46, zo N)]

theorem z4q (N : Nat) : PnOk Tryd.prog glob (z1v N) := PnOk.cons (zel N) (PnOk.cons (zw N) (PnOk.nil))

def z99 (N : Nat) (p : DT4) (x2 : (List Int)) (first : (List Int)) (class_ : Bool) (k0 : DT4 -> Bool -> Option (Int × (Int × Unit))) : Option (Int × (Int × Unit)) :=
 cond class_
 (k0 p true)
 ((z14 N p (45 : Int)).bind fun y =>
 k0 y.2.1 (!y.1))

def z1hc (N : Nat) (x : zz SQ3) (K : ExP -> List A -> Option (Int × (Int × Unit))) : Option (Int × (Int × Unit)) :=
 z99 N x.1 x.2.1 x.2.2.1 x.2.2.2.1 (fun a0 a3 => (K .normal (mkS SQ76 28 (a0, x.2.1, x.2.2.1, a3, ()))))

def z1e1 (N : Nat) : HdP (Int × (Int × Unit)) := fun st K => (unS SQ3 41 (restr [4, 0, 3, 2] 0 st)).bind fun x => z1hc N x K

def t2_70 (N : Nat) : zc5 (Int × (Int × Unit)) := []

theorem z1aa {N : Nat} {c : Ctx} (hb : Base Tryd.prog (z17t N) c) (hP : PnOk Tryd.prog glob (z1v N)) : z22 Tryd.prog c (ze zfx [0, 0, 1, 1]) (z1e1 N) :=
  z28 (s := SQ3) (m := 41) (g := z1hc N) [4, 0, 3, 2] (z1n hb hP N (t2_70 N) z18i zfx TabOkP.nil [0, 0, 1, 1] _ rfl) (fun x K => by kernel_rfl)

def z9a (N : Nat) (p : DT4) (x2 : (List Int)) (first : (List Int)) (class_ : Bool) (k0 : DT4 -> Option (Int × (Int × Unit))) (k1 : DT4 -> Option (Int × (Int × Unit))) : Option (Int × (Int × Unit)) :=
 z99 N p x2 first class_
 (fun p1 x17 => cond x17
 (k0 p1)
 (k1 p1))

def z1ib (N : Nat) (x : zz SQ3) (K : ExP -> List A -> Option (Int × (Int × Unit))) : Option (Int × (Int × Unit)) :=
 z9a N x.1 x.2.1 x.2.2.1 x.2.2.2.1 (fun a0 => (K .ret (mkS [(0, .box TT2), (1, .box (.arr 4 (.int .u64)))] 43 (a0, x.2.2.1, ())))) (fun a0 => (K .normal (mkS [(0, .box TT2), (1, .box (.arr 4 (.int .u64))), (0, .box (.arr 4 (.int .u64)))] 42 (a0, x.2.1, x.2.2.1, ()))))

def z1f0 (N : Nat) : HdP (Int × (Int × Unit)) := fun st K => (unS SQ3 41 (restr [4, 0, 3, 2] 0 st)).bind fun x => z1ib N x K

def t1_70 (N : Nat) : zc5 (Int × (Int × Unit)) := [([0, 0, 1, 1], z1e1 N)]

theorem z1b9 {N : Nat} {c : Ctx} (hb : Base Tryd.prog (z17t N) c) (hP : PnOk Tryd.prog glob (z1v N)) : z22 Tryd.prog c (ze zfx [0, 1, 1]) (z1f0 N) :=
  z28 (s := SQ3) (m := 41) (g := z1ib N) [4, 0, 3, 2] (z1n hb hP N (t1_70 N) z18i zfx (TabOkP.cons (z1aa hb hP) TabOkP.nil) [0, 1, 1] _ rfl) (fun x K => by kernel_rfl)

def z97 (N : Nat) (p : DT4) (x2 : (List Int)) (first : (List Int)) (class_ : Bool) (from_ : Int) (last : (List Int)) (k0 : Bool -> Option (Int × (Int × Unit))) : Option (Int × (Int × Unit)) :=
 cond class_
 (k0 true)
 ((z38 N last).bind fun y =>
 (z38 N first).bind fun y1 =>
 k0 (decide (y < y1)))

def z1gn (N : Nat) (x : zz SQ1) (K : ExP -> List A -> Option (Int × (Int × Unit))) : Option (Int × (Int × Unit)) :=
 z97 N x.1 x.2.1 x.2.2.1 x.2.2.2.1 x.2.2.2.2.1 x.2.2.2.2.2.1 (fun a5 => (K .normal (mkS SQ35 10 (x.1, x.2.1, x.2.2.1, x.2.2.2.2.1, x.2.2.2.2.2.1, a5, ()))))

def z1dc (N : Nat) : HdP (Int × (Int × Unit)) := fun st K => (unS SQ1 39 (restr [4, 6, 3, 0, 5, 2] 0 st)).bind fun x => z1gn N x K

def t4_70 (N : Nat) : zc5 (Int × (Int × Unit)) := []

theorem z19l {N : Nat} {c : Ctx} (hb : Base Tryd.prog (z17t N) c) (hP : PnOk Tryd.prog glob (z1v N)) : z22 Tryd.prog c (ze zfx zkp) (z1dc N) :=
  z28 (s := SQ1) (m := 39) (g := z1gn N) [4, 6, 3, 0, 5, 2] (z1n hb hP N (t4_70 N) z18i zfx TabOkP.nil zkp _ rfl) (fun x K => by kernel_rfl)

def z98 (N : Nat) (p : DT4) (x2 : (List Int)) (first : (List Int)) (class_ : Bool) (from_ : Int) (last : (List Int)) (k0 : (Int × (Int × Unit)) -> Option (Int × (Int × Unit))) (k1 : Option (Int × (Int × Unit))) : Option (Int × (Int × Unit)) :=
 z97 N p x2 first class_ from_ last
 (fun x35 => cond x35
 (k0 ((2 : Int), (from_, ())))
 (k1))

def z1gw (N : Nat) (x : zz SQ1) (K : ExP -> List A -> Option (Int × (Int × Unit))) : Option (Int × (Int × Unit)) :=
 z98 N x.1 x.2.1 x.2.2.1 x.2.2.2.1 x.2.2.2.2.1 x.2.2.2.2.2.1 (fun a0 => (K (.pan 46) (mkS [(0, .v z6j)] 0 (a0, ())))) (K .normal (mkS SQ62 39 (x.1, x.2.1, x.2.2.1, x.2.2.2.2.2.1, ())))

def z1dl (N : Nat) : HdP (Int × (Int × Unit)) := fun st K => (unS SQ1 39 (restr [4, 6, 3, 0, 5, 2] 0 st)).bind fun x => z1gw N x K

def t3_70 (N : Nat) : zc5 (Int × (Int × Unit)) := [(zkp, z1dc N)]

theorem z19u {N : Nat} {c : Ctx} (hb : Base Tryd.prog (z17t N) c) (hP : PnOk Tryd.prog glob (z1v N)) : z22 Tryd.prog c (ze zfx [0, 1, 1, 1, 1, 1]) (z1dl N) :=
  z28 (s := SQ1) (m := 39) (g := z1gw N) [4, 6, 3, 0, 5, 2] (z1n hb hP N (t3_70 N) z18i zfx (TabOkP.cons (z19l hb hP) TabOkP.nil) [0, 1, 1, 1, 1, 1] _ rfl) (fun x K => by kernel_rfl)

def z4k (N : Nat) (p : DT4) : Option (Int × (Int × Unit)) :=
 orP ((z4j N p)) (fun z => some z)
 ((z3y N p).bind fun y =>
 z9a N y.2.1 ([(0 : Int), (0 : Int), (0 : Int), (0 : Int)] : List Int) y.1.1 y.1.2.1
 (fun p1 => none)
 (fun p2 => orP ((z4j N p2)) (fun z1 => some z1)
 ((z3y N p2).bind fun y1 =>
 z98 N y1.2.1 ([(0 : Int), (0 : Int), (0 : Int), (0 : Int)] : List Int) y.1.1 y1.1.2.1 p2.2.1 y1.1.1
 (fun p3 => some p3)
 ((z38 N y.1.1).bind fun y2 =>
 (z38 N y1.1.1).bind fun y3 =>
 (z3l N (IntKind.wrap IntKind.u8 y2) (IntKind.wrap IntKind.u8 y3)).bind fun y4 =>
 none))))

def t_70 (N : Nat) : zc5 (Int × (Int × Unit)) := [([0, 1, 1], z1f0 N), ([0, 1, 1, 1, 1, 1], z1dl N)]

theorem z152 (N : Nat) (x : zz [(0, .box TT2)]) : zh5 (z17t N) (z1v N) N (t_70 N) z18i Tryd.f89 46 z6j (mkS [(0, .box TT2)] 0 x) (fun z => some z) = z4k N x.1 := by kernel_rfl

def z8d (N : Nat) : List A -> PnRes := zh4 [(0, .box TT2)] (fun x => z4k N x.1) (fun z => ⟨z6j, z⟩)

theorem zem (N : Nat) : ContractP Tryd.prog glob 89 46 (z8d N) :=
  ContractP.of (E := z17t N) (Pn := z1v N) (H := t_70 N) (L := z18i) (N := N) (body := zfx) (t := z6j) (z1km N) (z4q N) Tryd.func89 (by kernel_rfl) (by decide) (fun _ hb => (TabOkP.cons (z1b9 hb (z4q N)) (TabOkP.cons (z19u hb (z4q N)) TabOkP.nil))) (fun x y h => by rw [z152]; exact h)

def zui : Code := (Tryd.f83.body).getD .skip

def L_71 : List (List Nat × List Nat) := [([0], [0, 2]), ([0, 1], [0, 2]), ([0, 1, 1], [0, 3, 2]), ([0, 1, 1, 1], [0, 4, 3, 2]), ([0, 0, 1, 1, 1, 1], [0, 4, 3, 2]), (z10q, [13, 4, 0, 3, 2]), (z10p, [4, 0, 3, 2]), (z1k0, [3, 4, 2, 0]), ([0, 1, 0, 0, 0, 1, 1, 1, 1], [0, 4, 3, 2]), (z10l, [0, 4, 3, 2]), ([0, 1, 1, 1, 1], [3, 4, 2, 0]), (zkp, [18, 4, 2, 0]), (zxw, [4, 2, 0]), (z17o, [2, 0]), (z10r, [2, 0]), (zxv, [2, 0]), (z12a, [2, 0])]

def E_71 (N : Nat) : Env := z1s tys glob [(57, z1j N), (87, z1k N), (89, z6r N), (90, zec N), (91, zdq N)] [] [] [0] false [] []

theorem z1kl (N : Nat) : EnvOk Tryd.prog (E_71 N) := zf mixed zq (FnsOk.cons (z20 N) (FnsOk.cons (z21 N) (FnsOk.cons (zbu N) (FnsOk.cons (zkg N) (FnsOk.cons (zin N) (FnsOk.nil)))))) (ItsOk.nil)

def z2r (N : Nat) : PnT := pnT [(89, 46, z8d N), (87, 46, z2f N)]

theorem z5w (N : Nat) : PnOk Tryd.prog glob (z2r N) := PnOk.cons (zem N) (PnOk.cons (z3h N) (PnOk.nil))

def z6f (N : Nat) (x2 : (List Int)) (not_ : Bool) (p : DT4) (set_ : (List Int)) (rec : DT4 -> (List Int) -> Option (Int × (Int × Unit))) (k0 : (Int × (Int × Unit)) -> Option (Int × (Int × Unit))) (k1 : DT4 -> (List Int) -> Option (Int × (Int × Unit))) : Option (Int × (Int × Unit)) :=
 (z14 N p (93 : Int)).bind fun y =>
 cond (!y.1)
 (orP ((z4k N y.2.1)) (fun z => k0 z)
 ((z3z N y.2.1).bind fun y1 =>
 (zhy N set_ y1.1).bind fun y2 =>
 rec y1.2.1 y2))
 (k1 y.2.1 set_)

def zc8 (N : Nat) (p : DT4) (x2 : (List Int)) (not_ : Bool) (set_ : (List Int)) (k0 : (Int × (Int × Unit)) -> Option (Int × (Int × Unit))) (k1 : DT4 -> (List Int) -> Option (Int × (Int × Unit))) : Option (Int × (Int × Unit)) :=
 iter (fun (v : (DT4 × (List Int))) r => z6f N x2 not_ v.1 v.2 (fun p set_ => (r (p, set_))) k0 k1) N (p, set_)

def z1ia (N : Nat) (i : ((List Int) × Bool)) (v : (DT4 × (List Int))) (r : (DT4 × (List Int)) -> Option (Int × (Int × Unit))) (K : ExP -> List A -> Option (Int × (Int × Unit))) : Option (Int × (Int × Unit)) :=
 z6f N i.1 i.2 v.1 v.2 (fun p set_ => (r (p, set_))) (fun a0 => (K (.pan 46) (mkS [(0, .v z6j)] 0 (a0, ())))) (fun a0 a3 => (K (.exit 0) (mkS z18f 17 (a0, i.1, i.2, a3, ()))))

def z1ez (N : Nat) : HdP (Int × (Int × Unit)) := fun st K => (unS z18f 17 (restr [0, 4, 3, 2] 0 st)).bind fun x => iter (fun v r => z1ia N ((fun x => (x.2.1, x.2.2.1)) x) v r K) N ((fun x => (x.1, x.2.2.2.1)) x)

def t1_71 (N : Nat) : zc5 (Int × (Int × Unit)) := []

theorem z1b8 {N : Nat} {c : Ctx} (hb : Base Tryd.prog (E_71 N) c) (hP : PnOk Tryd.prog glob (z2r N)) : z22 Tryd.prog c (ze zui [0, 0, 1, 1, 1, 1]) (z1ez N) :=
  zmh (s := z18f) (m := 17) (z1ia N) [0, 4, 3, 2] N (fun x => (x.2.1, x.2.2.1)) (fun x => (x.1, x.2.2.2.1)) (fun i v => (v.1, i.1, i.2, v.2, ())) (fun _ => rfl) (z1n hb hP N (t1_71 N) L_71 zui TabOkP.nil [0, 0, 0, 1, 1, 1, 1] _ rfl) (fun i v r K => by kernel_rfl)

def z4s (N : Nat) (p : DT4) : Option (Int × (Int × Unit)) :=
 orP ((z27 N p (91 : Int))) (fun z => some z)
 ((z1g N p (91 : Int)).bind fun y =>
 (z14 N y.2.1 (94 : Int)).bind fun y1 =>
 orP ((z4k N y1.2.1)) (fun z1 => some z1)
 ((z3z N y1.2.1).bind fun y2 =>
 zc8 N y2.2.1 ([(0 : Int), (0 : Int), (0 : Int), (0 : Int)] : List Int) y1.1 y2.1
 (fun p1 => some p1)
 (fun p2 set_ => cond y1.1
 ((zfv N set_).bind fun y3 =>
 none)
 (none))))

def t_71 (N : Nat) : zc5 (Int × (Int × Unit)) := [([0, 0, 1, 1, 1, 1], z1ez N)]

theorem z151 (N : Nat) (x : zz [(0, .box TT2)]) : zh5 (E_71 N) (z2r N) N (t_71 N) L_71 Tryd.f83 46 z6j (mkS [(0, .box TT2)] 0 x) (fun z => some z) = z4s N x.1 := by kernel_rfl

def z5v (N : Nat) : List A -> PnRes := zh4 [(0, .box TT2)] (fun x => z4s N x.1) (fun z => ⟨z6j, z⟩)

theorem zc9 (N : Nat) : ContractP Tryd.prog glob 83 46 (z5v N) :=
  ContractP.of (E := E_71 N) (Pn := z2r N) (H := t_71 N) (L := L_71) (N := N) (body := zui) (t := z6j) (z1kl N) (z5w N) Tryd.func83 (by kernel_rfl) (by decide) (fun _ hb => (TabOkP.cons (z1b8 hb (z5w N)) TabOkP.nil)) (fun x y h => by rw [z151]; exact h)

def zo7 : Code := (Tryd.f72.body).getD .skip

def L_72 : List (List Nat × List Nat) := [([0], [0]), ([0, 1], [0, 4]), ([0, 1, 1], [2, 0, 4]), ([0, 1, 1, 1], [0, 2, 3, 4]), ([0, 0, 1, 1, 1, 1], [13, 0, 2, 3, 4]), ([1, 0, 1, 1, 1, 1], [3, 2, 0, 4]), ([0, 0, 0, 1, 0, 1, 1, 1, 1], [15, 2, 0]), ([1, 0, 0, 1, 0, 1, 1, 1, 1], [0, 2]), ([0, 0, 1, 0, 0, 1, 0, 1, 1, 1, 1], [2, 3, 0]), ([1, 0, 1, 0, 0, 1, 0, 1, 1, 1, 1], [2, 3, 0]), ([0, 1, 0, 1, 0, 1, 1, 1, 1], [0, 2, 4]), ([1, 1, 0, 1, 0, 1, 1, 1, 1], [3, 2, 0, 4]), (zkp, [26, 0, 4, 2, 3]), (zxw, [0, 2, 3]), (zy5, [0, 2, 3]), (zxv, [2, 3, 0]), (z10k, [2, 3, 0]), (z13e, [2, 3, 0])]

def z1mc (N : Nat) : Env := z1s tys glob [(57, z1j N), (86, z7m N), (87, z1k N)] [] [] [0] false [] []

theorem z1kk (N : Nat) : EnvOk Tryd.prog (z1mc N) := zf mixed zq (FnsOk.cons (z20 N) (FnsOk.cons (zcz N) (FnsOk.cons (z21 N) (FnsOk.nil)))) (ItsOk.nil)

def z2g (N : Nat) : PnT := pnT [(86, 46, z94 N), (87, 46, z2f N), (41, 46, zo N)]

theorem z46 (N : Nat) : PnOk Tryd.prog glob (z2g N) := PnOk.cons (zfb N) (PnOk.cons (z3h N) (PnOk.cons (zw N) (PnOk.nil)))

def z7k (N : Nat) (p : DT4) (low : Int) (high : Int) (from_ : Int) (k0 : DT4 -> Int -> Option (Int × (Int × Unit))) (k1 : (Int × (Int × Unit)) -> Option (Int × (Int × Unit))) (k2 : DT4 -> Int -> Int -> Option (Int × (Int × Unit))) : Option (Int × (Int × Unit)) :=
 (z14 N p (44 : Int)).bind fun y =>
 cond y.1
 ((z14 N y.2.1 (125 : Int)).bind fun y1 =>
 cond y1.1
 (k0 y1.2.1 (-(1 : Int)))
 (orP ((z51 N y1.2.1)) (fun z => k1 z)
 ((z4e N y1.2.1).bind fun y2 =>
 k2 y2.2.1 y2.1 y1.2.1.2.1)))
 (k2 y.2.1 high from_)

def z1i9 (N : Nat) (x : zz SQ4) (K : ExP -> List A -> Option (Int × (Int × Unit))) : Option (Int × (Int × Unit)) :=
 z7k N x.1 x.2.1 x.2.2.1 x.2.2.2.1 (fun a0 a2 => (K .ret (mkS SQ58 30 (a0, x.2.1, a2, ())))) (fun a0 => (K (.pan 46) (mkS [(0, .v z6j)] 0 (a0, ())))) (fun a0 a2 a3 => (K .normal (mkS SQ4 29 (a0, x.2.1, a2, a3, ()))))

def z1ey (N : Nat) : HdP (Int × (Int × Unit)) := fun st K => (unS SQ4 29 (restr [0, 2, 3, 4] 0 st)).bind fun x => z1i9 N x K

def t1_72 (N : Nat) : zc5 (Int × (Int × Unit)) := []

theorem z1b7 {N : Nat} {c : Ctx} (hb : Base Tryd.prog (z1mc N) c) (hP : PnOk Tryd.prog glob (z2g N)) : z22 Tryd.prog c (ze zo7 [0, 1, 1, 1, 1]) (z1ey N) :=
  z28 (s := SQ4) (m := 29) (g := z1i9 N) [0, 2, 3, 4] (z1n hb hP N (t1_72 N) L_72 zo7 TabOkP.nil [0, 1, 1, 1, 1] _ rfl) (fun x K => by kernel_rfl)

def z7j (N : Nat) (p : DT4) (low : Int) (high : Int) (from_ : Int) (k0 : (Int × (Int × Unit)) -> Option (Int × (Int × Unit))) (k1 : Option (Int × (Int × Unit))) : Option (Int × (Int × Unit)) :=
 cond (decide (high < (if ((1 : Int) > low) then (1 : Int) else low)))
 (k0 ((2 : Int), (from_, ())))
 (k1)

def z1hb (N : Nat) (x : zz SQ4) (K : ExP -> List A -> Option (Int × (Int × Unit))) : Option (Int × (Int × Unit)) :=
 z7j N x.1 x.2.1 x.2.2.1 x.2.2.2.1 (fun a0 => (K (.pan 46) (mkS [(0, .v z6j)] 0 (a0, ())))) (K .normal (mkS SQ58 30 (x.1, x.2.1, x.2.2.1, ())))

def z1e0 (N : Nat) : HdP (Int × (Int × Unit)) := fun st K => (unS SQ4 29 (restr [3, 2, 0, 4] 0 st)).bind fun x => z1hb N x K

def t2_72 (N : Nat) : zc5 (Int × (Int × Unit)) := []

theorem z1a9 {N : Nat} {c : Ctx} (hb : Base Tryd.prog (z1mc N) c) (hP : PnOk Tryd.prog glob (z2g N)) : z22 Tryd.prog c (ze zo7 [0, 1, 1, 1, 1, 1]) (z1e0 N) :=
  z28 (s := SQ4) (m := 29) (g := z1hb N) [3, 2, 0, 4] (z1n hb hP N (t2_72 N) L_72 zo7 TabOkP.nil [0, 1, 1, 1, 1, 1] _ rfl) (fun x K => by kernel_rfl)

def z5l (N : Nat) (p : DT4) : Option (Int × (Int × Unit)) :=
 orP ((z51 N p)) (fun z => some z)
 ((z4e N p).bind fun y =>
 z7k N y.2.1 y.1 y.1 p.2.1
 (fun p1 high => none)
 (fun p2 => some p2)
 (fun p3 high1 from_ => z7j N p3 y.1 high1 from_
 (fun p4 => some p4)
 (orP ((z27 N p3 (125 : Int))) (fun z1 => some z1)
 ((z1g N p3 (125 : Int)).bind fun y1 =>
 none))))

def t_72 (N : Nat) : zc5 (Int × (Int × Unit)) := [([0, 1, 1, 1, 1], z1ey N), ([0, 1, 1, 1, 1, 1], z1e0 N)]

theorem z150 (N : Nat) (x : zz [(0, .box TT2)]) : zh5 (z1mc N) (z2g N) N (t_72 N) L_72 Tryd.f72 46 z6j (mkS [(0, .box TT2)] 0 x) (fun z => some z) = z5l N x.1 := by kernel_rfl

def z6t (N : Nat) : List A -> PnRes := zh4 [(0, .box TT2)] (fun x => z5l N x.1) (fun z => ⟨z6j, z⟩)

theorem zdr (N : Nat) : ContractP Tryd.prog glob 72 46 (z6t N) :=
  ContractP.of (E := z1mc N) (Pn := z2g N) (H := t_72 N) (L := L_72) (N := N) (body := zo7) (t := z6j) (z1kk N) (z46 N) Tryd.func72 (by kernel_rfl) (by decide) (fun _ hb => (TabOkP.cons (z1b7 hb (z46 N)) (TabOkP.cons (z1a9 hb (z46 N)) TabOkP.nil))) (fun x y h => by rw [z150]; exact h)

abbrev z6 : Type := DT4 -> Option (Int × (Int × Unit))

def zuh : Code := (Tryd.f80.body).getD .skip

def L_73 : List (List Nat × List Nat) := [([0], [0, 2]), ([0, 0, 1], [8, 0, 2]), ([1, 0, 1], [0, 2]), ([0, 1, 0, 1], [0, 2]), ([0, 1, 1], [0, 2]), ([0, 1, 1, 1], [0, 2]), ([0, 1, 1, 1, 1], [0, 3, 2]), ([0, 1, 1, 1, 1, 1], [0, 3, 2]), (zxv, [3, 2, 0]), (z10k, [2, 0]), (z13e, [2, 0])]

def E_73 (N : Nat) (self : z6) : Env := z1s tys glob [(40, zbx N), (87, z1k N)] [] [] [0] false [] []

theorem z1kj (N : Nat) (self : z6) : EnvOk Tryd.prog (E_73 N self) := zf mixed zq (FnsOk.cons (z2k N) (FnsOk.cons (z21 N) (FnsOk.nil))) (ItsOk.nil)

def z3i (N : Nat) (self : z6) : PnT := pnT [(87, 46, z2f N), (41, 46, zo N), (40, 46, zh4 [(0, .box TT2)] (fun x => self x.1) (fun z => ⟨z6j, z⟩))]

theorem z7g (N : Nat) (self : z6) (hself : ContractP Tryd.prog glob 40 46 (zh4 [(0, .box TT2)] (fun x => self x.1) (fun z => ⟨z6j, z⟩))) : PnOk Tryd.prog glob (z3i N self) := PnOk.cons (z3h N) (PnOk.cons (zw N) (PnOk.cons (hself) (PnOk.nil)))

def z8e (N : Nat) (self : z6) (p : DT4) (x2 : DT1) (k0 : (Int × (Int × Unit)) -> Option (Int × (Int × Unit))) (k1 : Option (Int × (Int × Unit))) : Option (Int × (Int × Unit)) :=
 cond (p.2.2.1 == (16 : Int))
 (k0 ((3 : Int), (p.2.1, ())))
 (k1)

def z1i8 (N : Nat) (self : z6) (x : zz z137) (K : ExP -> List A -> Option (Int × (Int × Unit))) : Option (Int × (Int × Unit)) :=
 z8e N self x.1 x.2.1 (fun a0 => (K (.pan 46) (mkS [(0, .v z6j)] 0 (a0, ())))) (K .normal (mkS z137 33 (x.1, x.2.1, ())))

def z1ex (N : Nat) (self : z6) : HdP (Int × (Int × Unit)) := fun st K => (unS z137 33 (restr [0, 2] 0 st)).bind fun x => z1i8 N self x K

def t1_73 (N : Nat) (self : z6) : zc5 (Int × (Int × Unit)) := []

theorem z1b6 {N : Nat} {self : z6} {c : Ctx} (hb : Base Tryd.prog (E_73 N self) c) (hP : PnOk Tryd.prog glob (z3i N self)) : z22 Tryd.prog c (ze zuh [0, 1]) (z1ex N self) :=
  z28 (s := z137) (m := 33) (g := z1i8 N self) [0, 2] (z1n hb hP N (t1_73 N self) L_73 zuh TabOkP.nil [0, 1] _ rfl) (fun x K => by kernel_rfl)

def z67 (N : Nat) (self : z6) (p : DT4) : Option (Int × (Int × Unit)) :=
 z8e N self p ((0 : Int), (([(0 : Int), (0 : Int), (0 : Int), (0 : Int)] : List Int), (([] : List Tree), ((0 : Int), ((0 : Int), ())))))
 (fun p1 => some p1)
 (orP ((z27 N (p.1, (p.2.1, ((IntKind.wrap IntKind.i64 (p.2.2.1 + (1 : Int))), p.2.2.2))) (40 : Int))) (fun z => some z)
 ((z1g N (p.1, (p.2.1, ((IntKind.wrap IntKind.i64 (p.2.2.1 + (1 : Int))), p.2.2.2))) (40 : Int)).bind fun y =>
 orP ((self y.2.1)) (fun z1 => some z1)
 ((zl N y.2.1).bind fun y1 =>
 orP ((z27 N y1.2.1 (41 : Int))) (fun z2 => some z2)
 ((z1g N y1.2.1 (41 : Int)).bind fun y2 =>
 none))))

def t_73 (N : Nat) (self : z6) : zc5 (Int × (Int × Unit)) := [([0, 1], z1ex N self)]

theorem z14z (N : Nat) (self : z6) (x : zz [(0, .box TT2)]) : zh5 (E_73 N self) (z3i N self) N (t_73 N self) L_73 Tryd.f80 46 z6j (mkS [(0, .box TT2)] 0 x) (fun z => some z) = z67 N self x.1 := by kernel_rfl

def z7f (N : Nat) (self : z6) : List A -> PnRes := zh4 [(0, .box TT2)] (fun x => z67 N self x.1) (fun z => ⟨z6j, z⟩)

theorem ze9 (N : Nat) (self : z6) (hself : ContractP Tryd.prog glob 40 46 (zh4 [(0, .box TT2)] (fun x => self x.1) (fun z => ⟨z6j, z⟩))) : ContractP Tryd.prog glob 80 46 (z7f N self) :=
  ContractP.of (E := E_73 N self) (Pn := z3i N self) (H := t_73 N self) (L := L_73) (N := N) (body := zuh) (t := z6j) (z1kj N self) (z7g N self hself) Tryd.func80 (by kernel_rfl) (by decide) (fun _ hb => (TabOkP.cons (z1b6 hb (z7g N self hself)) TabOkP.nil)) (fun x y h => by rw [z14z]; exact h)

def zug : Code := (Tryd.f71.body).getD .skip

def L_74 : List (List Nat × List Nat) := [([0], [0, 2]), ([0, 1], [3, 0, 2]), ([0, 1, 1], [15, 0, 2, 3]), ([0, 0, 1, 1, 1], [36, 0, 2, 15, 3]), ([1, 0, 1, 1, 1], [2, 0]), ([0, 1, 1, 0, 1, 1, 1], [40, 0, 2, 15, 3]), ([1, 1, 1, 0, 1, 1, 1], [2, 0]), ([0, 1, 1, 1, 1, 0, 1, 1, 1], [51, 0, 2, 15, 3]), ([1, 1, 1, 1, 1, 0, 1, 1, 1], [2, 0]), ([0, 1, 1, 1, 1, 1, 1, 0, 1, 1, 1], [56, 0, 2, 3]), ([1, 1, 1, 1, 1, 1, 1, 0, 1, 1, 1], [2, 0]), ([0, 0, 1, 1, 1, 1, 1, 1, 1, 1, 0, 1, 1, 1], [18, 0, 3, 2]), ([1, 0, 1, 1, 1, 1, 1, 1, 1, 1, 0, 1, 1, 1], [0, 3, 2]), ([0, 1, 0, 1, 1, 1, 1, 1, 1, 1, 1, 0, 1, 1, 1], [0, 3, 2]), ([0, 1, 1, 1, 1, 1, 1, 1, 1, 1, 0, 1, 1, 1], [3, 2, 0]), ([0, 1, 1, 1, 1, 1, 1, 1, 1, 1, 1, 0, 1, 1, 1], [2, 0]), ([1, 1, 1, 1, 1, 1, 1, 1, 1, 1, 1, 0, 1, 1, 1], [2, 0]), ([0, 0, 1, 1, 1, 1, 1, 1, 1, 0, 1, 1, 1], [4, 2, 0]), ([0, 1, 0, 1, 1, 1, 1, 1, 1, 1, 0, 1, 1, 1], [2, 0]), ([1, 1, 0, 1, 1, 1, 1, 1, 1, 1, 0, 1, 1, 1], [2, 0]), ([0, 0, 1, 1, 1, 1, 1, 0, 1, 1, 1], [2, 0]), ([1, 0, 1, 1, 1, 1, 1, 0, 1, 1, 1], [2, 0]), ([0, 0, 1, 1, 1, 0, 1, 1, 1], [2, 0]), ([0, 1, 0, 1, 1, 1, 0, 1, 1, 1], [2, 0]), ([1, 1, 0, 1, 1, 1, 0, 1, 1, 1], [2, 0]), (zxx, [2, 0]), (z13d, [2, 0]), ([1, 1, 1], [2, 0])]

def E_74 (N : Nat) (self : z6) : Env := z1s tys glob [(80, z66 N (zl N)), (81, zfg N), (82, z37 N), (83, z4r N), (84, z2q N), (85, z39 N)] [] [] [0] false [] []

theorem z1ki (N : Nat) (self : z6) : EnvOk Tryd.prog (E_74 N self) := zf mixed zq (FnsOk.cons (zb4 N (zl N) (z2k N)) (FnsOk.cons (zll N) (FnsOk.cons (z4n N) (FnsOk.cons (z9g N) (FnsOk.cons (z49 N) (FnsOk.cons (z50 N) (FnsOk.nil))))))) (ItsOk.nil)

def z3w (N : Nat) (self : z6) : PnT := pnT [(80, 46, z7f N self), (83, 46, z5v N), (84, 46, z45 N), (41, 46, zo N), (40, 46, zh4 [(0, .box TT2)] (fun x => self x.1) (fun z => ⟨z6j, z⟩))]

theorem z8g (N : Nat) (self : z6) (hself : ContractP Tryd.prog glob 40 46 (zh4 [(0, .box TT2)] (fun x => self x.1) (fun z => ⟨z6j, z⟩))) : PnOk Tryd.prog glob (z3w N self) := PnOk.cons (ze9 N self hself) (PnOk.cons (zc9 N) (PnOk.cons (z7i N) (PnOk.cons (zw N) (PnOk.cons (hself) (PnOk.nil)))))

def z9h (N : Nat) (self : z6) (p : DT4) (x2 : DT1) (b : Int) (k0 : (Int × (Int × Unit)) -> Option (Int × (Int × Unit))) (k1 : Option (Int × (Int × Unit))) : Option (Int × (Int × Unit)) :=
 cond (decide ((0 : Int) <= (Go.Lib.indexByte ([(92 : UInt8), (46 : UInt8), (91 : UInt8), (93 : UInt8), (40 : UInt8), (41 : UInt8), (123 : UInt8), (125 : UInt8), (124 : UInt8), (42 : UInt8), (43 : UInt8), (63 : UInt8)] : List UInt8) (Nat.toUInt8 (Int.toNat b)))))
 (k0 ((2 : Int), (p.2.1, ())))
 (k1)

def z1i7 (N : Nat) (self : z6) (x : zz z13b) (K : ExP -> List A -> Option (Int × (Int × Unit))) : Option (Int × (Int × Unit)) :=
 z9h N self x.1 x.2.1 x.2.2.1 (fun a0 => (K (.pan 46) (mkS [(0, .v z6j)] 0 (a0, ())))) (K .normal (mkS z13b 61 (x.1, x.2.1, x.2.2.1, ())))

def z1ew (N : Nat) (self : z6) : HdP (Int × (Int × Unit)) := fun st K => (unS z13b 61 (restr [3, 0, 2] 0 st)).bind fun x => z1i7 N self x K

def t1_74 (N : Nat) (self : z6) : zc5 (Int × (Int × Unit)) := []

theorem z1b5 {N : Nat} {self : z6} {c : Ctx} (hb : Base Tryd.prog (E_74 N self) c) (hP : PnOk Tryd.prog glob (z3w N self)) : z22 Tryd.prog c (ze zug z18h) (z1ew N self) :=
  z28 (s := z13b) (m := 61) (g := z1i7 N self) [3, 0, 2] (z1n hb hP N (t1_74 N self) L_74 zug TabOkP.nil z18h _ rfl) (fun x K => by kernel_rfl)

def z6v (N : Nat) (self : z6) (p : DT4) : Option (Int × (Int × Unit)) :=
 cond (inR p.2.1 (List.length p.1))
 (cond ((((UInt8.toNat (List.getD p.1 (Int.toNat p.2.1) (0 : UInt8))) : Nat) : Int) == (40 : Int))
 (orP ((z67 N self p)) (fun z => some z)
 ((z6e N (zl N) p).bind fun y =>
 none))
 (cond ((((UInt8.toNat (List.getD p.1 (Int.toNat p.2.1) (0 : UInt8))) : Nat) : Int) == (46 : Int))
 ((z3l N (0 : Int) (255 : Int)).bind fun y1 =>
 none)
 (cond ((((UInt8.toNat (List.getD p.1 (Int.toNat p.2.1) (0 : UInt8))) : Nat) : Int) == (91 : Int))
 (orP ((z4s N p)) (fun z1 => some z1)
 ((z4l N p).bind fun y2 =>
 none))
 (cond ((((UInt8.toNat (List.getD p.1 (Int.toNat p.2.1) (0 : UInt8))) : Nat) : Int) == (92 : Int))
 (orP ((z3v N p)) (fun z2 => some z2)
 ((z31 N p).bind fun y3 =>
 none))
 (z9h N self p ((0 : Int), (([(0 : Int), (0 : Int), (0 : Int), (0 : Int)] : List Int), (([] : List Tree), ((0 : Int), ((0 : Int), ()))))) (((UInt8.toNat (List.getD p.1 (Int.toNat p.2.1) (0 : UInt8))) : Nat) : Int)
 (fun p1 => some p1)
 ((z3l N (((UInt8.toNat (List.getD p.1 (Int.toNat p.2.1) (0 : UInt8))) : Nat) : Int) (((UInt8.toNat (List.getD p.1 (Int.toNat p.2.1) (0 : UInt8))) : Nat) : Int)).bind fun y4 =>
 none))))))
 (none)

def t_74 (N : Nat) (self : z6) : zc5 (Int × (Int × Unit)) := [(z18h, z1ew N self)]

theorem z14y (N : Nat) (self : z6) (x : zz [(0, .box TT2)]) : zh5 (E_74 N self) (z3w N self) N (t_74 N self) L_74 Tryd.f71 46 z6j (mkS [(0, .box TT2)] 0 x) (fun z => some z) = z6v N self x.1 := by kernel_rfl

def z8f (N : Nat) (self : z6) : List A -> PnRes := zh4 [(0, .box TT2)] (fun x => z6v N self x.1) (fun z => ⟨z6j, z⟩)

theorem zeo (N : Nat) (self : z6) (hself : ContractP Tryd.prog glob 40 46 (zh4 [(0, .box TT2)] (fun x => self x.1) (fun z => ⟨z6j, z⟩))) : ContractP Tryd.prog glob 71 46 (z8f N self) :=
  ContractP.of (E := E_74 N self) (Pn := z3w N self) (H := t_74 N self) (L := L_74) (N := N) (body := zug) (t := z6j) (z1ki N self) (z8g N self hself) Tryd.func71 (by kernel_rfl) (by decide) (fun _ hb => (TabOkP.cons (z1b5 hb (z8g N self hself)) TabOkP.nil)) (fun x y h => by rw [z14y]; exact h)

def zuf : Code := (Tryd.f66.body).getD .skip

def L_75 : List (List Nat × List Nat) := [([0], [0, 2]), ([0, 1], [0, 3, 2]), ([0, 0, 1, 1], [16, 3, 2, 0]), ([1, 0, 1, 1], [3, 0, 2]), ([0, 0, 1, 0, 1, 1], [2, 0]), ([1, 0, 1, 0, 1, 1], [2, 0]), ([0, 1, 1, 1], [0, 4, 2, 3]), ([0, 0, 1, 1, 1, 1], [29, 4, 0, 2, 3]), ([0, 0, 0, 0, 0, 0, 0, 0, 0, 0, 0, 0, 0, 0, 1, 0, 1, 1, 1, 1], [30, 4, 0, 2, 29, 3]), ([1, 0, 0, 0, 0, 0, 0, 0, 0, 0, 0, 0, 0, 0, 1, 0, 1, 1, 1, 1], [29, 0, 4, 2, 3]), ([0, 1, 0, 0, 0, 0, 0, 0, 0, 0, 0, 0, 0, 0, 0, 1, 0, 1, 1, 1, 1], [4, 0, 2]), ([0, 0, 1, 0, 0, 0, 0, 0, 0, 0, 0, 0, 0, 0, 0, 1, 0, 1, 1, 1, 1], [32, 0, 4, 2, 29, 3]), ([1, 0, 1, 0, 0, 0, 0, 0, 0, 0, 0, 0, 0, 0, 0, 1, 0, 1, 1, 1, 1], [29, 0, 4, 2, 3]), ([0, 1, 0, 1, 0, 0, 0, 0, 0, 0, 0, 0, 0, 0, 0, 0, 1, 0, 1, 1, 1, 1], [0, 4, 2]), ([0, 0, 1, 1, 0, 0, 0, 0, 0, 0, 0, 0, 0, 0, 0, 0, 1, 0, 1, 1, 1, 1], [34, 0, 4, 2, 29, 3]), ([1, 0, 1, 1, 0, 0, 0, 0, 0, 0, 0, 0, 0, 0, 0, 0, 1, 0, 1, 1, 1, 1], [29, 0, 4, 2, 3]), ([0, 1, 0, 1, 1, 0, 0, 0, 0, 0, 0, 0, 0, 0, 0, 0, 0, 1, 0, 1, 1, 1, 1], [0, 4, 2]), ([0, 1, 1, 1, 0, 0, 0, 0, 0, 0, 0, 0, 0, 0, 0, 0, 1, 0, 1, 1, 1, 1], [36, 0, 4, 2, 3]), ([1, 1, 1, 1, 0, 0, 0, 0, 0, 0, 0, 0, 0, 0, 0, 0, 1, 0, 1, 1, 1, 1], [3, 2, 0]), ([0, 1, 1, 1, 1, 0, 0, 0, 0, 0, 0, 0, 0, 0, 0, 0, 0, 1, 0, 1, 1, 1, 1], [0, 4, 2]), ([1, 0, 0, 0, 0, 0, 0, 0, 0, 0, 0, 0, 1, 0, 1, 1, 1, 1], [3, 2, 0]), ([0, 0, 0, 0, 0, 0, 0, 0, 0, 0, 1, 0, 1, 1, 1, 1], [4, 0, 2]), ([1, 0, 0, 0, 0, 0, 0, 0, 0, 0, 1, 0, 1, 1, 1, 1], [0, 4, 2]), (z13i, [0, 4, 2]), ([0, 1, 0, 0, 0, 0, 0, 0, 0, 1, 0, 1, 1, 1, 1], [4, 2, 0]), ([1, 1, 0, 0, 0, 0, 0, 0, 0, 1, 0, 1, 1, 1, 1], [4, 2, 0]), ([0, 0, 0, 0, 0, 0, 1, 0, 1, 1, 1, 1], [0, 4, 2]), ([0, 0, 1, 0, 0, 0, 0, 0, 1, 0, 1, 1, 1, 1], [4, 2, 0]), ([1, 0, 1, 0, 0, 0, 0, 0, 1, 0, 1, 1, 1, 1], [4, 2, 0]), ([1, 1, 0, 0, 0, 0, 0, 1, 0, 1, 1, 1, 1], [4, 2, 0]), ([0, 0, 0, 0, 1, 0, 1, 1, 1, 1], [0, 4, 2]), ([0, 0, 1, 0, 0, 0, 1, 0, 1, 1, 1, 1], [0, 4, 2]), ([1, 0, 1, 0, 0, 0, 1, 0, 1, 1, 1, 1], [4, 2, 0]), ([1, 1, 0, 0, 0, 1, 0, 1, 1, 1, 1], [4, 2, 0]), ([0, 0, 1, 0, 1, 1, 1, 1], [3, 2, 0]), ([0, 0, 1, 0, 1, 0, 1, 1, 1, 1], [2, 0]), ([1, 0, 1, 0, 1, 0, 1, 1, 1, 1], [2, 0]), ([1, 1, 0, 1, 0, 1, 1, 1, 1], [4, 2, 0]), ([1, 0, 1, 1, 1, 1], [4, 2, 0]), ([0, 1, 1, 1, 1, 1], [2, 0]), ([1, 1, 1, 1, 1, 1], [2, 0])]

def E_75 (N : Nat) (self : z6) : Env := z1s tys glob [(71, z6u N (zl N)), (72, z5k N)] [] [] [0] false [] []

theorem z1kh (N : Nat) (self : z6) : EnvOk Tryd.prog (E_75 N self) := zf mixed zq (FnsOk.cons (zbw N (zl N) (z2k N)) (FnsOk.cons (zae N) (FnsOk.nil))) (ItsOk.nil)

def z3f (N : Nat) (self : z6) : PnT := pnT [(71, 46, z8f N self), (72, 46, z6t N), (40, 46, zh4 [(0, .box TT2)] (fun x => self x.1) (fun z => ⟨z6j, z⟩))]

theorem z7e (N : Nat) (self : z6) (hself : ContractP Tryd.prog glob 40 46 (zh4 [(0, .box TT2)] (fun x => self x.1) (fun z => ⟨z6j, z⟩))) : PnOk Tryd.prog glob (z3f N self) := PnOk.cons (zeo N self hself) (PnOk.cons (zdr N) (PnOk.cons (hself) (PnOk.nil)))

def z8a (N : Nat) (self : z6) (p : DT4) (x2 : DT1) (kid : DT1) (rep : DT1) (x29 : Int) (k0 : DT1 -> Option (Int × (Int × Unit))) (k1 : Option (Int × (Int × Unit))) (k2 : Option (Int × (Int × Unit))) (k3 : Option (Int × (Int × Unit))) : Option (Int × (Int × Unit)) :=
 cond (x29 == (43 : Int))
 (k0 (rep.1, (rep.2.1, (rep.2.2.1, ((1 : Int), rep.2.2.2.2)))))
 (cond (x29 == (42 : Int))
 (k0 rep)
 (cond (x29 == (63 : Int))
 (k1)
 (cond (x29 == (123 : Int))
 (k2)
 (k3))))

def z1i6 (N : Nat) (self : z6) (x : zz z18c) (K : ExP -> List A -> Option (Int × (Int × Unit))) : Option (Int × (Int × Unit)) :=
 z8a N self x.1 x.2.1 x.2.2.1 x.2.2.2.1 x.2.2.2.2.1 (fun a2 => (K .normal (mkS z186 65 (x.1, x.2.1, a2, ())))) (K (.exit 3) (mkS z186 65 (x.1, x.2.1, x.2.2.2.1, ()))) (K (.exit 4) (mkS z186 65 (x.1, x.2.1, x.2.2.2.1, ()))) (K (.exit 5) (mkS [(0, .box TT2), (1, .box TT0), (0, .box TT0)] 66 (x.1, x.2.1, x.2.2.1, ())))

def z1ev (N : Nat) (self : z6) : HdP (Int × (Int × Unit)) := fun st K => (unS z18c 40 (restr [29, 4, 0, 2, 3] 0 st)).bind fun x => z1i6 N self x K

def t1_75 (N : Nat) (self : z6) : zc5 (Int × (Int × Unit)) := []

theorem z1b4 {N : Nat} {self : z6} {c : Ctx} (hb : Base Tryd.prog (E_75 N self) c) (hP : PnOk Tryd.prog glob (z3f N self)) : z22 Tryd.prog c (ze zuf z13i) (z1ev N self) :=
  z28 (s := z18c) (m := 40) (g := z1i6 N self) [29, 4, 0, 2, 3] (z1n hb hP N (t1_75 N self) L_75 zuf TabOkP.nil z13i _ rfl) (fun x K => by kernel_rfl)

def z65 (N : Nat) (self : z6) (p : DT4) : Option (Int × (Int × Unit)) :=
 orP ((z6v N self p)) (fun z => some z)
 ((z77 N (zl N) p).bind fun y =>
 cond (y.2.1.2.1 == (((List.length y.2.1.1) : Nat) : Int))
 (none)
 (cond (inR y.2.1.2.1 (List.length y.2.1.1))
 (z8a N self y.2.1 ((0 : Int), (([(0 : Int), (0 : Int), (0 : Int), (0 : Int)] : List Int), (([] : List Tree), ((0 : Int), ((0 : Int), ()))))) y.1 ((4 : Int), (([(0 : Int), (0 : Int), (0 : Int), (0 : Int)] : List Int), ((List.map foN ([y.1] : List zwj)), ((0 : Int), ((-(1 : Int)), ()))))) (((UInt8.toNat (List.getD y.2.1.1 (Int.toNat y.2.1.2.1) (0 : UInt8))) : Nat) : Int)
 (fun rep => none)
 (none)
 (orP ((z5l N (y.2.1.1, ((IntKind.wrap IntKind.i64 (y.2.1.2.1 + (1 : Int))), y.2.1.2.2)))) (fun z1 => some z1)
 ((z5m N (y.2.1.1, ((IntKind.wrap IntKind.i64 (y.2.1.2.1 + (1 : Int))), y.2.1.2.2))).bind fun y1 =>
 none))
 (none))
 (none)))

def t_75 (N : Nat) (self : z6) : zc5 (Int × (Int × Unit)) := [(z13i, z1ev N self)]

theorem z14x (N : Nat) (self : z6) (x : zz [(0, .box TT2)]) : zh5 (E_75 N self) (z3f N self) N (t_75 N self) L_75 Tryd.f66 46 z6j (mkS [(0, .box TT2)] 0 x) (fun z => some z) = z65 N self x.1 := by kernel_rfl

def z7d (N : Nat) (self : z6) : List A -> PnRes := zh4 [(0, .box TT2)] (fun x => z65 N self x.1) (fun z => ⟨z6j, z⟩)

theorem ze8 (N : Nat) (self : z6) (hself : ContractP Tryd.prog glob 40 46 (zh4 [(0, .box TT2)] (fun x => self x.1) (fun z => ⟨z6j, z⟩))) : ContractP Tryd.prog glob 66 46 (z7d N self) :=
  ContractP.of (E := E_75 N self) (Pn := z3f N self) (H := t_75 N self) (L := L_75) (N := N) (body := zuf) (t := z6j) (z1kh N self) (z7e N self hself) Tryd.func66 (by kernel_rfl) (by decide) (fun _ hb => (TabOkP.cons (z1b4 hb (z7e N self hself)) TabOkP.nil)) (fun x y h => by rw [z14x]; exact h)

def zjg : Code := (Tryd.f56.body).getD .skip

def z1k6 : List (List Nat × List Nat) := [([0], [0, 2]), ([0, 1], [0, 3, 2]), ([0, 0, 1, 1], [0, 3, 2]), ([0, 0, 0, 0, 0, 1, 1], [37, 3, 0, 2]), ([1, 0, 0, 0, 0, 1, 1], [3, 0, 2]), (z10m, [3, 2, 0]), ([0, 1, 0, 0, 0, 1, 1], [0, 3, 2]), ([1, 0, 0, 0, 1, 1], [0, 3, 2]), ([0, 1, 1], [3, 2, 0]), ([0, 1, 1, 1], [2, 0]), ([1, 1, 1, 1], [2, 0])]

def z18m (N : Nat) (self : z6) : Env := z1s tys glob [(58, z8h N), (66, z64 N (zl N))] [(3, TT0)] [] [0] false [] []

theorem z1kg (N : Nat) (self : z6) : EnvOk Tryd.prog (z18m N self) := zf mixed zq (FnsOk.cons (zca N) (FnsOk.cons (zb2 N (zl N) (z2k N)) (FnsOk.nil))) (ItsOk.nil)

def z2d (N : Nat) (self : z6) : PnT := pnT [(66, 46, z7d N self), (40, 46, zh4 [(0, .box TT2)] (fun x => self x.1) (fun z => ⟨z6j, z⟩))]

theorem z9e (N : Nat) (self : z6) (hself : ContractP Tryd.prog glob 40 46 (zh4 [(0, .box TT2)] (fun x => self x.1) (fun z => ⟨z6j, z⟩))) : PnOk Tryd.prog glob (z2d N self) := PnOk.cons (ze8 N self hself) (PnOk.cons (hself) (PnOk.nil))

def za2 (N : Nat) (self : z6) (p : DT4) (x2 : DT1) (parts : (List DT1)) (k0 : Option (Int × (Int × Unit))) (k1 : Option (Int × (Int × Unit))) : Option (Int × (Int × Unit)) :=
 cond (decide (p.2.1 < (((List.length p.1) : Nat) : Int)))
 (cond (inR p.2.1 (List.length p.1))
 (cond ((((UInt8.toNat (List.getD p.1 (Int.toNat p.2.1) (0 : UInt8))) : Nat) : Int) != (124 : Int))
 (cond (inR p.2.1 (List.length p.1))
 (cond ((((UInt8.toNat (List.getD p.1 (Int.toNat p.2.1) (0 : UInt8))) : Nat) : Int) != (41 : Int))
 (k0)
 (k1))
 (none))
 (k1))
 (none))
 (k1)

def z1gv (N : Nat) (self : z6) (x : zz SQ2) (K : ExP -> List A -> Option (Int × (Int × Unit))) : Option (Int × (Int × Unit)) :=
 za2 N self x.1 x.2.1 x.2.2.1 (K .normal (mkS SQ2 41 (x.1, x.2.1, x.2.2.1, ()))) (K (.exit 0) (mkS SQ2 41 (x.1, x.2.1, x.2.2.1, ())))

def z1dk (N : Nat) (self : z6) : HdP (Int × (Int × Unit)) := fun st K => (unS SQ2 41 (restr [0, 3, 2] 0 st)).bind fun x => z1gv N self x K

def t3_76 (N : Nat) (self : z6) : zc5 (Int × (Int × Unit)) := []

theorem z19t {N : Nat} {self : z6} {c : Ctx} (hb : Base Tryd.prog (z18m N self) c) (hP : PnOk Tryd.prog glob (z2d N self)) : z22 Tryd.prog c (ze zjg [0, 0, 0, 0, 1, 1]) (z1dk N self) :=
  z28 (s := SQ2) (m := 41) (g := z1gv N self) [0, 3, 2] (z1n hb hP N (t3_76 N self) z1k6 zjg TabOkP.nil [0, 0, 0, 0, 1, 1] _ rfl) (fun x K => by kernel_rfl)

def za1 (N : Nat) (self : z6) (x2 : DT1) (p : DT4) (parts : (List DT1)) (rec : DT4 -> (List DT1) -> Option (Int × (Int × Unit))) (k0 : (Int × (Int × Unit)) -> Option (Int × (Int × Unit))) (k1 : DT4 -> (List DT1) -> Option (Int × (Int × Unit))) : Option (Int × (Int × Unit)) :=
 za2 N self p x2 parts
 (orP ((z65 N self p)) (fun z => k0 z)
 ((z6d N (zl N) p).bind fun y =>
 cond (decide ((((List.length parts) + 1) * 80) <= 70368744177664))
 (rec y.2.1 (parts ++ ([y.1] : List zwj)))
 (none)))
 (k1 p parts)

def zfd (N : Nat) (self : z6) (p : DT4) (x2 : DT1) (parts : (List DT1)) (k0 : (Int × (Int × Unit)) -> Option (Int × (Int × Unit))) (k1 : DT4 -> (List DT1) -> Option (Int × (Int × Unit))) : Option (Int × (Int × Unit)) :=
 iter (fun (v : (DT4 × (List DT1))) r => za1 N self x2 v.1 v.2 (fun p parts => (r (p, parts))) k0 k1) N (p, parts)

def z1ha (N : Nat) (self : z6) (i : DT1) (v : (DT4 × (List DT1))) (r : (DT4 × (List DT1)) -> Option (Int × (Int × Unit))) (K : ExP -> List A -> Option (Int × (Int × Unit))) : Option (Int × (Int × Unit)) :=
 za1 N self i v.1 v.2 (fun p parts => (r (p, parts))) (fun a0 => (K (.pan 46) (mkS [(0, .v z6j)] 0 (a0, ())))) (fun a0 a2 => (K (.exit 0) (mkS SQ2 41 (a0, i, a2, ()))))

def z1dz (N : Nat) (self : z6) : HdP (Int × (Int × Unit)) := fun st K => (unS SQ2 41 (restr [0, 3, 2] 0 st)).bind fun x => iter (fun v r => z1ha N self ((fun x => x.2.1) x) v r K) N ((fun x => (x.1, x.2.2.1)) x)

def t2_76 (N : Nat) (self : z6) : zc5 (Int × (Int × Unit)) := [([0, 0, 0, 0, 1, 1], z1dk N self)]

theorem z1a8 {N : Nat} {self : z6} {c : Ctx} (hb : Base Tryd.prog (z18m N self) c) (hP : PnOk Tryd.prog glob (z2d N self)) : z22 Tryd.prog c (ze zjg [0, 0, 1, 1]) (z1dz N self) :=
  zmh (s := SQ2) (m := 41) (z1ha N self) [0, 3, 2] N (fun x => x.2.1) (fun x => (x.1, x.2.2.1)) (fun i v => (v.1, i, v.2, ())) (fun _ => rfl) (z1n hb hP N (t2_76 N self) z1k6 zjg (TabOkP.cons (z19t hb hP) TabOkP.nil) [0, 0, 0, 1, 1] _ rfl) (fun i v r K => by kernel_rfl)

def za3 (N : Nat) (self : z6) (p : DT4) (x2 : DT1) (parts : (List DT1)) (k0 : (Int × (Int × Unit)) -> Option (Int × (Int × Unit))) (k1 : DT4 -> (List DT1) -> Option (Int × (Int × Unit))) : Option (Int × (Int × Unit)) :=
 zfd N self p x2 parts
 (fun p1 => k0 p1)
 (fun p2 zjy => k1 p2 zjy)

def z1i5 (N : Nat) (self : z6) (x : zz SQ2) (K : ExP -> List A -> Option (Int × (Int × Unit))) : Option (Int × (Int × Unit)) :=
 za3 N self x.1 x.2.1 x.2.2.1 (fun a0 => (K (.pan 46) (mkS [(0, .v z6j)] 0 (a0, ())))) (fun a0 a2 => (K .normal (mkS SQ2 41 (a0, x.2.1, a2, ()))))

def z1eu (N : Nat) (self : z6) : HdP (Int × (Int × Unit)) := fun st K => (unS SQ2 41 (restr [0, 3, 2] 0 st)).bind fun x => z1i5 N self x K

def t1_76 (N : Nat) (self : z6) : zc5 (Int × (Int × Unit)) := [([0, 0, 1, 1], z1dz N self)]

theorem z1b3 {N : Nat} {self : z6} {c : Ctx} (hb : Base Tryd.prog (z18m N self) c) (hP : PnOk Tryd.prog glob (z2d N self)) : z22 Tryd.prog c (ze zjg [0, 1, 1]) (z1eu N self) :=
  z28 (s := SQ2) (m := 41) (g := z1i5 N self) [0, 3, 2] (z1n hb hP N (t1_76 N self) z1k6 zjg (TabOkP.cons (z1a8 hb hP) TabOkP.nil) [0, 1, 1] _ rfl) (fun x K => by kernel_rfl)

def z53 (N : Nat) (self : z6) (p : DT4) : Option (Int × (Int × Unit)) :=
 za3 N self p ((0 : Int), (([(0 : Int), (0 : Int), (0 : Int), (0 : Int)] : List Int), (([] : List Tree), ((0 : Int), ((0 : Int), ()))))) ([] : List zwj)
 (fun p1 => some p1)
 (fun p2 parts => (zch N (2 : Int) (List.map foN parts)).bind fun y =>
 none)

def t_76 (N : Nat) (self : z6) : zc5 (Int × (Int × Unit)) := [([0, 1, 1], z1eu N self)]

theorem z14w (N : Nat) (self : z6) (x : zz [(0, .box TT2)]) : zh5 (z18m N self) (z2d N self) N (t_76 N self) z1k6 Tryd.f56 46 z6j (mkS [(0, .box TT2)] 0 x) (fun z => some z) = z53 N self x.1 := by kernel_rfl

def z9d (N : Nat) (self : z6) : List A -> PnRes := zh4 [(0, .box TT2)] (fun x => z53 N self x.1) (fun z => ⟨z6j, z⟩)

theorem zfe (N : Nat) (self : z6) (hself : ContractP Tryd.prog glob 40 46 (zh4 [(0, .box TT2)] (fun x => self x.1) (fun z => ⟨z6j, z⟩))) : ContractP Tryd.prog glob 56 46 (z9d N self) :=
  ContractP.of (E := z18m N self) (Pn := z2d N self) (H := t_76 N self) (L := z1k6) (N := N) (body := zjg) (t := z6j) (z1kg N self) (z9e N self hself) Tryd.func56 (by kernel_rfl) (by decide) (fun _ hb => (TabOkP.cons (z1b3 hb (z9e N self hself)) TabOkP.nil)) (fun x y h => by rw [z14w]; exact h)

def zr9 : Code := (Tryd.f40.body).getD .skip

def L_77 : List (List Nat × List Nat) := [([0], [0, 2]), ([0, 1], [0, 3, 2]), ([0, 0, 1, 1], [0, 3, 2]), ([0, 0, 0, 0, 0, 1, 1], [8, 3, 0, 2]), ([1, 0, 0, 0, 0, 1, 1], [3, 0, 2]), (z10m, [3, 2, 0]), ([0, 1, 0, 0, 0, 1, 1], [0, 3, 2]), ([1, 0, 0, 0, 1, 1], [0, 3, 2]), ([0, 1, 1], [3, 2, 0]), ([0, 1, 1, 1], [2, 0]), ([1, 1, 1, 1], [2, 0])]

def E_77 (N : Nat) (self : DT4 -> Option (Int × (Int × Unit))) : Env := z1s tys glob [(56, z7o N (zl N)), (57, z1j N), (58, z8h N)] [(3, TT0)] [] [0] false [] []

theorem z1kf (N : Nat) (self : DT4 -> Option (Int × (Int × Unit))) : EnvOk Tryd.prog (E_77 N self) := zf mixed zq (FnsOk.cons (zd6 N (zl N) (z2k N)) (FnsOk.cons (z20 N) (FnsOk.cons (zca N) (FnsOk.nil)))) (ItsOk.nil)

def z4a (N : Nat) (self : DT4 -> Option (Int × (Int × Unit))) : PnT := pnT [(56, 46, z9d N self), (40, 46, zh4 [(0, .box TT2)] (fun x => self x.1) (fun z => ⟨z6j, z⟩))]

theorem z9i (N : Nat) (self : DT4 -> Option (Int × (Int × Unit))) (hself : ContractP Tryd.prog glob 40 46 (zh4 [(0, .box TT2)] (fun x => self x.1) (fun z => ⟨z6j, z⟩))) : PnOk Tryd.prog glob (z4a N self) := PnOk.cons (zfe N self hself) (PnOk.cons (hself) (PnOk.nil))

def za4 (N : Nat) (self : DT4 -> Option (Int × (Int × Unit))) (x2 : DT1) (p : DT4) (parts : (List DT1)) (rec : DT4 -> (List DT1) -> Option (Int × (Int × Unit))) (k0 : (Int × (Int × Unit)) -> Option (Int × (Int × Unit))) (k1 : DT4 -> (List DT1) -> Option (Int × (Int × Unit))) : Option (Int × (Int × Unit)) :=
 (z14 N p (124 : Int)).bind fun y =>
 cond y.1
 (orP ((z53 N self y.2.1)) (fun z => k0 z)
 ((z4g N (zl N) y.2.1).bind fun y1 =>
 cond (decide ((((List.length parts) + 1) * 80) <= 70368744177664))
 (rec y1.2.1 (parts ++ ([y1.1] : List zwj)))
 (none)))
 (k1 y.2.1 parts)

def zff (N : Nat) (self : DT4 -> Option (Int × (Int × Unit))) (p : DT4) (x2 : DT1) (parts : (List DT1)) (k0 : (Int × (Int × Unit)) -> Option (Int × (Int × Unit))) (k1 : DT4 -> (List DT1) -> Option (Int × (Int × Unit))) : Option (Int × (Int × Unit)) :=
 iter (fun (v : (DT4 × (List DT1))) r => za4 N self x2 v.1 v.2 (fun p parts => (r (p, parts))) k0 k1) N (p, parts)

def z1i4 (N : Nat) (self : DT4 -> Option (Int × (Int × Unit))) (i : DT1) (v : (DT4 × (List DT1))) (r : (DT4 × (List DT1)) -> Option (Int × (Int × Unit))) (K : ExP -> List A -> Option (Int × (Int × Unit))) : Option (Int × (Int × Unit)) :=
 za4 N self i v.1 v.2 (fun p parts => (r (p, parts))) (fun a0 => (K (.pan 46) (mkS [(0, .v z6j)] 0 (a0, ())))) (fun a0 a2 => (K (.exit 0) (mkS SQ2 12 (a0, i, a2, ()))))

def z1et (N : Nat) (self : DT4 -> Option (Int × (Int × Unit))) : HdP (Int × (Int × Unit)) := fun st K => (unS SQ2 12 (restr [0, 3, 2] 0 st)).bind fun x => iter (fun v r => z1i4 N self ((fun x => x.2.1) x) v r K) N ((fun x => (x.1, x.2.2.1)) x)

def t1_77 (N : Nat) (self : DT4 -> Option (Int × (Int × Unit))) : zc5 (Int × (Int × Unit)) := []

theorem z1b2 {N : Nat} {self : DT4 -> Option (Int × (Int × Unit))} {c : Ctx} (hb : Base Tryd.prog (E_77 N self) c) (hP : PnOk Tryd.prog glob (z4a N self)) : z22 Tryd.prog c (ze zr9 [0, 0, 1, 1]) (z1et N self) :=
  zmh (s := SQ2) (m := 12) (z1i4 N self) [0, 3, 2] N (fun x => x.2.1) (fun x => (x.1, x.2.2.1)) (fun i v => (v.1, i, v.2, ())) (fun _ => rfl) (z1n hb hP N (t1_77 N self) L_77 zr9 TabOkP.nil [0, 0, 0, 1, 1] _ rfl) (fun i v r K => by kernel_rfl)

def zaf (N : Nat) (self : DT4 -> Option (Int × (Int × Unit))) (p : DT4) : Option (Int × (Int × Unit)) :=
 orP ((z53 N self p)) (fun z => some z)
 ((z4g N (zl N) p).bind fun y =>
 zff N self y.2.1 ((0 : Int), (([(0 : Int), (0 : Int), (0 : Int), (0 : Int)] : List Int), (([] : List Tree), ((0 : Int), ((0 : Int), ()))))) ([y.1] : List zwj)
 (fun p1 => some p1)
 (fun p2 parts => (zch N (3 : Int) (List.map foN parts)).bind fun y1 =>
 none))

def t_77 (N : Nat) (self : DT4 -> Option (Int × (Int × Unit))) : zc5 (Int × (Int × Unit)) := [([0, 0, 1, 1], z1et N self)]

theorem z14v (N : Nat) (self : DT4 -> Option (Int × (Int × Unit))) (x : zz [(0, .box TT2)]) : zh5 (E_77 N self) (z4a N self) N (t_77 N self) L_77 Tryd.f40 46 z6j (mkS [(0, .box TT2)] 0 x) (fun z => some z) = zaf N self x.1 := by kernel_rfl

def z1p : Nat -> DT4 -> Option (Int × (Int × Unit))
  | 0 => fun _ => none
  | N + 1 => zaf (N + 1) (z1p N)

def zep (N : Nat) : List A -> PnRes := zh4 [(0, .box TT2)] (fun x => z1p N x.1) (fun z => ⟨z6j, z⟩)

theorem z5n : ∀ N : Nat, ContractP Tryd.prog glob 40 46 (zep N)
  | 0 => ContractP.zero Tryd.func40 (body := zr9) (by kernel_rfl) (by decide) (fun _ => rfl)
  | N + 1 => ContractP.of (E := E_77 (N + 1) (z1p N)) (Pn := z4a (N + 1) (z1p N)) (H := t_77 (N + 1) (z1p N)) (L := L_77) (N := (N + 1)) (body := zr9) (t := z6j) (z1kf (N + 1) (z1p N)) (z9i (N + 1) (z1p N) (z5n N)) Tryd.func40 (by kernel_rfl) (by decide) (fun _ hb => (TabOkP.cons (z1b2 hb (z9i (N + 1) (z1p N) (z5n N))) TabOkP.nil)) (fun x y h => by rw [z14v]; exact h)

end
end Go.Proofs.YtmeecjkimeiogaaDoorLg

set_option linter.all false
set_option maxRecDepth 100000
namespace Go.Proofs.YtmeecjkimeiogaaDoorLg
noncomputable section
open Go Go.Lift

def Cl (w : World) (n : Nat) (cs : List Value) : Prop := ∀ i v, cs[i]? = some v -> w.cell? ⟨n, i, none⟩ = some v /\ w.frozen? ⟨n, i, none⟩ = false

def PsW (w0 : World) (S0 S : Hp) (W : World) : Prop := WF w0 (fun _ => False) W /\ Lift.Sub S0 S /\ Lift.Sub S (hp W) /\ ∀ k, S k ≠ none -> S0 k ≠ none \/ w0.heap.size <= k

theorem PsW.drew {w0 W : World} {S0 S : Hp} (h : PsW w0 S0 S W) : PsW w0 S0 S W.drew := by
  obtain ⟨h1, h2, h3, h4⟩ := h
  exact ⟨⟨h1.size, h1.same, h1.tape, h1.os, h1.output⟩, h2, h3, h4⟩

theorem PsW.alloc {w0 W : World} {S0 S : Hp} (h : PsW w0 S0 S W) (cs : Array Value) (E : Nat) : PsW w0 S0 S (W.alloc (.cells cs E)) := by
  obtain ⟨h1, h2, h3, h4⟩ := h
  have hh : (W.alloc (.cells cs E)).heap = W.heap.push (.cells cs E (0, 0)) := rfl
  have hk : ∀ k, k < W.heap.size -> (W.alloc (.cells cs E)).heap[k]? = W.heap[k]? := fun k hk => by
    rw [hh, Array.getElem?_push, if_neg (by omega)]
  refine ⟨⟨by rw [hh, Array.size_push]; have := h1.size; omega, fun k h1' h2' => by rw [hk k (by have := h1.size; omega)]; exact h1.same k h1' h2', h1.tape, h1.os, h1.output⟩, h2, fun k q ho => ?_, h4⟩
  have := h3 k q ho
  simp only [hp] at this ⊢
  rw [hk k (Array.getElem?_eq_some_iff.1 this).1]
  exact this

theorem zha {W : World} {p i : Nat} {v : Value} {k : Nat} (hk : k ≠ p) : (W.setCell ⟨p, i, none⟩ v).heap[k]? = W.heap[k]? := by
  unfold World.setCell
  split <;> simp [Array.getElem?_modify, Ne.symm hk]

theorem PsW.setCell {w0 W : World} {S0 S : Hp} {p i : Nat} {v : Value} (h : PsW w0 S0 S W) (hp' : w0.heap.size <= p) (hS : S p = none) : PsW w0 S0 S (W.setCell ⟨p, i, none⟩ v) := by
  obtain ⟨h1, h2, h3, h4⟩ := h
  have hsz : (W.setCell ⟨p, i, none⟩ v).heap.size = W.heap.size := by
    unfold World.setCell
    split <;> simp
  have ht : (W.setCell ⟨p, i, none⟩ v).tape = W.tape /\ (W.setCell ⟨p, i, none⟩ v).os = W.os /\ (W.setCell ⟨p, i, none⟩ v).output = W.output := by
    unfold World.setCell
    split
    . exact ⟨rfl, rfl, rfl⟩
    . exact ⟨rfl, rfl, rfl⟩
  refine ⟨⟨by rw [hsz]; exact h1.size, fun k h1' h2' => by rw [zha (by omega)]; exact h1.same k h1' h2', by rw [ht.1]; exact h1.tape, by rw [ht.2.1]; exact h1.os, by rw [ht.2.2]; exact h1.output⟩, h2, fun k q ho => ?_, h4⟩
  have hk : k ≠ p := fun e => by rw [e, hS] at ho; cases ho
  have := h3 k q ho
  simp only [hp] at this ⊢
  rw [zha hk]
  exact this

theorem z5i {w : World} {n : Nat} {cs : List Value} (h : Cl w n cs) (i : Nat) (v : Value) : Cl (w.setCell ⟨n, i, none⟩ v) n (cs.set i v) := by
  intro j u hj
  rw [List.getElem?_set] at hj
  by_cases e : i = j
  . subst e
    rw [if_pos rfl] at hj
    split at hj
    . rename_i hl
      cases hj
      obtain ⟨h1, h2⟩ := h i _ (List.getElem?_eq_getElem hl)
      constructor <;> simp [go_sem, h1, h2]
    . cases hj
  . rw [if_neg e] at hj
    obtain ⟨h1, h2⟩ := h j _ hj
    have e' : j ≠ i := fun h => e h.symm
    constructor <;> simp [go_sem, h1, h2, e, e']

theorem z1u {w : World} {n m : Nat} {cs : List Value} (h : Cl w n cs) (hne : m ≠ n) (i : Nat) (v : Value) : Cl (w.setCell ⟨m, i, none⟩ v) n cs := by
  intro j u hj
  obtain ⟨h1, h2⟩ := h j _ hj
  have e' : n ≠ m := fun h => hne h.symm
  constructor <;> simp [go_sem, h1, h2, hne, e']

theorem zhx {w : World} {n : Nat} {c : Value} {cs : List Value} (h : Cl w n (c :: cs)) (o : Obj) : Cl (w.alloc o) n (c :: cs) := by
  have hlt : n < w.heap.size := by
    have h0 := (h 0 c rfl).1
    rcases Nat.lt_or_ge n w.heap.size with h1 | h1
    . exact h1
    . simp [World.cell?, Array.getElem?_eq_none h1] at h0
  intro i v hi
  obtain ⟨h1, h2⟩ := h i v hi
  exact ⟨by rw [World.cell?_alloc_past _ _ _ hlt]; exact h1, by rw [World.frozen?_alloc_past _ _ _ hlt]; exact h2⟩

theorem zsx {w : World} {n : Nat} {c : Value} {cs : List Value} (h : Cl w n (c :: cs)) : n < w.heap.size := by
  have h0 := (h 0 c rfl).1
  rcases Nat.lt_or_ge n w.heap.size with h1 | h1
  . exact h1
  . simp [World.cell?, Array.getElem?_eq_none h1] at h0

theorem ps_idle {w : World} {n0 n1 : Nat} :
    CallsD Go.Proofs.Tryd.prog 39 #[.pointer (some ⟨n0, 0, none⟩), .pointer (some ⟨n1, 0, none⟩)] .returning w fun e u w' => (∃ v, e = .returned v) /\ u = .returning /\ w' = w.alloc (Obj.cells #[Value.int IntKind.i64 0, Value.int IntKind.i64 0] 46) := by
  refine callsD_of_wpS Go.Proofs.Tryd.func39 rfl fun c₀ cs hu => ?_
  have ha : ∀ W : World, (Instr.typeAssert .nilIface 20 46 true).run Go.Proofs.Tryd.prog W = .ok (.tuple #[.agg #[.int .i64 0, .int .i64 0], .bool false]) W := fun W => by kernel_rfl
  apply wpS_seq
  apply wpS_region
  simp only [Go.Proofs.Tryd.ntmps39, List.size_toArray, List.length_cons, List.length_nil, Nat.reduceAdd, Nat.reduceSub, Array.replicate_succ,
     Array.replicate_zero, List.push_toArray, List.append_toArray, List.nil_append, List.cons_append]
  simp [wpOpsS, go_sem, recoverD, hu, Exit.thenS, ha, List.range_succ]
  refine wpS_of_wp ?_
  go_wp2
  cases c₀
  simp_all [bodyPostS, results, Go.Proofs.Tryd.results39]

set_option maxHeartbeats 16000000 in
theorem zrx {w : World} {n0 n1 : Nat} {e a : Int} {y0 y1 : Value} {c0 c1 c2 c3 c4 c5 c6 c7 : Value} {R : World -> Prop} (h0 : Cl (w.alloc (Obj.cells #[Value.int IntKind.i64 e, Value.int IntKind.i64 a] 46)) n0 [c0, c1, c2, c3, c4, c5, c6, c7]) (h1 : Cl (w.alloc (Obj.cells #[Value.int IntKind.i64 e, Value.int IntKind.i64 a] 46)) n1 [y0, y1]) (hne : n0 ≠ n1) (hn2 : n0 ≠ w.heap.size) (hn3 : n1 ≠ w.heap.size)
    (hR : ∀ w', Cl w' n0 [.int .i64 0, .int .u64 0, .int .u64 0, .int .u64 0, .int .u64 0, .slice none 0 0, .int .i64 0, .int .i64 0] -> Cl w' n1 [.int .i64 e, .int .i64 a] →
      (∀ (w0 : World) (S0 S : Hp), PsW w0 S0 S w -> w0.heap.size <= n0 -> w0.heap.size <= n1 -> S n0 = none -> S n1 = none -> PsW w0 S0 S w') -> R w') :
    CallsD Go.Proofs.Tryd.prog 39 #[.pointer (some ⟨n0, 0, none⟩), .pointer (some ⟨n1, 0, none⟩)] (.panicking [{ v := .iface 46 (.agg #[.int .i64 e, .int .i64 a]), recovered := false }]) w fun r u w' => (∃ v, r = .returned v) /\ u = .panicking [{ v := .iface 46 (.agg #[.int .i64 e, .int .i64 a]), recovered := true }] /\ R w' := by
  refine callsD_of_wpS Go.Proofs.Tryd.func39 rfl fun c₀ cs hu => ?_
  have ha : ∀ W : World, (Instr.typeAssert (.iface 46 (.agg #[.int .i64 e, .int .i64 a])) 20 46 true).run Go.Proofs.Tryd.prog W = .ok (.tuple #[.agg #[.int .i64 e, .int .i64 a], .bool true]) W := fun W => by kernel_rfl
  have c00 : (w.alloc (Obj.cells #[Value.int IntKind.i64 e, Value.int IntKind.i64 a] 46)).cell? ⟨n0, 0, none⟩ = some (c0) := (h0 0 _ rfl).1
  have z00 : (w.alloc (Obj.cells #[Value.int IntKind.i64 e, Value.int IntKind.i64 a] 46)).frozen? ⟨n0, 0, none⟩ = false := (h0 0 _ rfl).2
  have c01 : (w.alloc (Obj.cells #[Value.int IntKind.i64 e, Value.int IntKind.i64 a] 46)).cell? ⟨n0, 1, none⟩ = some (c1) := (h0 1 _ rfl).1
  have z01 : (w.alloc (Obj.cells #[Value.int IntKind.i64 e, Value.int IntKind.i64 a] 46)).frozen? ⟨n0, 1, none⟩ = false := (h0 1 _ rfl).2
  have c02 : (w.alloc (Obj.cells #[Value.int IntKind.i64 e, Value.int IntKind.i64 a] 46)).cell? ⟨n0, 2, none⟩ = some (c2) := (h0 2 _ rfl).1
  have z02 : (w.alloc (Obj.cells #[Value.int IntKind.i64 e, Value.int IntKind.i64 a] 46)).frozen? ⟨n0, 2, none⟩ = false := (h0 2 _ rfl).2
  have c03 : (w.alloc (Obj.cells #[Value.int IntKind.i64 e, Value.int IntKind.i64 a] 46)).cell? ⟨n0, 3, none⟩ = some (c3) := (h0 3 _ rfl).1
  have z03 : (w.alloc (Obj.cells #[Value.int IntKind.i64 e, Value.int IntKind.i64 a] 46)).frozen? ⟨n0, 3, none⟩ = false := (h0 3 _ rfl).2
  have c04 : (w.alloc (Obj.cells #[Value.int IntKind.i64 e, Value.int IntKind.i64 a] 46)).cell? ⟨n0, 4, none⟩ = some (c4) := (h0 4 _ rfl).1
  have z04 : (w.alloc (Obj.cells #[Value.int IntKind.i64 e, Value.int IntKind.i64 a] 46)).frozen? ⟨n0, 4, none⟩ = false := (h0 4 _ rfl).2
  have c05 : (w.alloc (Obj.cells #[Value.int IntKind.i64 e, Value.int IntKind.i64 a] 46)).cell? ⟨n0, 5, none⟩ = some (c5) := (h0 5 _ rfl).1
  have z05 : (w.alloc (Obj.cells #[Value.int IntKind.i64 e, Value.int IntKind.i64 a] 46)).frozen? ⟨n0, 5, none⟩ = false := (h0 5 _ rfl).2
  have c06 : (w.alloc (Obj.cells #[Value.int IntKind.i64 e, Value.int IntKind.i64 a] 46)).cell? ⟨n0, 6, none⟩ = some (c6) := (h0 6 _ rfl).1
  have z06 : (w.alloc (Obj.cells #[Value.int IntKind.i64 e, Value.int IntKind.i64 a] 46)).frozen? ⟨n0, 6, none⟩ = false := (h0 6 _ rfl).2
  have c07 : (w.alloc (Obj.cells #[Value.int IntKind.i64 e, Value.int IntKind.i64 a] 46)).cell? ⟨n0, 7, none⟩ = some (c7) := (h0 7 _ rfl).1
  have z07 : (w.alloc (Obj.cells #[Value.int IntKind.i64 e, Value.int IntKind.i64 a] 46)).frozen? ⟨n0, 7, none⟩ = false := (h0 7 _ rfl).2
  have c10 : (w.alloc (Obj.cells #[Value.int IntKind.i64 e, Value.int IntKind.i64 a] 46)).cell? ⟨n1, 0, none⟩ = some (y0) := (h1 0 _ rfl).1
  have z10 : (w.alloc (Obj.cells #[Value.int IntKind.i64 e, Value.int IntKind.i64 a] 46)).frozen? ⟨n1, 0, none⟩ = false := (h1 0 _ rfl).2
  have c11 : (w.alloc (Obj.cells #[Value.int IntKind.i64 e, Value.int IntKind.i64 a] 46)).cell? ⟨n1, 1, none⟩ = some (y1) := (h1 1 _ rfl).1
  have z11 : (w.alloc (Obj.cells #[Value.int IntKind.i64 e, Value.int IntKind.i64 a] 46)).frozen? ⟨n1, 1, none⟩ = false := (h1 1 _ rfl).2
  apply wpS_seq
  apply wpS_region
  simp only [Go.Proofs.Tryd.ntmps39, List.size_toArray, List.length_cons, List.length_nil, Nat.reduceAdd, Nat.reduceSub, Array.replicate_succ,
     Array.replicate_zero, List.push_toArray, List.append_toArray, List.nil_append, List.cons_append]
  simp [wpOpsS, go_sem, recoverD, hu, Exit.thenS, ha, List.range_succ]
  refine wpS_of_wp ?_
  go_wp2
  go_region
  have hfin : R ((((((((((((w.alloc (Obj.cells #[Value.int IntKind.i64 e, Value.int IntKind.i64 a] 46)).setCell { block := n0, off := 0 } (.int .i64 0)).setCell { block := n0, off := 1 } (.int .u64 0)).setCell { block := n0, off := 2 } (.int .u64 0)).setCell { block := n0, off := 3 } (.int .u64 0)).setCell { block := n0, off := 4 } (.int .u64 0)).setCell { block := n0, off := 5 } (.slice none 0 0)).setCell { block := n0, off := 6 } (.int .i64 0)).setCell { block := n0, off := 7 } (.int .i64 0)).setCell { block := n1, off := 0 } (.int .i64 e)).setCell { block := n1, off := 1 } (.int .i64 a)).drew) := by
    refine hR _ ?_ ?_ ?_
    . intro i v hi
      rcases i with _ | _ | _ | _ | _ | _ | _ | _ | i
      case succ.succ.succ.succ.succ.succ.succ.succ => simp at hi
      all_goals (simp only [List.getElem?_cons_zero, List.getElem?_cons_succ, Option.some.injEq] at hi; subst hi; constructor <;> simp [go_sem, *])
    . intro i v hi
      rcases i with _ | _ | i
      case succ.succ => simp at hi
      all_goals (simp only [List.getElem?_cons_zero, List.getElem?_cons_succ, Option.some.injEq] at hi; subst hi; constructor <;> simp [go_sem, *])
    . intro w0 S0 S hw hl0 hl1 hS0 hS1
      exact (((((((((((hw.alloc _ _).setCell hl0 hS0).setCell hl0 hS0).setCell hl0 hS0).setCell hl0 hS0).setCell hl0 hS0).setCell hl0 hS0).setCell hl0 hS0).setCell hl0 hS0).setCell hl1 hS1).setCell hl1 hS1).drew
  change bodyPostS Go.Proofs.Tryd.prog Go.Proofs.Tryd.f39 c₀ cs _ _ _ _ _
  clear hR h0 h1 c00 z00 c01 z01 c02 z02 c03 z03 c04 z04 c05 z05 c06 z06 c07 z07 c10 z10 c11 z11
  cases c₀
  simp_all [bodyPostS, results, Go.Proofs.Tryd.results39]


theorem z14j {w : World} {s : List UInt8} {S : Hp} (hS : Lift.Sub S (hp w)) (hlen : (256 : Int) < s.length) :
    Calls Go.Proofs.Tryd.prog 23 #[.string ⟨⟨s⟩⟩] w fun r w' => r = .returned (.tuple #[.agg #[Value.int IntKind.i64 0, Value.int IntKind.u64 0, Value.int IntKind.u64 0, Value.int IntKind.u64 0, Value.int IntKind.u64 0, Value.slice none 0 0, Value.int IntKind.i64 0, Value.int IntKind.i64 0], .agg #[.int .i64 3, .int .i64 256]]) /\ PsW w S S w' := by
  have h0 : PsW w S S w := ⟨WF.refl _ _, Lift.Sub.refl _, hS, fun k hk => .inl hk⟩
  have hn0 : S w.heap.size = none := by
    cases hx : S w.heap.size with
    | none => rfl
    | some o => exact absurd (z8j (hS _ _ hx)) (Nat.lt_irrefl _)
  have hn1 : S (w.heap.size + 1) = none := by
    cases hx : S (w.heap.size + 1) with
    | none => rfl
    | some o => exact absurd (z8j (hS _ _ hx)) (by omega)
  go_enter Go.Proofs.Tryd.func23, Go.Proofs.Tryd.ntmps23
  go_wp2
  simp [bodyPost, results, Go.Proofs.Tryd.results23, go_sem]
  exact (h0.alloc _ _).alloc _ _

set_option maxHeartbeats 16000000 in
theorem ps_ok {w : World} {s : List UInt8} {S : Hp} {at_ : Int} {F : Hp -> Value -> Prop} (hlen : ¬ (256 : Int) < s.length)
    (hc : Calls Go.Proofs.Tryd.prog 40 #[.pointer (some ⟨w.heap.size + 1 + 1, 0, none⟩)] (((w.alloc (Obj.cells #[Value.int IntKind.i64 0, Value.int IntKind.u64 0, Value.int IntKind.u64 0, Value.int IntKind.u64 0, Value.int IntKind.u64 0, Value.slice none 0 0, Value.int IntKind.i64 0, Value.int IntKind.i64 0] 27)).alloc (Obj.cells #[Value.int IntKind.i64 0, Value.int IntKind.i64 0] 46)).alloc (Obj.cells #[Value.string ⟨⟨s⟩⟩, Value.int IntKind.i64 0, Value.int IntKind.i64 0] 74)) fun r w2 => ∃ (k a0 a1 a2 a3 lo hi : Int) (sp : Option Addr) (sn sc : Nat) (S' : Hp), r = .returned (.agg #[.int .i64 k, .int .u64 a0, .int .u64 a1, .int .u64 a2, .int .u64 a3, .slice sp sn sc, .int .i64 lo, .int .i64 hi]) /\ Cl w2 (w.heap.size) [.int .i64 0, .int .u64 0, .int .u64 0, .int .u64 0, .int .u64 0, .slice none 0 0, .int .i64 0, .int .i64 0] /\ Cl w2 (w.heap.size + 1) [.int .i64 0, .int .i64 0] /\ w2.cell? ⟨w.heap.size + 1 + 1, 1, none⟩ = some (.int .i64 at_) /\ S' (w.heap.size) = none /\ S' (w.heap.size + 1) = none /\ PsW w S S' w2 /\ F S' (.agg #[.int .i64 k, .int .u64 a0, .int .u64 a1, .int .u64 a2, .int .u64 a3, .slice sp sn sc, .int .i64 lo, .int .i64 hi]))
    (hat : ¬ at_ < s.length) :
    Calls Go.Proofs.Tryd.prog 23 #[.string ⟨⟨s⟩⟩] w fun r w' => ∃ v S', r = .returned (.tuple #[v, .agg #[.int .i64 0, .int .i64 0]]) /\ F S' v /\ PsW w S S' w' := by
  have hmf : ∀ (fn : Fn) (first cap : Array Value) (w : World), (Instr.makeFunc fn first cap).run Go.Proofs.Tryd.prog w = .ok (.func fn first cap) w := fun _ _ _ _ => rfl
  have p1 : w.heap.size + 1 + 1 ≠ w.heap.size := by omega
  have p2 : w.heap.size + 1 ≠ w.heap.size := by omega
  go_enter_defers Go.Proofs.Tryd.func23, Go.Proofs.Tryd.ntmps23
  go_wp2_with (first
    | (go_at_call 40; refine hc.mono ?_; rintro r w2 ⟨k, a0, a1, a2, a3, lo, hi, sp, sn, sc, S', rfl, hC0, hC1, hat2, hs0, hs1, hP, hFF⟩; have c00 := (hC0 0 _ rfl).1; have z00 := (hC0 0 _ rfl).2; have c01 := (hC0 1 _ rfl).1; have z01 := (hC0 1 _ rfl).2; have c02 := (hC0 2 _ rfl).1; have z02 := (hC0 2 _ rfl).2; have c03 := (hC0 3 _ rfl).1; have z03 := (hC0 3 _ rfl).2; have c04 := (hC0 4 _ rfl).1; have z04 := (hC0 4 _ rfl).2; have c05 := (hC0 5 _ rfl).1; have z05 := (hC0 5 _ rfl).2; have c06 := (hC0 6 _ rfl).1; have z06 := (hC0 6 _ rfl).2; have c07 := (hC0 7 _ rfl).1; have z07 := (hC0 7 _ rfl).2; have c10 := (hC1 0 _ rfl).1; have z10 := (hC1 0 _ rfl).2; have c11 := (hC1 1 _ rfl).1; have z11 := (hC1 1 _ rfl).2; have hl0 : w.heap.size < w2.heap.size := zsx hC0; have hl1 : w.heap.size + 1 < w2.heap.size := zsx hC1; have H0 := Go.Lib.hid hC0; have H1 := Go.Lib.hid hC1; have HP := Go.Lib.hid hP; have HF := Go.Lib.hid hFF; clear hc hC0 hC1 hP hFF))
  have k0 : Cl (((((((((((((((((((w2).setCell { block := w.heap.size, off := 0 } (Value.int IntKind.i64 k)).setCell { block := w.heap.size, off := 1 } (Value.int IntKind.u64 a0)).setCell { block := w.heap.size, off := 2 } (Value.int IntKind.u64 a1)).setCell { block := w.heap.size, off := 3 } (Value.int IntKind.u64 a2)).setCell { block := w.heap.size, off := 4 } (Value.int IntKind.u64 a3)).setCell { block := w.heap.size, off := 5 } (Value.slice sp sn sc)).setCell { block := w.heap.size, off := 6 } (Value.int IntKind.i64 lo)).setCell { block := w.heap.size, off := 7 } (Value.int IntKind.i64 hi)).setCell { block := w.heap.size, off := 0 } (Value.int IntKind.i64 k)).setCell { block := w.heap.size, off := 1 } (Value.int IntKind.u64 a0)).setCell { block := w.heap.size, off := 2 } (Value.int IntKind.u64 a1)).setCell { block := w.heap.size, off := 3 } (Value.int IntKind.u64 a2)).setCell { block := w.heap.size, off := 4 } (Value.int IntKind.u64 a3)).setCell { block := w.heap.size, off := 5 } (Value.slice sp sn sc)).setCell { block := w.heap.size, off := 6 } (Value.int IntKind.i64 lo)).setCell { block := w.heap.size, off := 7 } (Value.int IntKind.i64 hi)).setCell { block := w.heap.size + 1, off := 0 } (Value.int IntKind.i64 0)).setCell { block := w.heap.size + 1, off := 1 } (Value.int IntKind.i64 0)) (w.heap.size) [.int .i64 k, .int .u64 a0, .int .u64 a1, .int .u64 a2, .int .u64 a3, .slice sp sn sc, .int .i64 lo, .int .i64 hi] := (z1u (z1u (z5i (z5i (z5i (z5i (z5i (z5i (z5i (z5i (z5i (z5i (z5i (z5i (z5i (z5i (z5i (z5i H0.out 0 _) 1 _) 2 _) 3 _) 4 _) 5 _) 6 _) 7 _) 0 _) 1 _) 2 _) 3 _) 4 _) 5 _) 6 _) 7 _) p2 0 _) p2 1 _)
  have k1 : Cl (((((((((((((((((((w2).setCell { block := w.heap.size, off := 0 } (Value.int IntKind.i64 k)).setCell { block := w.heap.size, off := 1 } (Value.int IntKind.u64 a0)).setCell { block := w.heap.size, off := 2 } (Value.int IntKind.u64 a1)).setCell { block := w.heap.size, off := 3 } (Value.int IntKind.u64 a2)).setCell { block := w.heap.size, off := 4 } (Value.int IntKind.u64 a3)).setCell { block := w.heap.size, off := 5 } (Value.slice sp sn sc)).setCell { block := w.heap.size, off := 6 } (Value.int IntKind.i64 lo)).setCell { block := w.heap.size, off := 7 } (Value.int IntKind.i64 hi)).setCell { block := w.heap.size, off := 0 } (Value.int IntKind.i64 k)).setCell { block := w.heap.size, off := 1 } (Value.int IntKind.u64 a0)).setCell { block := w.heap.size, off := 2 } (Value.int IntKind.u64 a1)).setCell { block := w.heap.size, off := 3 } (Value.int IntKind.u64 a2)).setCell { block := w.heap.size, off := 4 } (Value.int IntKind.u64 a3)).setCell { block := w.heap.size, off := 5 } (Value.slice sp sn sc)).setCell { block := w.heap.size, off := 6 } (Value.int IntKind.i64 lo)).setCell { block := w.heap.size, off := 7 } (Value.int IntKind.i64 hi)).setCell { block := w.heap.size + 1, off := 0 } (Value.int IntKind.i64 0)).setCell { block := w.heap.size + 1, off := 1 } (Value.int IntKind.i64 0)) (w.heap.size + 1) [.int .i64 0, .int .i64 0] := (z5i (z5i (z1u (z1u (z1u (z1u (z1u (z1u (z1u (z1u (z1u (z1u (z1u (z1u (z1u (z1u (z1u (z1u H1.out p2.symm 0 _) p2.symm 1 _) p2.symm 2 _) p2.symm 3 _) p2.symm 4 _) p2.symm 5 _) p2.symm 6 _) p2.symm 7 _) p2.symm 0 _) p2.symm 1 _) p2.symm 2 _) p2.symm 3 _) p2.symm 4 _) p2.symm 5 _) p2.symm 6 _) p2.symm 7 _) 0 _) 1 _)
  have k2 : PsW w S S' (((((((((((((((((((w2).setCell { block := w.heap.size, off := 0 } (Value.int IntKind.i64 k)).setCell { block := w.heap.size, off := 1 } (Value.int IntKind.u64 a0)).setCell { block := w.heap.size, off := 2 } (Value.int IntKind.u64 a1)).setCell { block := w.heap.size, off := 3 } (Value.int IntKind.u64 a2)).setCell { block := w.heap.size, off := 4 } (Value.int IntKind.u64 a3)).setCell { block := w.heap.size, off := 5 } (Value.slice sp sn sc)).setCell { block := w.heap.size, off := 6 } (Value.int IntKind.i64 lo)).setCell { block := w.heap.size, off := 7 } (Value.int IntKind.i64 hi)).setCell { block := w.heap.size, off := 0 } (Value.int IntKind.i64 k)).setCell { block := w.heap.size, off := 1 } (Value.int IntKind.u64 a0)).setCell { block := w.heap.size, off := 2 } (Value.int IntKind.u64 a1)).setCell { block := w.heap.size, off := 3 } (Value.int IntKind.u64 a2)).setCell { block := w.heap.size, off := 4 } (Value.int IntKind.u64 a3)).setCell { block := w.heap.size, off := 5 } (Value.slice sp sn sc)).setCell { block := w.heap.size, off := 6 } (Value.int IntKind.i64 lo)).setCell { block := w.heap.size, off := 7 } (Value.int IntKind.i64 hi)).setCell { block := w.heap.size + 1, off := 0 } (Value.int IntKind.i64 0)).setCell { block := w.heap.size + 1, off := 1 } (Value.int IntKind.i64 0)) := by
    have HQ := HP.out
    have hn0 : w.heap.size <= w.heap.size := Nat.le_refl _
    have hn1 : w.heap.size <= w.heap.size + 1 := by omega
    exact ((((((((((((((((((HQ.setCell hn0 hs0).setCell hn0 hs0).setCell hn0 hs0).setCell hn0 hs0).setCell hn0 hs0).setCell hn0 hs0).setCell hn0 hs0).setCell hn0 hs0).setCell hn0 hs0).setCell hn0 hs0).setCell hn0 hs0).setCell hn0 hs0).setCell hn0 hs0).setCell hn0 hs0).setCell hn0 hs0).setCell hn0 hs0).setCell hn1 hs1).setCell hn1 hs1)
  clear c00 z00 c01 z01 c02 z02 c03 z03 c04 z04 c05 z05 c06 z06 c07 z07 c10 z10 c11 z11
  generalize (((((((((((((((((((w2).setCell { block := w.heap.size, off := 0 } (Value.int IntKind.i64 k)).setCell { block := w.heap.size, off := 1 } (Value.int IntKind.u64 a0)).setCell { block := w.heap.size, off := 2 } (Value.int IntKind.u64 a1)).setCell { block := w.heap.size, off := 3 } (Value.int IntKind.u64 a2)).setCell { block := w.heap.size, off := 4 } (Value.int IntKind.u64 a3)).setCell { block := w.heap.size, off := 5 } (Value.slice sp sn sc)).setCell { block := w.heap.size, off := 6 } (Value.int IntKind.i64 lo)).setCell { block := w.heap.size, off := 7 } (Value.int IntKind.i64 hi)).setCell { block := w.heap.size, off := 0 } (Value.int IntKind.i64 k)).setCell { block := w.heap.size, off := 1 } (Value.int IntKind.u64 a0)).setCell { block := w.heap.size, off := 2 } (Value.int IntKind.u64 a1)).setCell { block := w.heap.size, off := 3 } (Value.int IntKind.u64 a2)).setCell { block := w.heap.size, off := 4 } (Value.int IntKind.u64 a3)).setCell { block := w.heap.size, off := 5 } (Value.slice sp sn sc)).setCell { block := w.heap.size, off := 6 } (Value.int IntKind.i64 lo)).setCell { block := w.heap.size, off := 7 } (Value.int IntKind.i64 hi)).setCell { block := w.heap.size + 1, off := 0 } (Value.int IntKind.i64 0)).setCell { block := w.heap.size + 1, off := 1 } (Value.int IntKind.i64 0)) = W3 at *
  refine leaves_cons (f := 39) (args := #[.pointer (some ⟨w.heap.size, 0, none⟩), .pointer (some ⟨w.heap.size + 1, 0, none⟩)]) (by simp) (by simp [go_sem]) ?_
  refine ps_idle.mono ?_
  rintro r u w5 ⟨⟨v, rfl⟩, rfl, rfl⟩
  have m0 := zhx k0 (Obj.cells #[Value.int IntKind.i64 0, Value.int IntKind.i64 0] 46)
  have m1 := zhx k1 (Obj.cells #[Value.int IntKind.i64 0, Value.int IntKind.i64 0] 46)
  have e00 := (m0 0 _ rfl).1; have e01 := (m0 1 _ rfl).1; have e02 := (m0 2 _ rfl).1; have e03 := (m0 3 _ rfl).1; have e04 := (m0 4 _ rfl).1; have e05 := (m0 5 _ rfl).1; have e06 := (m0 6 _ rfl).1; have e07 := (m0 7 _ rfl).1; have e10 := (m1 0 _ rfl).1; have e11 := (m1 1 _ rfl).1
  refine ⟨_, ?_, _, S', rfl, HF.out, k2.alloc _ _⟩
  clear k0 k1 k2 m0 m1 hmf
  simp [results, Go.Proofs.Tryd.results23, go_sem, e00, e01, e02, e03, e04, e05, e06, e07, e10, e11]

set_option maxHeartbeats 16000000 in
theorem z194 {w : World} {s : List UInt8} {S : Hp} {e a : Int} (hlen : ¬ (256 : Int) < s.length) (hs0 : S (w.heap.size) = none) (hs1 : S (w.heap.size + 1) = none)
    (hc : Calls Go.Proofs.Tryd.prog 40 #[.pointer (some ⟨w.heap.size + 1 + 1, 0, none⟩)] (((w.alloc (Obj.cells #[Value.int IntKind.i64 0, Value.int IntKind.u64 0, Value.int IntKind.u64 0, Value.int IntKind.u64 0, Value.int IntKind.u64 0, Value.slice none 0 0, Value.int IntKind.i64 0, Value.int IntKind.i64 0] 27)).alloc (Obj.cells #[Value.int IntKind.i64 0, Value.int IntKind.i64 0] 46)).alloc (Obj.cells #[Value.string ⟨⟨s⟩⟩, Value.int IntKind.i64 0, Value.int IntKind.i64 0] 74)) fun r w2 => r = .panicked [{ v := .iface 46 (.agg #[.int .i64 e, .int .i64 a]), recovered := false }] /\ Cl w2 (w.heap.size) [.int .i64 0, .int .u64 0, .int .u64 0, .int .u64 0, .int .u64 0, .slice none 0 0, .int .i64 0, .int .i64 0] /\ Cl w2 (w.heap.size + 1) [.int .i64 0, .int .i64 0] /\ PsW w S S w2) :
    Calls Go.Proofs.Tryd.prog 23 #[.string ⟨⟨s⟩⟩] w fun r w' => r = .returned (.tuple #[.agg #[Value.int IntKind.i64 0, Value.int IntKind.u64 0, Value.int IntKind.u64 0, Value.int IntKind.u64 0, Value.int IntKind.u64 0, Value.slice none 0 0, Value.int IntKind.i64 0, Value.int IntKind.i64 0], .agg #[.int .i64 e, .int .i64 a]]) /\ PsW w S S w' := by
  have hmf : ∀ (fn : Fn) (first cap : Array Value) (w : World), (Instr.makeFunc fn first cap).run Go.Proofs.Tryd.prog w = .ok (.func fn first cap) w := fun _ _ _ _ => rfl
  have p1 : w.heap.size + 1 + 1 ≠ w.heap.size := by omega
  have p2 : w.heap.size + 1 ≠ w.heap.size := by omega
  go_enter_defers Go.Proofs.Tryd.func23, Go.Proofs.Tryd.ntmps23
  go_wp2_with (first
    | (go_at_call 40; refine hc.mono ?_; rintro r w2 ⟨rfl, hC0, hC1, hP⟩; have H0 := Go.Lib.hid hC0; have H1 := Go.Lib.hid hC1; have HP := Go.Lib.hid hP; clear hc hC0 hC1 hP))
  refine leaves_cons (f := 39) (args := #[.pointer (some ⟨w.heap.size, 0, none⟩), .pointer (some ⟨w.heap.size + 1, 0, none⟩)]) (by simp) (by simp [go_sem]) ?_
  refine (zrx (R := fun w' => Cl w' (w.heap.size) [.int .i64 0, .int .u64 0, .int .u64 0, .int .u64 0, .int .u64 0, .slice none 0 0, .int .i64 0, .int .i64 0] /\ Cl w' (w.heap.size + 1) [.int .i64 e, .int .i64 a] /\ PsW w S S w') (zhx H0.out _) (zhx H1.out _) p2.symm (Nat.ne_of_lt (zsx H0.out)) (Nat.ne_of_lt (zsx H1.out)) (fun w' g0 g1 g2 => ⟨g0, g1, g2 w S S HP.out (Nat.le_refl _) (Nat.le_succ _) hs0 hs1⟩)).mono ?_
  rintro r u w5 ⟨⟨v, rfl⟩, rfl, m0, m1, hP5⟩
  have e00 := (m0 0 _ rfl).1; have e01 := (m0 1 _ rfl).1; have e02 := (m0 2 _ rfl).1; have e03 := (m0 3 _ rfl).1; have e04 := (m0 4 _ rfl).1; have e05 := (m0 5 _ rfl).1; have e06 := (m0 6 _ rfl).1; have e07 := (m0 7 _ rfl).1; have e10 := (m1 0 _ rfl).1; have e11 := (m1 1 _ rfl).1
  clear m0 m1 hmf H0 H1
  simp [Leaves, settle, results, Go.Proofs.Tryd.results23, go_sem, e00, e01, e02, e03, e04, e05, e06, e07, e10, e11]
  exact hP5

set_option maxHeartbeats 16000000 in
theorem z195 {w : World} {s : List UInt8} {S : Hp} {at_ : Int} (hlen : ¬ (256 : Int) < s.length)
    (hc : Calls Go.Proofs.Tryd.prog 40 #[.pointer (some ⟨w.heap.size + 1 + 1, 0, none⟩)] (((w.alloc (Obj.cells #[Value.int IntKind.i64 0, Value.int IntKind.u64 0, Value.int IntKind.u64 0, Value.int IntKind.u64 0, Value.int IntKind.u64 0, Value.slice none 0 0, Value.int IntKind.i64 0, Value.int IntKind.i64 0] 27)).alloc (Obj.cells #[Value.int IntKind.i64 0, Value.int IntKind.i64 0] 46)).alloc (Obj.cells #[Value.string ⟨⟨s⟩⟩, Value.int IntKind.i64 0, Value.int IntKind.i64 0] 74)) fun r w2 => ∃ (k a0 a1 a2 a3 lo hi : Int) (sp : Option Addr) (sn sc : Nat) (S' : Hp), r = .returned (.agg #[.int .i64 k, .int .u64 a0, .int .u64 a1, .int .u64 a2, .int .u64 a3, .slice sp sn sc, .int .i64 lo, .int .i64 hi]) /\ Cl w2 (w.heap.size) [.int .i64 0, .int .u64 0, .int .u64 0, .int .u64 0, .int .u64 0, .slice none 0 0, .int .i64 0, .int .i64 0] /\ Cl w2 (w.heap.size + 1) [.int .i64 0, .int .i64 0] /\ w2.cell? ⟨w.heap.size + 1 + 1, 1, none⟩ = some (.int .i64 at_) /\ S' (w.heap.size) = none /\ S' (w.heap.size + 1) = none /\ PsW w S S' w2)
    (hat : at_ < s.length) :
    Calls Go.Proofs.Tryd.prog 23 #[.string ⟨⟨s⟩⟩] w fun r w' => r = .returned (.tuple #[.agg #[Value.int IntKind.i64 0, Value.int IntKind.u64 0, Value.int IntKind.u64 0, Value.int IntKind.u64 0, Value.int IntKind.u64 0, Value.slice none 0 0, Value.int IntKind.i64 0, Value.int IntKind.i64 0], .agg #[.int .i64 2, .int .i64 at_]]) /\ ∃ S', PsW w S S' w' := by
  have hmf : ∀ (fn : Fn) (first cap : Array Value) (w : World), (Instr.makeFunc fn first cap).run Go.Proofs.Tryd.prog w = .ok (.func fn first cap) w := fun _ _ _ _ => rfl
  have p1 : w.heap.size + 1 + 1 ≠ w.heap.size := by omega
  have p2 : w.heap.size + 1 ≠ w.heap.size := by omega
  go_enter_defers Go.Proofs.Tryd.func23, Go.Proofs.Tryd.ntmps23
  go_wp2_with (first
    | (go_at_call 40; refine hc.mono ?_; rintro r w2 ⟨k, a0, a1, a2, a3, lo, hi, sp, sn, sc, S', rfl, hC0, hC1, hat2, hs0, hs1, hP⟩; have c00 := (hC0 0 _ rfl).1; have z00 := (hC0 0 _ rfl).2; have c01 := (hC0 1 _ rfl).1; have z01 := (hC0 1 _ rfl).2; have c02 := (hC0 2 _ rfl).1; have z02 := (hC0 2 _ rfl).2; have c03 := (hC0 3 _ rfl).1; have z03 := (hC0 3 _ rfl).2; have c04 := (hC0 4 _ rfl).1; have z04 := (hC0 4 _ rfl).2; have c05 := (hC0 5 _ rfl).1; have z05 := (hC0 5 _ rfl).2; have c06 := (hC0 6 _ rfl).1; have z06 := (hC0 6 _ rfl).2; have c07 := (hC0 7 _ rfl).1; have z07 := (hC0 7 _ rfl).2; have c10 := (hC1 0 _ rfl).1; have z10 := (hC1 0 _ rfl).2; have c11 := (hC1 1 _ rfl).1; have z11 := (hC1 1 _ rfl).2; have hl0 : w.heap.size < w2.heap.size := zsx hC0; have hl1 : w.heap.size + 1 < w2.heap.size := zsx hC1; have H0 := Go.Lib.hid hC0; have H1 := Go.Lib.hid hC1; have HP := Go.Lib.hid hP; clear hc hC0 hC1 hP)
    | (go_at_call 41; refine fail_walk.mono ?_; rintro r w3 ⟨rfl, rfl⟩))
  have k0 : Cl (((((((((w2).setCell { block := w.heap.size, off := 0 } (Value.int IntKind.i64 k)).setCell { block := w.heap.size, off := 1 } (Value.int IntKind.u64 a0)).setCell { block := w.heap.size, off := 2 } (Value.int IntKind.u64 a1)).setCell { block := w.heap.size, off := 3 } (Value.int IntKind.u64 a2)).setCell { block := w.heap.size, off := 4 } (Value.int IntKind.u64 a3)).setCell { block := w.heap.size, off := 5 } (Value.slice sp sn sc)).setCell { block := w.heap.size, off := 6 } (Value.int IntKind.i64 lo)).setCell { block := w.heap.size, off := 7 } (Value.int IntKind.i64 hi)) (w.heap.size) [.int .i64 k, .int .u64 a0, .int .u64 a1, .int .u64 a2, .int .u64 a3, .slice sp sn sc, .int .i64 lo, .int .i64 hi] := (z5i (z5i (z5i (z5i (z5i (z5i (z5i (z5i H0.out 0 _) 1 _) 2 _) 3 _) 4 _) 5 _) 6 _) 7 _)
  have k1 : Cl (((((((((w2).setCell { block := w.heap.size, off := 0 } (Value.int IntKind.i64 k)).setCell { block := w.heap.size, off := 1 } (Value.int IntKind.u64 a0)).setCell { block := w.heap.size, off := 2 } (Value.int IntKind.u64 a1)).setCell { block := w.heap.size, off := 3 } (Value.int IntKind.u64 a2)).setCell { block := w.heap.size, off := 4 } (Value.int IntKind.u64 a3)).setCell { block := w.heap.size, off := 5 } (Value.slice sp sn sc)).setCell { block := w.heap.size, off := 6 } (Value.int IntKind.i64 lo)).setCell { block := w.heap.size, off := 7 } (Value.int IntKind.i64 hi)) (w.heap.size + 1) [.int .i64 0, .int .i64 0] := (z1u (z1u (z1u (z1u (z1u (z1u (z1u (z1u H1.out p2.symm 0 _) p2.symm 1 _) p2.symm 2 _) p2.symm 3 _) p2.symm 4 _) p2.symm 5 _) p2.symm 6 _) p2.symm 7 _)
  have k2 : PsW w S S' (((((((((w2).setCell { block := w.heap.size, off := 0 } (Value.int IntKind.i64 k)).setCell { block := w.heap.size, off := 1 } (Value.int IntKind.u64 a0)).setCell { block := w.heap.size, off := 2 } (Value.int IntKind.u64 a1)).setCell { block := w.heap.size, off := 3 } (Value.int IntKind.u64 a2)).setCell { block := w.heap.size, off := 4 } (Value.int IntKind.u64 a3)).setCell { block := w.heap.size, off := 5 } (Value.slice sp sn sc)).setCell { block := w.heap.size, off := 6 } (Value.int IntKind.i64 lo)).setCell { block := w.heap.size, off := 7 } (Value.int IntKind.i64 hi)) := ((((((((HP.out.setCell (Nat.le_refl _) hs0).setCell (Nat.le_refl _) hs0).setCell (Nat.le_refl _) hs0).setCell (Nat.le_refl _) hs0).setCell (Nat.le_refl _) hs0).setCell (Nat.le_refl _) hs0).setCell (Nat.le_refl _) hs0).setCell (Nat.le_refl _) hs0)
  clear c00 z00 c01 z01 c02 z02 c03 z03 c04 z04 c05 z05 c06 z06 c07 z07 c10 z10 c11 z11
  generalize (((((((((w2).setCell { block := w.heap.size, off := 0 } (Value.int IntKind.i64 k)).setCell { block := w.heap.size, off := 1 } (Value.int IntKind.u64 a0)).setCell { block := w.heap.size, off := 2 } (Value.int IntKind.u64 a1)).setCell { block := w.heap.size, off := 3 } (Value.int IntKind.u64 a2)).setCell { block := w.heap.size, off := 4 } (Value.int IntKind.u64 a3)).setCell { block := w.heap.size, off := 5 } (Value.slice sp sn sc)).setCell { block := w.heap.size, off := 6 } (Value.int IntKind.i64 lo)).setCell { block := w.heap.size, off := 7 } (Value.int IntKind.i64 hi)) = W3 at *
  refine leaves_cons (f := 39) (args := #[.pointer (some ⟨w.heap.size, 0, none⟩), .pointer (some ⟨w.heap.size + 1, 0, none⟩)]) (by simp) (by simp [go_sem]) ?_
  refine (zrx (R := fun w' => Cl w' (w.heap.size) [.int .i64 0, .int .u64 0, .int .u64 0, .int .u64 0, .int .u64 0, .slice none 0 0, .int .i64 0, .int .i64 0] /\ Cl w' (w.heap.size + 1) [.int .i64 2, .int .i64 at_] /\ PsW w S S' w') (zhx k0 _) (zhx k1 _) p2.symm (Nat.ne_of_lt (zsx k0)) (Nat.ne_of_lt (zsx k1)) (fun w' g0 g1 g2 => ⟨g0, g1, g2 w S S' k2 (Nat.le_refl _) (Nat.le_succ _) hs0 hs1⟩)).mono ?_
  rintro r u w5 ⟨⟨v, rfl⟩, rfl, m0, m1, hP5⟩
  have e00 := (m0 0 _ rfl).1; have e01 := (m0 1 _ rfl).1; have e02 := (m0 2 _ rfl).1; have e03 := (m0 3 _ rfl).1; have e04 := (m0 4 _ rfl).1; have e05 := (m0 5 _ rfl).1; have e06 := (m0 6 _ rfl).1; have e07 := (m0 7 _ rfl).1; have e10 := (m1 0 _ rfl).1; have e11 := (m1 1 _ rfl).1
  clear m0 m1 hmf k0 k1 H0 H1
  simp [Leaves, settle, results, Go.Proofs.Tryd.results23, go_sem, e00, e01, e02, e03, e04, e05, e06, e07, e10, e11]
  exact ⟨S', hP5⟩

theorem zw2 {S : Hp} {y : NodT.den} {v : Value} (h : VR S NodT y v) : ∃ (k a0 a1 a2 a3 lo hi : Int) (sp : Option Addr) (sn sc : Nat), v = .agg #[.int .i64 k, .int .u64 a0, .int .u64 a1, .int .u64 a2, .int .u64 a3, .slice sp sn sc, .int .i64 lo, .int .i64 hi] := by
  unfold VR at h
  simp only [T.isAgg, if_true] at h
  obtain ⟨cs, e, h⟩ := h
  obtain ⟨c1, d1, e1, h1, c2, d2, e2, h2, c3, d3, e3, h3, c4, d4, e4, h4, c5, d5, e5, h5, h6⟩ := h
  have h1 : c1 = [.int .i64 y.1] := h1
  have h4 : c4 = [.int .i64 y.2.2.2.1] := h4
  have h5 : c5 = [.int .i64 y.2.2.2.2.1] := h5
  have h6 : d5 = [] := h6
  obtain ⟨hl, ha⟩ := h2
  obtain ⟨sp, sc, h3, _⟩ := h3
  obtain ⟨k, arr, sl, lo, hi, u⟩ := y
  match arr, hl with
  | [a0, a1, a2, a3], _ =>
    obtain ⟨q0, r0, f0, g0, q1, r1, f1, g1, q2, r2, f2, g2, q3, r3, f3, g3, g4⟩ := ha
    have g0 : q0 = [.int .u64 a0] := g0
    have g1 : q1 = [.int .u64 a1] := g1
    have g2 : q2 = [.int .u64 a2] := g2
    have g3 : q3 = [.int .u64 a3] := g3
    have g4 : r3 = [] := g4
    refine ⟨k, a0, a1, a2, a3, lo, hi, sp, List.length sl, sc, ?_⟩
    rw [e]
    congr 1
    apply Array.toList_inj.1
    rw [e1, h1, e2, f0, g0, f1, g1, f2, g2, f3, g3, g4, e3, h3, e4, h4, e5, h5, h6]
    rfl

abbrev z13l : T := .pair (.int .i64) (.pair (.int .i64) .unit)

def z1cl : NodT.den := ((0 : Int), (([(0 : Int), 0, 0, 0] : List Int), (([] : List Go.Lift.Tree), ((0 : Int), ((0 : Int), ())))))

theorem zt8 (S : Hp) : VR S NodT z1cl (.agg #[Value.int IntKind.i64 0, Value.int IntKind.u64 0, Value.int IntKind.u64 0, Value.int IntKind.u64 0, Value.int IntKind.u64 0, Value.slice none 0 0, Value.int IntKind.i64 0, Value.int IntKind.i64 0]) := (z13n (t := NodT) (x := z1cl) rfl).mono (zcd _)

theorem zvc (S : Hp) (e a : Int) : VR S z13l (e, a, ()) (.agg #[.int .i64 e, .int .i64 a]) := (z13n (t := z13l) (x := (e, a, ())) rfl).mono (zcd _)

def zfh (N : Nat) (s : List UInt8) : Option (z4o [NodT, z13l]) :=
 cond (decide ((256 : Int) < s.length))
 (some (z1cl, ((3, 256, ()), ())))
 (orP (z1p N (s, (0, (0, ())))) (fun z => some (z1cl, (z, ())))
 ((zl N (s, (0, (0, ())))).bind fun y =>
 cond (decide (y.2.1.2.1 < (s.length : Int)))
 (some (z1cl, ((2, y.2.1.2.1, ()), ())))
 (some (y.1, ((0, 0, ()), ())))))

def zh0 (N : Nat) : List A -> Res := zu [(0, .v .str)] (fun x => zfh N x.1) (z75 (.tup [NodT, z13l]) 1)

theorem z1jq {w : World} {n : Nat} {cs : Array Value} {E : Nat} (h : w.heap[n]? = some (.cells cs E (0, 0))) : Cl w n cs.toList := by
  intro i v hi
  have hi' : cs[i]? = some v := by rw [<- Array.getElem?_toList]; exact hi
  constructor
  . simp [World.cell?, h, hi']
  . simp [World.frozen?, h]

def psW (w : World) (s : List UInt8) : World := ((w.alloc (Obj.cells #[Value.int IntKind.i64 0, Value.int IntKind.u64 0, Value.int IntKind.u64 0, Value.int IntKind.u64 0, Value.int IntKind.u64 0, Value.slice none 0 0, Value.int IntKind.i64 0, Value.int IntKind.i64 0] 27)).alloc (Obj.cells #[Value.int IntKind.i64 0, Value.int IntKind.i64 0] 46)).alloc (Obj.cells #[Value.string ⟨⟨s⟩⟩, Value.int IntKind.i64 0, Value.int IntKind.i64 0] 74)

theorem zry (w : World) (s : List UInt8) : (psW w s).heap.size = w.heap.size + 3 /\ (psW w s).heap[w.heap.size]? = some (.cells #[Value.int IntKind.i64 0, Value.int IntKind.u64 0, Value.int IntKind.u64 0, Value.int IntKind.u64 0, Value.int IntKind.u64 0, Value.slice none 0 0, Value.int IntKind.i64 0, Value.int IntKind.i64 0] 27 (0, 0)) /\ (psW w s).heap[w.heap.size + 1]? = some (.cells #[Value.int IntKind.i64 0, Value.int IntKind.i64 0] 46 (0, 0)) ∧
    (psW w s).heap[w.heap.size + 1 + 1]? = some (.cells #[Value.string ⟨⟨s⟩⟩, Value.int IntKind.i64 0, Value.int IntKind.i64 0] 74 (0, 0)) /\ (∀ k, k < w.heap.size -> (psW w s).heap[k]? = w.heap[k]?) ∧
    (psW w s).tape = w.tape /\ (psW w s).os = w.os /\ (psW w s).output = w.output := by
  have hh : (psW w s).heap = ((w.heap.push (.cells #[Value.int IntKind.i64 0, Value.int IntKind.u64 0, Value.int IntKind.u64 0, Value.int IntKind.u64 0, Value.int IntKind.u64 0, Value.slice none 0 0, Value.int IntKind.i64 0, Value.int IntKind.i64 0] 27 (0, 0))).push (.cells #[Value.int IntKind.i64 0, Value.int IntKind.i64 0] 46 (0, 0))).push (.cells #[Value.string ⟨⟨s⟩⟩, Value.int IntKind.i64 0, Value.int IntKind.i64 0] 74 (0, 0)) := rfl
  refine ⟨by rw [hh]; simp, ?_, ?_, ?_, fun k hk => ?_, rfl, rfl, rfl⟩
  . rw [hh, Array.getElem?_push, if_neg (by simp; omega), Array.getElem?_push, if_neg (by simp), Array.getElem?_push, if_pos rfl]
  . rw [hh, Array.getElem?_push, if_neg (by simp), Array.getElem?_push, if_pos (by simp)]
  . rw [hh, Array.getElem?_push, if_pos (by simp)]
  . rw [hh, Array.getElem?_push, if_neg (by simp; omega), Array.getElem?_push, if_neg (by simp; omega), Array.getElem?_push, if_neg (by omega)]

theorem z14k {w : World} {s : List UInt8} {S : Hp} (hS : Lift.Sub S (hp w)) : ArgsRel (hp (psW w s)) S [.box PrsT (s, (0, (0, ())))] [.pointer (some ⟨w.heap.size + 1 + 1, 0, none⟩)] (fun i => if i = 0 then [w.heap.size + 1 + 1] else []) /\ Lift.Sub S (hp (psW w s)) := by
  obtain ⟨f1, f2, f3, f4, f5, _⟩ := zry w s
  have hsub : Lift.Sub S (hp (psW w s)) := fun k q hk => by
    have := hS k q hk
    simp only [hp] at this ⊢
    rw [f5 k (z8j (hS k q hk))]
    exact this
  refine ⟨z125 (w := psW w s) (args := []) (vals := []) ?_ (by simp) (fun k hk => ?_) ⟨rfl, fun i x h => (by cases h), fun _ _ => rfl, fun i j b hb => (by cases hb), fun _ => .nil, fun i b hb => (by cases hb)⟩, hsub⟩
  . refine ⟨w.heap.size + 1 + 1, _, _, _, [], rfl, rfl, f4, zhc _, RdO.of_rd PrsT _ _ ?_⟩
    exact ⟨[.string ⟨⟨s⟩⟩], _, rfl, rfl, [.int .i64 0], _, rfl, rfl, [.int .i64 0], [], rfl, rfl, rfl⟩
  . have : k = w.heap.size + 1 + 1 := by simpa using hk
    subst this
    cases hx : S (w.heap.size + 1 + 1) with
    | none => rfl
    | some o => exact absurd (z8j (hS _ _ hx)) (by omega)

theorem zqn {w : World} {S : Hp} (hS : Lift.Sub S (hp w)) {k : Nat} (hk : w.heap.size <= k) : S k = none := by
  cases hx : S k with
  | none => rfl
  | some o => exact absurd (z8j (hS _ _ hx)) (by omega)

theorem zvu {w w2 : World} {s : List UInt8} {S S' : Hp} (hS : Lift.Sub S (hp w)) (hwf : WF (psW w s) (fun b => ∃ i, b ∈ (fun i => if i = 0 then [w.heap.size + 1 + 1] else []) i) w2) (hSS : Lift.Sub S S') (hSw : Lift.Sub S' (hp w2))
    (hnew : ∀ b, S' b ≠ none -> S b ≠ none \/ b = w.heap.size + 1 + 1 \/ (psW w s).heap.size <= b) :
    Cl w2 w.heap.size [.int .i64 0, .int .u64 0, .int .u64 0, .int .u64 0, .int .u64 0, .slice none 0 0, .int .i64 0, .int .i64 0] /\ Cl w2 (w.heap.size + 1) [.int .i64 0, .int .i64 0] /\ S' w.heap.size = none /\ S' (w.heap.size + 1) = none /\ PsW w S S' w2 := by
  obtain ⟨f1, f2, f3, f4, f5, f6, f7, f8⟩ := zry w s
  have hin : ∀ k, (∃ i, k ∈ (fun i => if i = 0 then [w.heap.size + 1 + 1] else []) i) -> k = w.heap.size + 1 + 1 := by
    rintro k ⟨i, hi⟩
    by_cases hi0 : i = 0
    . simpa [hi0] using hi
    . simp [hi0] at hi
  have g0 := hwf.same w.heap.size (by omega) (fun h => by have := hin _ h; omega)
  have g1 := hwf.same (w.heap.size + 1) (by omega) (fun h => by have := hin _ h; omega)
  rw [f2] at g0
  rw [f3] at g1
  refine ⟨z1jq g0, z1jq g1, ?_, ?_, ⟨by have := hwf.size; omega, fun k hk _ => ?_, hwf.tape.trans f6, hwf.os.trans f7, hwf.output.trans f8⟩, hSS, hSw, fun k hk => ?_⟩
  . cases hx : S' w.heap.size with
    | none => rfl
    | some o =>
      rcases hnew _ (by rw [hx]; simp) with h | h | h
      . exact absurd (zqn hS (Nat.le_refl _)) h
      . omega
      . omega
  . cases hx : S' (w.heap.size + 1) with
    | none => rfl
    | some o =>
      rcases hnew _ (by rw [hx]; simp) with h | h | h
      . exact absurd (zqn hS (by omega)) h
      . omega
      . omega
  . rw [hwf.same k (by omega) (fun h => by have := hin _ h; omega), f5 k hk]
  . rcases hnew k hk with h | h | h
    . exact .inl h
    . exact .inr (by omega)
    . exact .inr (by omega)

theorem z196 {w : World} {S : Hp} {x : PrsT.den} {b : Nat} {o : List Nat} (h : ARel (hp w) S (fun _ => undef) (.box PrsT x) (.pointer (some ⟨b, 0, none⟩)) o) : w.cell? ⟨b, 1, none⟩ = some (.int .i64 x.2.1) := by
  obtain ⟨b', cs, E, fr, bs, e, e', hb, hf, hr⟩ := h
  cases e'
  obtain ⟨_, c1, d1, hc, h1, c2, d2, hc2, h2, h3⟩ := RdO.rd PrsT x _ _ rfl hr
  have k1 : c1 = [.string ⟨⟨x.1⟩⟩] := h1
  have k2 : c2 = [.int .i64 x.2.1] := h2
  have : cs[1]? = some (.int .i64 x.2.1) := by
    rw [<- Array.getElem?_toList, hc, k1, hc2, k2]; rfl
  have hb : w.heap[b]? = some (.cells cs E fr) := hb
  simp [World.cell?, hb, this]

theorem zqo {w w' : World} {s : List UInt8} {S S' : Hp} {ob : Nat -> List Nat} {y : z4o [NodT, z13l]} {v1 v2 : Value} (hob : ∀ i, ob i = []) (hP : PsW w S S' w') (h1 : VR S' NodT y.1 v1) (h2 : VR S' z13l y.2.1 v2) :
    Lift.Ends w S (mkS [(0, .v .str)] 0 (s, ())) [.string ⟨⟨s⟩⟩] ob (z75 (.tup [NodT, z13l]) 1 y).1 (z75 (.tup [NodT, z13l]) 1 y).2 (.returned (.tuple #[v1, v2])) w' := by
  obtain ⟨k1, k2, k3, k4⟩ := hP
  refine ⟨_, S', [], ob, rfl, ⟨k1.size, fun k hk _ => k1.same k hk (fun h => h), k1.tape, k1.os, k1.output⟩, k2, k3, fun k hk => ?_, ⟨⟨rfl, _, rfl, .cons h1 (.cons h2 .nil)⟩, rfl⟩, (fun k hk => by cases hk), .nil, ?_, ?_, ?_, ?_, fun _ h => h⟩
  . rcases k4 k hk with h | h
    . exact .inl h
    . exact .inr (.inr h)
  . intro i x hx hbx
    match i with
    | 0 => simp [mkS, zgj, AS.mk] at hx; subst hx; simp [zdy] at hbx
    | i + 1 => simp [mkS, zgj] at hx
  . intro i k hk
    rw [hob i] at hk; cases hk
  . intro i j k hi
    rw [hob i] at hi; cases hi
  . intro i
    rw [hob i]; exact .nil

theorem zp0 (N : Nat) : Contract Go.Proofs.Tryd.prog glob 23 (zh0 N) := by
  refine Contract.hand ⟨_, Go.Proofs.Tryd.func23, by kernel_rfl, by decide⟩ ?_
  intro w S vals ob x y har hS hg hy
  obtain ⟨s, u⟩ := x
  cases u
  have hob : ∀ i, ob i = [] := by
    intro i
    rcases i with _ | i
    . obtain ⟨⟨v, hv, hA⟩, _⟩ := har.rel 0 _ rfl
      exact hA.2
    . exact har.out _ (by simp [mkS, zgj])
  have hvals : vals = [.string ⟨⟨s⟩⟩] := by
    have hlen := har.len
    obtain ⟨⟨v0, hv0, hA0⟩, _⟩ := har.rel 0 _ rfl
    have e0 : v0 = .string ⟨⟨s⟩⟩ := VR.str_inv hA0.1
    match vals, hlen with
    | [a], _ => cases hv0; rw [e0]
  subst hvals
  have hy : zfh N s = some y := hy
  unfold zfh at hy
  by_cases hlen : (256 : Int) < s.length
  . rw [decide_eq_true hlen] at hy
    cases hy
    refine (z14j hS hlen).mono ?_
    rintro r w' ⟨rfl, hP⟩
    exact zqo hob hP (zt8 _) (zvc _ _ _)
  . rw [decide_eq_false hlen] at hy
    simp only [cond_false] at hy
    obtain ⟨hA, hSB⟩ := z14k (s := s) hS
    rcases zqs hy with ⟨z, hz, hK⟩ | ⟨_, hK⟩
    . cases hK
      have hc := (z5n N).2 (psW w s) S _ _ _ hA hSB hg z hz
      refine (z194 hlen (zqn hS (Nat.le_refl _)) (zqn hS (Nat.le_succ _)) (e := z.1) (a := z.2.1) (hc.mono ?_)).mono ?_
      . rintro e w2 ⟨rfl, hwf, hsub⟩
        obtain ⟨q1, q2, q3, q4, q5⟩ := zvu hS hwf (Lift.Sub.refl S) hsub (fun b hb => .inl hb)
        exact ⟨rfl, q1, q2, q5⟩
      . rintro r w' ⟨rfl, hP⟩
        obtain ⟨z1, z2, u⟩ := z
        exact zqo hob hP (zt8 _) (zvc _ _ _)
    . obtain ⟨q, hq, hK⟩ := Option.bind_eq_some_iff.1 hK
      have hc := (z2k N).2 (psW w s) S _ _ _ hA hSB hg q hq
      have key : ∀ e w2, Lift.Ends (psW w s) S [.box PrsT (s, (0, (0, ())))] [.pointer (some ⟨w.heap.size + 1 + 1, 0, none⟩)] (fun i => if i = 0 then [w.heap.size + 1 + 1] else []) (.v NodT q.1) [.box PrsT q.2.1] e w2 →
          ∃ v S', e = .returned v /\ VR S' NodT q.1 v /\ Cl w2 w.heap.size [.int .i64 0, .int .u64 0, .int .u64 0, .int .u64 0, .int .u64 0, .slice none 0 0, .int .i64 0, .int .i64 0] /\ Cl w2 (w.heap.size + 1) [.int .i64 0, .int .i64 0] /\ w2.cell? ⟨w.heap.size + 1 + 1, 1, none⟩ = some (.int .i64 q.2.1.2.1) /\ S' w.heap.size = none /\ S' (w.heap.size + 1) = none /\ PsW w S S' w2 := by
        rintro e w2 ⟨v, S', o, ob', rfl, hwf, hSS, hSw, hnew, ⟨hr, _⟩, _, _, hbox, _⟩
        obtain ⟨x2, v2, g1, g2, _, g4⟩ := hbox 0 _ rfl rfl
        simp at g1 g2
        subst g1
        subst g2
        obtain ⟨q1, q2, q3, q4, q5⟩ := zvu hS hwf hSS hSw (fun b hb => by
          rcases hnew b hb with h | ⟨i, hi⟩ | h
          . exact .inl h
          . by_cases hi0 : i = 0
            . simp [hi0] at hi; exact .inr (.inl hi)
            . simp [hi0] at hi
          . exact .inr (.inr h))
        exact ⟨v, S', rfl, hr.1, q1, q2, z196 g4, q3, q4, q5⟩
      by_cases hat : q.2.1.2.1 < (s.length : Int)
      . rw [decide_eq_true hat] at hK
        cases hK
        refine (z195 (S := S) hlen (at_ := q.2.1.2.1) (hc.mono ?_) hat).mono ?_
        . intro e w2 h
          obtain ⟨v, S', rfl, hv, q1, q2, q3, q4, q5, q6⟩ := key e w2 h
          obtain ⟨k, a0, a1, a2, a3, lo, hi, sp, sn, sc, rfl⟩ := zw2 hv
          exact ⟨k, a0, a1, a2, a3, lo, hi, sp, sn, sc, S', rfl, q1, q2, q3, q4, q5, q6⟩
        . rintro r w' ⟨rfl, S', hP⟩
          exact zqo hob hP (zt8 _) (zvc _ _ _)
      . rw [decide_eq_false hat] at hK
        cases hK
        refine (ps_ok (S := S) hlen (at_ := q.2.1.2.1) (F := fun S' v => VR S' NodT q.1 v) (hc.mono ?_) hat).mono ?_
        . intro e w2 h
          obtain ⟨v, S', rfl, hv, q1, q2, q3, q4, q5, q6⟩ := key e w2 h
          obtain ⟨k, a0, a1, a2, a3, lo, hi, sp, sn, sc, rfl⟩ := zw2 hv
          exact ⟨k, a0, a1, a2, a3, lo, hi, sp, sn, sc, S', rfl, q1, q2, q3, q4, q5, q6, hv⟩
        . rintro r w' ⟨v, S', rfl, hv, hP⟩
          exact zqo hob hP hv (zvc _ _ _)

end
end Go.Proofs.YtmeecjkimeiogaaDoorLg

set_option linter.all false
set_option maxRecDepth 100000
namespace Go.Proofs.YtmeecjkimeiogaaDoorLg
noncomputable section
open Go Go.Lift

def z174 : Code := (Tryd.f9.body).getD .skip

def L_78 : List (List Nat × List Nat) := [([0], []), ([0, 1], [1, 2]), ([0, 1, 1], [2, 4, 3]), ([0, 1, 1, 1], [0]), ([1, 1, 1, 1], [0])]

def E_78 (N : Nat) : Env := z1s tys glob [(10, zgq N), (15, zgr N), (23, zh0 N)] [] [] [] false [] []

theorem z1ke (N : Nat) : EnvOk Tryd.prog (E_78 N) := zf mixed zq (FnsOk.cons (zmr N) (FnsOk.cons (zow N) (FnsOk.cons (zp0 N) (FnsOk.nil)))) (ItsOk.nil)

def z42 (N : Nat) : Option Bool :=
 (zfh N ([(97 : UInt8), (40 : UInt8), (98 : UInt8), (124 : UInt8), (99 : UInt8), (41 : UInt8), (42 : UInt8)] : List UInt8)).bind fun y =>
 (zhq N y.1).bind fun y1 =>
 cond (eqD (T.pair (T.int IntKind.i64) (T.pair (T.int IntKind.i64) T.unit)) y.2.1 ((0 : Int), ((0 : Int), ())))
 (cond (y1.2.1 == (0 : Int))
 (cond ((((List.length y1.1.1) : Nat) : Int) == (3 : Int))
 (cond ((((List.length y1.1.2.2.2.2.1) : Nat) : Int) == (3 : Int))
 (cond (!y1.1.2.1)
 (cond ((((List.length y1.1.2.2.1) : Nat) : Int) == (1 : Int))
 (cond ((((List.length y1.1.2.2.2.1) : Nat) : Int) == (3 : Int))
 (cond (inR (0 : Int) (List.length y1.1.2.2.2.2.1))
 (cond ((((List.length (List.getD y1.1.2.2.2.2.1 0 ([] : List Int))) : Nat) : Int) == (2 : Int))
 (cond (inR (0 : Int) (List.length y1.1.2.2.2.2.1))
 (cond (inR (0 : Int) (List.length (List.getD y1.1.2.2.2.2.1 0 ([] : List Int))))
 (cond ((List.getD (List.getD y1.1.2.2.2.2.1 0 ([] : List Int)) 0 (0 : Int)) == (1 : Int))
 ((zf5 N y1.1 ([(97 : UInt8), (98 : UInt8), (99 : UInt8), (98 : UInt8)] : List UInt8)).bind fun y2 =>
 cond y2
 ((zf5 N y1.1 ([] : List UInt8)).bind fun y3 =>
 some (!y3))
 (some false))
 (some false))
 (none))
 (none))
 (some false))
 (none))
 (some false))
 (some false))
 (some false))
 (some false))
 (some false))
 (some false))
 (some false)

def t_78 (N : Nat) : Tab Bool := []

theorem z14u (N : Nat) (x : zz []) : z6k (E_78 N) N (t_78 N) L_78 Tryd.f9 (mkS [] 0 x) (z4b (.v .bool) 0) = z42 N := by kernel_rfl

def zb9 (N : Nat) : List A -> Res := zu [] (fun x => z42 N) (z75 (.v .bool) 0)

theorem zi4 (N : Nat) : Contract Tryd.prog glob 9 (zb9 N) :=
  Contract.of (E := E_78 N) (H := t_78 N) (L := L_78) (N := N) (body := z174) (K := (z4b (.v .bool) 0)) (z1ke N) Tryd.func9 (by kernel_rfl) (by decide) (fun _ hb => TabOk.nil) (fun x y h => by rw [z14u]; exact h) (z1b (s := (.v .bool)) (m := 0))

def zo6 : Code := (Tryd.f3.body).getD .skip

def L_79 : List (List Nat × List Nat) := [([0], [1]), ([0, 0, 1], [18, 1]), ([1, 0, 1], [1]), ([0, 0, 1, 0, 1], [2]), ([1, 0, 1, 0, 1], [2]), ([0, 1, 1], [1, 3, 4]), ([0, 1, 1, 1], [1, 3, 5, 4, 6]), ([0, 1, 1, 1, 1], [2]), ([1, 1, 1, 1, 1], [2])]

def z1mb (N : Nat) : Env := z1s tys glob [(9, zb9 N), (6, zba N), (7, zgs N), (8, zb7 N), (10, zgq N), (11, zdw N), (12, zc3 N)] [] [] [] false [] []

theorem z1kd (N : Nat) : EnvOk Tryd.prog (z1mb N) := zf mixed zq (FnsOk.cons (zi4 N) (FnsOk.cons (zi5 N) (FnsOk.cons (zox N) (FnsOk.cons (zi2 N) (FnsOk.cons (zmr N) (FnsOk.cons (zku N) (FnsOk.cons (zj6 N) (FnsOk.nil)))))))) (ItsOk.nil)

def z69 (N : Nat) (n : DT1) (k0 : Bool -> Option Bool) : Option Bool :=
 (z58 N n).bind fun y =>
 cond y
 (k0 true)
 ((z6o N n).bind fun y1 =>
 cond (decide ((40 : Int) < y1))
 ((z6o N n).bind fun y2 =>
 k0 (decide (y2 < (513 : Int))))
 (k0 false))

def z1h9 (N : Nat) (x : zz [(1, .box TT0)]) (K : Ex -> List A -> Option Bool) : Option Bool :=
 z69 N x.1 (fun a1 => (K .normal (mkS [(1, .box TT0), (16, .v .bool)] 36 (x.1, a1, ()))))

def z1dy (N : Nat) : Hd Bool := fun st K => (unS [(1, .box TT0)] 53 (restr [1] 0 st)).bind fun x => z1h9 N x K

def t2_79 (N : Nat) : Tab Bool := []

theorem z1a7 {N : Nat} {c : Ctx} (hb : Base Tryd.prog (z1mb N) c) : zh Tryd.prog c (ze zo6 [0, 0, 1]) (z1dy N) :=
  zi (s := [(1, .box TT0)]) (m := 53) (g := z1h9 N) [1] (zd hb N (t2_79 N) L_79 zo6 TabOk.nil [0, 0, 1] _ rfl) (fun x K => by kernel_rfl)

def z6a (N : Nat) (n : DT1) (k0 : Bool -> Option Bool) (k1 : Option Bool) : Option Bool :=
 z69 N n
 (fun x18 => cond x18
 ((z6o N n).bind fun y =>
 (z41 N n).bind fun y1 =>
 cond (y == y1)
 ((z42 N).bind fun y2 =>
 k0 y2)
 (k0 false))
 (k1))

def z1i3 (N : Nat) (x : zz [(1, .box TT0)]) (K : Ex -> List A -> Option Bool) : Option Bool :=
 z6a N x.1 (fun a0 => (K .ret (mkS [(2, .v .bool)] 52 (a0, ())))) (K .normal (mkS [(1, .box TT0)] 53 (x.1, ())))

def z1es (N : Nat) : Hd Bool := fun st K => (unS [(1, .box TT0)] 53 (restr [1] 0 st)).bind fun x => z1i3 N x K

def t1_79 (N : Nat) : Tab Bool := [([0, 0, 1], z1dy N)]

theorem z1b1 {N : Nat} {c : Ctx} (hb : Base Tryd.prog (z1mb N) c) : zh Tryd.prog c (ze zo6 [0, 1]) (z1es N) :=
  zi (s := [(1, .box TT0)]) (m := 53) (g := z1i3 N) [1] (zd hb N (t1_79 N) L_79 zo6 (TabOk.cons (z1a7 hb) TabOk.nil) [0, 1] _ rfl) (fun x K => by kernel_rfl)

def z34 (N : Nat) (n : DT1) : Option Bool :=
 z6a N n
 (fun x2 => some x2)
 ((zhq N n).bind fun y =>
 (z8i N n).bind fun y1 =>
 (z6o N n).bind fun y2 =>
 (z41 N n).bind fun y3 =>
 cond (y2 == y3)
 ((z4h N y.1 y1.1).bind fun y4 =>
 cond y4
 (cond (y.2.1 == y1.2.1)
 ((z42 N).bind fun y5 =>
 some y5)
 (some false))
 (some false))
 (some false))

def t_79 (N : Nat) : Tab Bool := [([0, 1], z1es N)]

theorem z14t (N : Nat) (x : zz [(0, .v TT0)]) : z6k (z1mb N) N (t_79 N) L_79 Tryd.f3 (mkS [(0, .v TT0)] 0 x) (z4b (.v .bool) 1) = z34 N x.1 := by kernel_rfl

def zfi (N : Nat) : List A -> Res := zu [(0, .v TT0)] (fun x => z34 N x.1) (z75 (.v .bool) 1)

theorem zgh (N : Nat) : Contract Tryd.prog glob 3 (zfi N) :=
  Contract.of (E := z1mb N) (H := t_79 N) (L := L_79) (N := N) (body := zo6) (K := (z4b (.v .bool) 1)) (z1kd N) Tryd.func3 (by kernel_rfl) (by decide) (fun _ hb => (TabOk.cons (z1b1 hb) TabOk.nil)) (fun x y h => by rw [z14t]; exact h) (z1b (s := (.v .bool)) (m := 1))

end
end Go.Proofs.YtmeecjkimeiogaaDoorLg

set_option linter.all false
set_option maxRecDepth 100000
namespace Go.Proofs.YtmeecjkimeiogaaDoorLg
noncomputable section
open Go Go.Lift Go.Proofs.YtmeecjkimeiogaaDoorPx

theorem zwk (k : Nat) : z42 (k + 300) = some true := by kernel_rfl

theorem zxh {N : Nat} {a : Tree} (hN : z3j a < N) (hw : WfN a) : z58 N (unN a) = some (decide ((300 : Int) < zrk a) || decide ((40 : Int) < z10y a)) := by
  unfold z58
  rw [zpj N a hN hw, Option.bind_some]
  cases decide ((300 : Int) < zrk a) <;> rfl

theorem z13o {a : NodT.den} (h : Wf NodT a) : WfN (foN a) := by
  obtain ⟨k, st, ks, lo, hi, u⟩ := a
  obtain ⟨h1, h2, h3, h4, h5, _⟩ := h
  show WfN (.mk k st ks lo hi)
  rw [WfN]
  exact ⟨h1, h2, ⟨h3.1, (zcg ks).2 h3.2⟩, h4, h5⟩

theorem zt9 (x : Tree) (hw : WfN x) (hs : SmN 140737488351232 x) : z34 (z3j x + 3000) (unN x) = some true := by
  have w : z42 (z3j x + 3000) = some true := zwk (z3j x + 2700)
  have e1 := zqf (N := z3j x + 3000) (x := x) (by omega) hw
  have e2 := ztj (N := z3j x + 3000) (x := x) (by omega) hw hs
  have e3 := zwo (N := z3j x + 3000) (x := x) (by omega) hw
  have e4 := z11c (N := z3j x + 3000) (x := x) (by omega) hw hs
  have e5 := zxh (N := z3j x + 3000) (a := x) (by omega) hw
  have e6 := z11j (N := z3j x + 3000) (by omega) x
  unfold z34 z6a z69
  rw [e1, e2, e3, e4, e5, w]
  simp only [Option.bind_some]
  rw [e6, beq_self_eq_true, beq_self_eq_true]
  simp only [Option.bind_some, cond_true]
  generalize (if z24 x = true then ((zgc x : Nat) : Int) else 0) = c
  cases (decide ((300 : Int) < zrk x) || decide ((40 : Int) < z10y x)) with
  | true => rfl
  | false =>
    rw [cond_false]
    cases decide ((40 : Int) < c) with
    | false => rfl
    | true =>
      rw [cond_true]
      cases decide (c < (513 : Int)) <;> rfl

end
end Go.Proofs.YtmeecjkimeiogaaDoorLg
