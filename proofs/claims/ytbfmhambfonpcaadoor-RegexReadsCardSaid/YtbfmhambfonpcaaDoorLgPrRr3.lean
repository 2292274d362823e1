import Derived.Test.YtbfmhambfonpcaaDoorLgPrRr2
import Derived.Test.YtbfmhambfonpcaaDoorLgPrRr1
set_option linter.all false
set_option maxRecDepth 100000
namespace Go.Proofs.YtbfmhambfonpcaaDoorLg
noncomputable section
open Go Go.Lift

theorem zio (N : Nat) : Contract Tryd.prog glob 62 (zcn N) :=
  Contract.of (E := z19j N) (H := t_50 N) (L := z1ai) (N := N) (body := zg6) (K := (z6d (.v TT2) 2)) (z1ml N) Tryd.func62 (by kernel_rfl) (by decide) (fun _ hb => (TabOk.cons (z1di hb) (TabOk.cons (z1bw hb) TabOk.nil))) (fun x y h => by rw [z16y]; exact h) (z1p (s := (.v TT2)) (m := 2))

def znu : Code := (Tryd.f64.body).getD .skip

def L_51 : List (List Nat × List Nat) := [([0], [1, 2]), ([0, 1], [1, 3, 2]), ([0, 0, 1, 1], [4, 1, 3, 2]), ([0, 1, 0, 1, 1], [4, 1, 3, 2]), (z1ad, [6, 1, 4, 3, 2]), (z1ac, [1, 4, 3, 2]), (z1ae, [3, 2]), (z19d, [12, 3, 4, 1, 2]), ([1, 0, 0, 1, 0, 0, 1, 0, 1, 1], [4, 1, 3, 2]), ([0, 1, 0, 0, 1, 0, 0, 1, 0, 1, 1], [4, 1, 3, 2]), (zx3, [4, 1, 3, 2]), (z1ab, [4, 1, 3, 2]), ([1, 0, 1, 1], [3, 2]), ([0, 1, 1, 1], [2]), ([1, 1, 1, 1], [2])]

def z1nw (N : Nat) : Env := z27 tys glob [(61, z4d N), (71, z4x N)] [] [] [] false [] []

theorem z1mk (N : Nat) : EnvOk Tryd.prog (z1nw N) := zi mixed z16 (FnsOk.cons (z6w N) (FnsOk.cons (z7l N) (FnsOk.nil))) (ItsOk.nil)

def zb2 (N : Nat) (s : (List Int)) (x2 : (List Int)) (t : (List Int)) (b : Int) (k0 : (List Int) -> Option (List Int)) : Option (List Int) :=
 (z3y N s b).bind fun y =>
 cond (!y)
 ((z3k N t b).bind fun y1 =>
 k0 y1)
 (k0 t)

def z1j4 (N : Nat) (x : z1a z1a8) (K : Ex -> List A -> Option (List Int)) : Option (List Int) :=
 zb2 N x.1 x.2.1 x.2.2.1 x.2.2.2.1 (fun a2 => (K .normal (mkS z1a8 12 (x.1, x.2.1, a2, x.2.2.2.1, ()))))

def z1fy (N : Nat) : Hd (List Int) := fun st K => (unS z1a8 12 (restr [1, 4, 3, 2] 0 st)).bind fun x => z1j4 N x K

def t2_51 (N : Nat) : Tab (List Int) := []

theorem z1ch {N : Nat} {c : Ctx} (hb : Base Tryd.prog (z1nw N) c) : zk Tryd.prog c (zf znu zx3) (z1fy N) :=
  zj (s := z1a8) (m := 12) (g := z1j4 N) [1, 4, 3, 2] (ze hb N (t2_51 N) L_51 znu TabOk.nil zx3 _ rfl) (fun x K => by kernel_rfl)

def z4a (N : Nat) (s : (List Int)) (x2 : (List Int)) (t : (List Int)) (b : Int) (rec : (List Int) -> Int -> Option (List Int)) (k0 : (List Int) -> Option (List Int)) : Option (List Int) :=
 cond (decide (b < (256 : Int)))
 (zb2 N s x2 t b
 (fun t1 => rec t1 (IntKind.wrap IntKind.i64 (b + (1 : Int)))))
 (k0 t)

def zee (N : Nat) (s : (List Int)) (x2 : (List Int)) (t : (List Int)) (b : Int) (k0 : (List Int) -> Option (List Int)) : Option (List Int) :=
 iter (fun (v : ((List Int) × Int)) r => z4a N s x2 v.1 v.2 (fun t b => (r (t, b))) k0) N (t, b)

def z1k4 (N : Nat) (i : ((List Int) × (List Int))) (v : ((List Int) × Int)) (r : ((List Int) × Int) -> Option (List Int)) (K : Ex -> List A -> Option (List Int)) : Option (List Int) :=
 z4a N i.1 i.2 v.1 v.2 (fun t b => (r (t, b))) (fun a1 => (K (.exit 0) (mkS [(2, .box (.arr 4 (.int .u64))), (0, .box (.arr 4 (.int .u64)))] 13 (i.2, a1, ()))))

def z1gy (N : Nat) : Hd (List Int) := fun st K => (unS z1a8 12 (restr [4, 1, 3, 2] 0 st)).bind fun x => iter (fun v r => z1k4 N ((fun x => (x.1, x.2.1)) x) v r K) N ((fun x => (x.2.2.1, x.2.2.2.1)) x)

def t1_51 (N : Nat) : Tab (List Int) := [(zx3, z1fy N)]

theorem z1dh {N : Nat} {c : Ctx} (hb : Base Tryd.prog (z1nw N) c) : zk Tryd.prog c (zf znu [0, 1, 0, 1, 1]) (z1gy N) :=
  z4k (s := z1a8) (m := 12) (z1k4 N) [4, 1, 3, 2] N (fun x => (x.1, x.2.1)) (fun x => (x.2.2.1, x.2.2.2.1)) (fun i v => (i.1, i.2, v.1, v.2, ())) (fun _ => rfl) (ze hb N (t1_51 N) L_51 znu (TabOk.cons (z1ch hb) TabOk.nil) [0, 0, 1, 0, 1, 1] _ rfl) (fun i v r K => by kernel_rfl)

def z84 (N : Nat) (s : (List Int)) : Option (List Int) :=
 zee N s ([(0 : Int), (0 : Int), (0 : Int), (0 : Int)] : List Int) ([(0 : Int), (0 : Int), (0 : Int), (0 : Int)] : List Int) (0 : Int)
 (fun t => some t)

def t_51 (N : Nat) : Tab (List Int) := [([0, 1, 0, 1, 1], z1gy N)]

theorem z16x (N : Nat) (x : z1a zvd) : zas (z1nw N) N (t_51 N) L_51 Tryd.f64 (mkS zvd 0 x) (z6d (.v (.arr 4 (.int .u64))) 1) = z84 N x.1 := by kernel_rfl

def zdp (N : Nat) : List A -> Res := z1b zvd (fun x => z84 N x.1) (zb4 (.v (.arr 4 (.int .u64))) 1)

theorem zjr (N : Nat) : Contract Tryd.prog glob 64 (zdp N) :=
  Contract.of (E := z1nw N) (H := t_51 N) (L := L_51) (N := N) (body := znu) (K := (z6d (.v (.arr 4 (.int .u64))) 1)) (z1mk N) Tryd.func64 (by kernel_rfl) (by decide) (fun _ hb => (TabOk.cons (z1dh hb) TabOk.nil)) (fun x y h => by rw [z16x]; exact h) (z1p (s := (.v (.arr 4 (.int .u64)))) (m := 1))

def zj6 : Code := (Tryd.f49.body).getD .skip

def z1lp : List (List Nat × List Nat) := [([0], [0, 1, 4]), ([0, 1], [5, 1, 0, 4]), ([0, 0, 1, 1], [11, 1, 0, 4, 5]), ([1, 0, 1, 1], [0, 1, 4, 5]), ([0, 1, 0, 1, 1], [0, 1, 4, 5]), ([0, 1, 1, 1], [6, 4, 0, 5]), ([0, 0, 1, 1, 1, 1], [20, 6, 4, 0, 5]), ([1, 0, 1, 1, 1, 1], [6, 0, 4, 5]), (z11x, [4]), (z14y, [4]), ([0, 1, 1, 1, 1, 1], [6, 0, 4, 7, 5]), (zr7, [0, 1, 6, 4, 7, 5]), (z1lg, [0, 1, 6, 4, 7, 5]), ([0, 0, 0, 0, 0, 1, 1, 1, 1, 1, 1, 1], [29, 0, 1, 6, 4, 7, 5]), ([1, 0, 0, 0, 0, 1, 1, 1, 1, 1, 1, 1], [0, 1, 6, 4, 7, 5]), ([1, 1, 0, 0, 0, 0, 1, 1, 1, 1, 1, 1, 1], [5, 7, 1, 4]), ([0, 0, 1, 0, 0, 0, 1, 1, 1, 1, 1, 1, 1], [6, 4, 7, 0, 5]), ([0, 0, 1, 0, 1, 0, 0, 0, 1, 1, 1, 1, 1, 1, 1], [36, 6, 4, 7, 0, 5]), ([1, 0, 1, 0, 1, 0, 0, 0, 1, 1, 1, 1, 1, 1, 1], [7, 6, 0, 4, 5]), ([0, 0, 1, 0, 1, 0, 1, 0, 0, 0, 1, 1, 1, 1, 1, 1, 1], [4]), ([1, 0, 1, 0, 1, 0, 1, 0, 0, 0, 1, 1, 1, 1, 1, 1, 1], [4]), ([0, 1, 1, 0, 1, 0, 0, 0, 1, 1, 1, 1, 1, 1, 1], [6, 0, 4, 7, 5]), ([1, 1, 1, 0, 1, 0, 0, 0, 1, 1, 1, 1, 1, 1, 1], [0, 1, 6, 4, 7, 5]), ([1, 0, 0, 0, 1, 1, 1, 1, 1, 1, 1], [0, 1, 6, 4, 7, 5]), (z11y, [5, 7, 1, 4]), ([0, 0, 1, 1, 1, 1, 1, 1, 1, 1], [44, 7, 1, 4]), ([1, 0, 1, 1, 1, 1, 1, 1, 1, 1], [7, 1, 4]), ([0, 1, 0, 1, 1, 1, 1, 1, 1, 1, 1], [7, 1, 4]), ([0, 1, 1, 1, 1, 1, 1, 1, 1, 1], [4]), ([1, 1, 1, 1, 1, 1, 1, 1, 1, 1], [4])]

def z1am (N : Nat) : Env := z27 tys glob [(64, zdp N), (62, zcn N), (63, zb1 N), (29, z47 N)] [] [] [] false [] []

theorem z1mj (N : Nat) : EnvOk Tryd.prog (z1am N) := zi mixed z16 (FnsOk.cons (zjr N) (FnsOk.cons (zio N) (FnsOk.cons (zf8 N) (FnsOk.cons (z62 N) (FnsOk.nil))))) (ItsOk.nil)

def z96 (N : Nat) (s : (List UInt8)) (at_ : Int) (x4 : DT3) (not_ : Bool) (k0 : Int -> Option DT3) : Option DT3 :=
 cond not_
 (k0 (IntKind.wrap IntKind.i64 (at_ + (1 : Int))))
 (k0 at_)

def z1k3 (N : Nat) (x : z1a SQ54) (K : Ex -> List A -> Option DT3) : Option DT3 :=
 z96 N x.1 x.2.1 x.2.2.1 x.2.2.2.1 (fun a1 => (K .normal (mkS SQ54 46 (x.1, a1, x.2.2.1, x.2.2.2.1, ()))))

def z1gx (N : Nat) : Hd DT3 := fun st K => (unS SQ54 46 (restr [5, 1, 0, 4] 0 st)).bind fun x => z1k3 N x K

def t1_52 (N : Nat) : Tab DT3 := []

theorem z1dg {N : Nat} {c : Ctx} (hb : Base Tryd.prog (z1am N) c) : zk Tryd.prog c (zf zj6 [0, 1, 1]) (z1gx N) :=
  zj (s := SQ54) (m := 46) (g := z1k3 N) [5, 1, 0, 4] (ze hb N (t1_52 N) z1lp zj6 TabOk.nil [0, 1, 1] _ rfl) (fun x K => by kernel_rfl)

def z5r (N : Nat) (s : (List UInt8)) (x4 : DT3) (not_ : Bool) (at_ : Int) (x6 : DT3) (all : (List Int)) (rec : Int -> DT3 -> (List Int) -> Option DT3) (k0 : DT3 -> Option DT3) (k1 : Int -> (List Int) -> Option DT3) : Option DT3 :=
 (z1m N s at_ (93 : Int)).bind fun y =>
 cond (!y)
 ((z4b N s at_).bind fun y1 =>
 cond (y1.2.2.2.2.1.1 != (0 : Int))
 (k0 y1)
 ((z5n N all y1.2.1).bind fun y2 =>
 rec y1.2.2.2.1 y1 y2))
 (k1 at_ all)

def z95 (N : Nat) (s : (List UInt8)) (at_ : Int) (x4 : DT3) (not_ : Bool) (x6 : DT3) (all : (List Int)) (k0 : DT3 -> Option DT3) (k1 : Int -> (List Int) -> Option DT3) : Option DT3 :=
 iter (fun (v : (Int × DT3 × (List Int))) r => z5r N s x4 not_ v.1 v.2.1 v.2.2 (fun at_ x6 all => (r (at_, x6, all))) k0 k1) N (at_, x6, all)

def z1j3 (N : Nat) (i : ((List UInt8) × DT3 × Bool)) (v : (Int × DT3 × (List Int))) (r : (Int × DT3 × (List Int)) -> Option DT3) (K : Ex -> List A -> Option DT3) : Option DT3 :=
 z5r N i.1 i.2.1 i.2.2 v.1 v.2.1 v.2.2 (fun at_ x6 all => (r (at_, x6, all))) (fun a0 => (K .ret (mkS [(4, .box TT2)] 47 (a0, ())))) (fun a0 a3 => (K (.exit 0) (mkS SQ42 44 (a0, i.2.1, i.2.2, a3, ()))))

def z1fx (N : Nat) : Hd DT3 := fun st K => (unS SQ70 44 (restr [0, 1, 6, 4, 7, 5] 0 st)).bind fun x => iter (fun v r => z1j3 N ((fun x => (x.1, x.2.2.1, x.2.2.2.1)) x) v r K) N ((fun x => (x.2.1, x.2.2.2.2.1, x.2.2.2.2.2.1)) x)

def t2_52 (N : Nat) : Tab DT3 := []

theorem z1cg {N : Nat} {c : Ctx} (hb : Base Tryd.prog (z1am N) c) : zk Tryd.prog c (zf zj6 z1lg) (z1fx N) :=
  z4k (s := SQ70) (m := 44) (z1j3 N) [0, 1, 6, 4, 7, 5] N (fun x => (x.1, x.2.2.1, x.2.2.2.1)) (fun x => (x.2.1, x.2.2.2.2.1, x.2.2.2.2.2.1)) (fun i v => (i.1, v.1, i.2.1, i.2.2, v.2.1, v.2.2, ())) (fun _ => rfl) (ze hb N (t2_52 N) z1lp zj6 TabOk.nil [0, 0, 0, 1, 1, 1, 1, 1, 1, 1] _ rfl) (fun i v r K => by kernel_rfl)

def z5s (N : Nat) (at_ : Int) (x4 : DT3) (not_ : Bool) (all : (List Int)) (k0 : (List Int) -> Option DT3) : Option DT3 :=
 cond not_
 ((z84 N all).bind fun y =>
 k0 y)
 (k0 all)

def z1ii (N : Nat) (x : z1a SQ42) (K : Ex -> List A -> Option DT3) : Option DT3 :=
 z5s N x.1 x.2.1 x.2.2.1 x.2.2.2.1 (fun a2 => (K .normal (mkS [(1, .v (.int .i64)), (2, .box TT2), (2, .box (.arr 4 (.int .u64)))] 44 (x.1, x.2.1, a2, ()))))

def z1fc (N : Nat) : Hd DT3 := fun st K => (unS SQ42 44 (restr [5, 7, 1, 4] 0 st)).bind fun x => z1ii N x K

def t3_52 (N : Nat) : Tab DT3 := []

theorem z1bv {N : Nat} {c : Ctx} (hb : Base Tryd.prog (z1am N) c) : zk Tryd.prog c (zf zj6 z1lf) (z1fc N) :=
  zj (s := SQ42) (m := 44) (g := z1ii N) [5, 7, 1, 4] (ze hb N (t3_52 N) z1lp zj6 TabOk.nil z1lf _ rfl) (fun x K => by kernel_rfl)

def z64 (N : Nat) (s : (List UInt8)) (at_ : Int) : Option DT3 :=
 (z1m N s at_ (94 : Int)).bind fun y =>
 z96 N s at_ (((0 : Int), (([(0 : Int), (0 : Int), (0 : Int), (0 : Int)] : List Int), (([] : List Tree), ((0 : Int), ((0 : Int), ()))))), (([(0 : Int), (0 : Int), (0 : Int), (0 : Int)] : List Int), (false, ((0 : Int), (((0 : Int), ((0 : Int), ())), ()))))) y
 (fun at_1 => (z4b N s at_1).bind fun y1 =>
 cond (y1.2.2.2.2.1.1 != (0 : Int))
 (some y1)
 (z95 N s y1.2.2.2.1 (((0 : Int), (([(0 : Int), (0 : Int), (0 : Int), (0 : Int)] : List Int), (([] : List Tree), ((0 : Int), ((0 : Int), ()))))), (([(0 : Int), (0 : Int), (0 : Int), (0 : Int)] : List Int), (false, ((0 : Int), (((0 : Int), ((0 : Int), ())), ()))))) y y1 y1.2.1
 (fun x4 => some x4)
 (fun at_2 all => z5s N at_2 (((0 : Int), (([(0 : Int), (0 : Int), (0 : Int), (0 : Int)] : List Int), (([] : List Tree), ((0 : Int), ((0 : Int), ()))))), (([(0 : Int), (0 : Int), (0 : Int), (0 : Int)] : List Int), (false, ((0 : Int), (((0 : Int), ((0 : Int), ())), ()))))) y all
 (fun all1 => some (((1 : Int), (all1, (([] : List Tree), ((0 : Int), ((0 : Int), ()))))), (([(0 : Int), (0 : Int), (0 : Int), (0 : Int)] : List Int), (false, ((IntKind.wrap IntKind.i64 (at_2 + (1 : Int))), (((0 : Int), ((0 : Int), ())), ())))))))))

def t_52 (N : Nat) : Tab DT3 := [([0, 1, 1], z1gx N), (z1lg, z1fx N), (z1lf, z1fc N)]

theorem z16w (N : Nat) (x : z1a zr6) : zas (z1am N) N (t_52 N) z1lp Tryd.f49 (mkS zr6 0 x) (z6d (.v TT2) 2) = z64 N x.1 x.2.1 := by kernel_rfl

def zc6 (N : Nat) : List A -> Res := z1b zr6 (fun x => z64 N x.1 x.2.1) (zb4 (.v TT2) 2)

theorem zi2 (N : Nat) : Contract Tryd.prog glob 49 (zc6 N) :=
  Contract.of (E := z1am N) (H := t_52 N) (L := z1lp) (N := N) (body := zj6) (K := (z6d (.v TT2) 2)) (z1mj N) Tryd.func49 (by kernel_rfl) (by decide) (fun _ hb => (TabOk.cons (z1dg hb) (TabOk.cons (z1cg hb) (TabOk.cons (z1bv hb) TabOk.nil)))) (fun x y h => by rw [z16w]; exact h) (z1p (s := (.v TT2)) (m := 2))

abbrev z8 : Type := (List UInt8) -> Int -> Int -> Option ((Int × (List Int × (List Tree × (Int × (Int × Unit))))) × (List Int × (Bool × (Int × ((Int × (Int × Unit)) × Unit)))))

def zg5 : Code := (Tryd.f36.body).getD .skip

def z1ah : List (List Nat × List Nat) := [([0], [1, 0, 6, 2]), ([0, 0, 1], [18, 0, 1, 6, 2]), ([1, 0, 1], [0, 1, 2, 6]), ([0, 0, 1, 0, 1], [6]), ([1, 0, 1, 0, 1], [6]), ([0, 0, 1, 1], [25, 2, 1, 6, 0]), ([1, 0, 1, 1], [0, 1, 6]), (z19e, [27, 1, 6, 0, 2]), ([1, 0, 0, 1, 0, 1, 1], [0, 1, 2, 6]), ([0, 0, 1, 0, 0, 1, 0, 1, 1], [6]), (PQ93, [6]), ([0, 1, 0, 1, 0, 1, 1], [7, 0, 6]), (z1aa, [46, 0, 7, 6]), ([1, 0, 1, 1, 0, 1, 0, 1, 1], [7, 6]), ([0, 0, 1, 0, 1, 1, 0, 1, 0, 1, 1], [6]), ([1, 0, 1, 0, 1, 1, 0, 1, 0, 1, 1], [6]), ([0, 1, 1, 1, 0, 1, 0, 1, 1], [7, 6]), ([0, 1, 1, 1, 1, 0, 1, 0, 1, 1], [6]), ([1, 1, 1, 1, 1, 0, 1, 0, 1, 1], [6]), ([0, 0, 1, 1, 1], [59, 1, 6, 0]), ([1, 0, 1, 1, 1], [0, 1, 6]), (z13j, [6]), (z14x, [6]), ([0, 0, 1, 1, 1, 1], [68, 0, 1, 6]), ([1, 0, 1, 1, 1, 1], [0, 1, 6]), (z11x, [6]), (z14y, [6]), (zkf, [76, 0, 1, 6]), (zyg, [0, 1, 6]), (z19c, [8, 6]), ([0, 0, 1, 0, 1, 0, 1, 1, 1, 1, 1], [83, 8, 6]), ([1, 0, 1, 0, 1, 0, 1, 1, 1, 1, 1], [8, 6]), ([0, 0, 1, 0, 1, 0, 1, 0, 1, 1, 1, 1, 1], [6]), ([1, 0, 1, 0, 1, 0, 1, 0, 1, 1, 1, 1, 1], [6]), ([0, 1, 1, 0, 1, 0, 1, 1, 1, 1, 1], [6]), ([1, 1, 1, 0, 1, 0, 1, 1, 1, 1, 1], [6]), (zr7, [6]), (zve, [6])]

def z19i (N : Nat) (self : z8) : Env := z27 tys glob [(49, zc6 N), (50, z7c N), (48, z1u N), (29, z47 N), (22, z2z N), (31, z2s N), (47, z5c N), (21, z1b SQ5 (fun x => self x.1 x.2.1 x.2.2.1) (zb4 (.v TT2) 3))] [] [] [] false [] []

theorem z1mi (N : Nat) (self : z8) (hself : Contract Tryd.prog glob 21 (z1b SQ5 (fun x => self x.1 x.2.1 x.2.2.1) (zb4 (.v TT2) 3))) : EnvOk Tryd.prog (z19i N self) := zi mixed z16 (FnsOk.cons (zi2 N) (FnsOk.cons (zc5 N) (FnsOk.cons (z2f N) (FnsOk.cons (z62 N) (FnsOk.cons (z4c N) (FnsOk.cons (z49 N) (FnsOk.cons (z97 N) (FnsOk.cons (hself) (FnsOk.nil))))))))) (ItsOk.nil)

def za8 (N : Nat) (self : z8) (s : (List UInt8)) (at_ : Int) (open_ : Int) (x6 : DT3) (k0 : Bool -> Option DT3) : Option DT3 :=
 cond (decide ((((List.length s) : Nat) : Int) <= at_))
 (k0 true)
 (cond (inR at_ (List.length s))
 ((z1x N (((UInt8.toNat (List.getD s (Int.toNat at_) (0 : UInt8))) : Nat) : Int) ([(41 : UInt8), (93 : UInt8), (123 : UInt8), (125 : UInt8), (124 : UInt8), (42 : UInt8), (43 : UInt8), (63 : UInt8)] : List UInt8)).bind fun y =>
 k0 y)
 (none))

def z1j2 (N : Nat) (self : z8) (x : z1a z197) (K : Ex -> List A -> Option DT3) : Option DT3 :=
 za8 N self x.1 x.2.1 x.2.2.1 x.2.2.2.1 (fun a4 => (K .normal (mkS [(0, .v .str), (0, .v (.int .i64)), (0, .v (.int .i64)), (3, .box TT2), (11, .v .bool)] 85 (x.1, x.2.1, x.2.2.1, x.2.2.2.1, a4, ()))))

def z1fw (N : Nat) (self : z8) : Hd DT3 := fun st K => (unS z197 97 (restr [1, 0, 6, 2] 0 st)).bind fun x => z1j2 N self x K

def t2_53 (N : Nat) (self : z8) : Tab DT3 := []

theorem z1cf {N : Nat} {self : z8} {c : Ctx} (hb : Base Tryd.prog (z19i N self) c) : zk Tryd.prog c (zf zg5 [0, 0, 1]) (z1fw N self) :=
  zj (s := z197) (m := 97) (g := z1j2 N self) [1, 0, 6, 2] (ze hb N (t2_53 N self) z1ah zg5 TabOk.nil [0, 0, 1] _ rfl) (fun x K => by kernel_rfl)

def za9 (N : Nat) (self : z8) (s : (List UInt8)) (at_ : Int) (open_ : Int) (x6 : DT3) (k0 : DT3 -> Option DT3) (k1 : Option DT3) : Option DT3 :=
 za8 N self s at_ open_ x6
 (fun x18 => cond x18
 ((z13 N s at_).bind fun y =>
 k0 y)
 (k1))

def z1k2 (N : Nat) (self : z8) (x : z1a z197) (K : Ex -> List A -> Option DT3) : Option DT3 :=
 za9 N self x.1 x.2.1 x.2.2.1 x.2.2.2.1 (fun a0 => (K .ret (mkS [(6, .box TT2)] 97 (a0, ())))) (K .normal (mkS z197 97 (x.1, x.2.1, x.2.2.1, x.2.2.2.1, ())))

def z1gw (N : Nat) (self : z8) : Hd DT3 := fun st K => (unS z197 97 (restr [1, 0, 6, 2] 0 st)).bind fun x => z1k2 N self x K

def t1_53 (N : Nat) (self : z8) : Tab DT3 := [([0, 0, 1], z1fw N self)]

theorem z1df {N : Nat} {self : z8} {c : Ctx} (hb : Base Tryd.prog (z19i N self) c) : zk Tryd.prog c (zf zg5 [0, 1]) (z1gw N self) :=
  zj (s := z197) (m := 97) (g := z1k2 N self) [1, 0, 6, 2] (ze hb N (t1_53 N self) z1ah zg5 (TabOk.cons (z1cf hb) TabOk.nil) [0, 1] _ rfl) (fun x K => by kernel_rfl)

def za6 (N : Nat) (self : z8) (s : (List UInt8)) (x6 : DT3) (x7 : DT3) (k0 : Bool -> Option DT3) : Option DT3 :=
 cond (x7.2.2.2.2.1.1 == (0 : Int))
 ((z1m N s x7.2.2.2.1 (41 : Int)).bind fun y =>
 k0 (!y))
 (k0 false)

def z1i6 (N : Nat) (self : z8) (x : z1a zyf) (K : Ex -> List A -> Option DT3) : Option DT3 :=
 za6 N self x.1 x.2.1 x.2.2.1 (fun a3 => (K .normal (mkS [(0, .v .str), (5, .box TT2), (0, .box TT2), (38, .v .bool)] 57 (x.1, x.2.1, x.2.2.1, a3, ()))))

def z1f0 (N : Nat) (self : z8) : Hd DT3 := fun st K => (unS zyf 96 (restr [7, 0, 6] 0 st)).bind fun x => z1i6 N self x K

def t4_53 (N : Nat) (self : z8) : Tab DT3 := []

theorem z1bj {N : Nat} {self : z8} {c : Ctx} (hb : Base Tryd.prog (z19i N self) c) : zk Tryd.prog c (zf zg5 z1aa) (z1f0 N self) :=
  zj (s := zyf) (m := 96) (g := z1i6 N self) [7, 0, 6] (ze hb N (t4_53 N self) z1ah zg5 TabOk.nil z1aa _ rfl) (fun x K => by kernel_rfl)

def za7 (N : Nat) (self : z8) (s : (List UInt8)) (x6 : DT3) (x7 : DT3) (k0 : DT3 -> Option DT3) (k1 : Option DT3) : Option DT3 :=
 za6 N self s x6 x7
 (fun x46 => cond x46
 ((z13 N s x7.2.2.2.1).bind fun y =>
 k0 y)
 (k1))

def z1ih (N : Nat) (self : z8) (x : z1a zyf) (K : Ex -> List A -> Option DT3) : Option DT3 :=
 za7 N self x.1 x.2.1 x.2.2.1 (fun a0 => (K .ret (mkS [(6, .box TT2)] 97 (a0, ())))) (K .normal (mkS [(6, .box TT2), (0, .box TT2)] 96 (x.2.1, x.2.2.1, ())))

def z1fb (N : Nat) (self : z8) : Hd DT3 := fun st K => (unS zyf 96 (restr [7, 0, 6] 0 st)).bind fun x => z1ih N self x K

def t3_53 (N : Nat) (self : z8) : Tab DT3 := [(z1aa, z1f0 N self)]

theorem z1bu {N : Nat} {self : z8} {c : Ctx} (hb : Base Tryd.prog (z19i N self) c) : zk Tryd.prog c (zf zg5 z13k) (z1fb N self) :=
  zj (s := zyf) (m := 96) (g := z1ih N self) [7, 0, 6] (ze hb N (t3_53 N self) z1ah zg5 (TabOk.cons (z1bj hb) TabOk.nil) z13k _ rfl) (fun x K => by kernel_rfl)

def z73 (N : Nat) (self : z8) (s : (List UInt8)) (at_ : Int) (open_ : Int) : Option DT3 :=
 za9 N self s at_ open_ (((0 : Int), (([(0 : Int), (0 : Int), (0 : Int), (0 : Int)] : List Int), (([] : List Tree), ((0 : Int), ((0 : Int), ()))))), (([(0 : Int), (0 : Int), (0 : Int), (0 : Int)] : List Int), (false, ((0 : Int), (((0 : Int), ((0 : Int), ())), ())))))
 (fun x6 => some x6)
 (cond (inR at_ (List.length s))
 (cond ((((UInt8.toNat (List.getD s (Int.toNat at_) (0 : UInt8))) : Nat) : Int) == (40 : Int))
 (cond (open_ == (16 : Int))
 (some (((0 : Int), (([(0 : Int), (0 : Int), (0 : Int), (0 : Int)] : List Int), (([] : List Tree), ((0 : Int), ((0 : Int), ()))))), (([(0 : Int), (0 : Int), (0 : Int), (0 : Int)] : List Int), (false, ((0 : Int), (((3 : Int), (at_, ())), ()))))))
 ((self s (IntKind.wrap IntKind.i64 (at_ + (1 : Int))) (IntKind.wrap IntKind.i64 (open_ + (1 : Int)))).bind fun y =>
 za7 N self s (((0 : Int), (([(0 : Int), (0 : Int), (0 : Int), (0 : Int)] : List Int), (([] : List Tree), ((0 : Int), ((0 : Int), ()))))), (([(0 : Int), (0 : Int), (0 : Int), (0 : Int)] : List Int), (false, ((0 : Int), (((0 : Int), ((0 : Int), ())), ()))))) y
 (fun x61 => some x61)
 (some (y.1, (y.2.1, (y.2.2.1, ((IntKind.wrap IntKind.i64 (y.2.2.2.1 + (1 : Int))), y.2.2.2.2)))))))
 (cond (inR at_ (List.length s))
 (cond ((((UInt8.toNat (List.getD s (Int.toNat at_) (0 : UInt8))) : Nat) : Int) == (46 : Int))
 ((zq N (0 : Int) (255 : Int)).bind fun y1 =>
 some (((1 : Int), (y1, (([] : List Tree), ((0 : Int), ((0 : Int), ()))))), (([(0 : Int), (0 : Int), (0 : Int), (0 : Int)] : List Int), (false, ((IntKind.wrap IntKind.i64 (at_ + (1 : Int))), (((0 : Int), ((0 : Int), ())), ()))))))
 (cond (inR at_ (List.length s))
 (cond ((((UInt8.toNat (List.getD s (Int.toNat at_) (0 : UInt8))) : Nat) : Int) == (91 : Int))
 ((z64 N s (IntKind.wrap IntKind.i64 (at_ + (1 : Int)))).bind fun y2 =>
 some y2)
 (cond (inR at_ (List.length s))
 (cond ((((UInt8.toNat (List.getD s (Int.toNat at_) (0 : UInt8))) : Nat) : Int) == (92 : Int))
 ((z48 N s at_).bind fun y3 =>
 cond (y3.2.2.2.2.1.1 != (0 : Int))
 (some y3)
 (some (((1 : Int), (y3.2.1, (([] : List Tree), ((0 : Int), ((0 : Int), ()))))), (([(0 : Int), (0 : Int), (0 : Int), (0 : Int)] : List Int), (false, (y3.2.2.2.1, (((0 : Int), ((0 : Int), ())), ())))))))
 (cond (inR at_ (List.length s))
 (cond (inR at_ (List.length s))
 ((zq N (IntKind.wrap IntKind.i64 (((UInt8.toNat (List.getD s (Int.toNat at_) (0 : UInt8))) : Nat) : Int)) (IntKind.wrap IntKind.i64 (((UInt8.toNat (List.getD s (Int.toNat at_) (0 : UInt8))) : Nat) : Int))).bind fun y4 =>
 some (((1 : Int), (y4, (([] : List Tree), ((0 : Int), ((0 : Int), ()))))), (([(0 : Int), (0 : Int), (0 : Int), (0 : Int)] : List Int), (false, ((IntKind.wrap IntKind.i64 (at_ + (1 : Int))), (((0 : Int), ((0 : Int), ())), ()))))))
 (none))
 (none)))
 (none)))
 (none)))
 (none)))
 (none))

def t_53 (N : Nat) (self : z8) : Tab DT3 := [([0, 1], z1gw N self), (z13k, z1fb N self)]

theorem z16v (N : Nat) (self : z8) (x : z1a SQ5) : zas (z19i N self) N (t_53 N self) z1ah Tryd.f36 (mkS SQ5 0 x) (z6d (.v TT2) 3) = z73 N self x.1 x.2.1 x.2.2.1 := by kernel_rfl

def zco (N : Nat) (self : z8) : List A -> Res := z1b SQ5 (fun x => z73 N self x.1 x.2.1 x.2.2.1) (zb4 (.v TT2) 3)

theorem ziq (N : Nat) (self : z8) (hself : Contract Tryd.prog glob 21 (z1b SQ5 (fun x => self x.1 x.2.1 x.2.2.1) (zb4 (.v TT2) 3))) : Contract Tryd.prog glob 36 (zco N self) :=
  Contract.of (E := z19i N self) (H := t_53 N self) (L := z1ah) (N := N) (body := zg5) (K := (z6d (.v TT2) 3)) (z1mi N self hself) Tryd.func36 (by kernel_rfl) (by decide) (fun _ hb => (TabOk.cons (z1df hb) (TabOk.cons (z1bu hb) TabOk.nil))) (fun x y h => by rw [z16v]; exact h) (z1p (s := (.v TT2)) (m := 3))

def z18l : Code := (Tryd.f37.body).getD .skip

def L_54 : List (List Nat × List Nat) := [([0], [4, 1, 2, 3, 8]), ([0, 1], [8]), ([1, 1], [8])]

def E_54 (N : Nat) : Env := z27 tys glob [] [] [] [] false [] []

theorem z1mh (N : Nat) : EnvOk Tryd.prog (E_54 N) := zi mixed z16 (FnsOk.nil) (ItsOk.nil)

def zgw (N : Nat) (n : DT1) (low : Int) (high : Int) (at_ : Int) : Option DT3 :=
 some (((4 : Int), (([(0 : Int), (0 : Int), (0 : Int), (0 : Int)] : List Int), ((List.map foN ([n] : List DT7)), (low, (high, ()))))), (([(0 : Int), (0 : Int), (0 : Int), (0 : Int)] : List Int), (false, (at_, (((0 : Int), ((0 : Int), ())), ())))))

def t_54 (N : Nat) : Tab DT3 := []

theorem z16u (N : Nat) (x : z1a SQ68) : zas (E_54 N) N (t_54 N) L_54 Tryd.f37 (mkS SQ68 0 x) (z6d (.v TT2) 4) = zgw N x.1 x.2.1 x.2.2.1 x.2.2.2.1 := by kernel_rfl

def za0 (N : Nat) : List A -> Res := z1b SQ68 (fun x => zgw N x.1 x.2.1 x.2.2.1 x.2.2.2.1) (zb4 (.v TT2) 4)

theorem ze7 (N : Nat) : Contract Tryd.prog glob 37 (za0 N) :=
  Contract.of (E := E_54 N) (H := t_54 N) (L := L_54) (N := N) (body := z18l) (K := (z6d (.v TT2) 4)) (z1mh N) Tryd.func37 (by kernel_rfl) (by decide) (fun _ hb => TabOk.nil) (fun x y h => by rw [z16u]; exact h) (z1p (s := (.v TT2)) (m := 4))

def zbs : Code := (Tryd.f51.body).getD .skip

def z151 : List (List Nat × List Nat) := [([0], [1, 0, 5]), ([0, 1], [6, 0, 1, 5]), ([0, 1, 1], [6, 0, 7, 1, 5]), ([0, 0, 1, 1, 1], [6, 0, 7, 1, 5]), ([0, 0, 0, 0, 0, 1, 1, 1], [24, 7, 0, 6, 1, 5]), ([1, 0, 0, 0, 0, 1, 1, 1], [7, 0, 6, 1, 5]), ([1, 1, 0, 0, 0, 0, 1, 1, 1], [6, 1, 0, 5, 7]), ([0, 0, 0, 1, 0, 0, 0, 1, 1, 1], [26, 7, 0, 6, 1, 5]), ([1, 0, 0, 1, 0, 0, 0, 1, 1, 1], [6, 0, 7, 1, 5]), ([0, 1, 0, 0, 1, 0, 0, 0, 1, 1, 1], [6, 0, 7, 1, 5]), ([1, 0, 1, 0, 0, 0, 1, 1, 1], [6, 0, 7, 1, 5]), ([1, 0, 0, 0, 1, 1, 1], [6, 0, 7, 1, 5]), ([0, 1, 1, 1], [6, 1, 0, 5, 7]), ([0, 0, 1, 1, 1, 1], [39, 0, 1, 5, 6, 7]), ([1, 0, 1, 1, 1, 1], [0, 1, 6, 5, 7]), (z11x, [4, 5]), (z14y, [4, 5]), (zkf, [52, 1, 5, 7, 6]), (zyg, [7, 1, 5, 6]), (z19c, [4, 5]), (PQ92, [4, 5]), (zyh, [56, 1, 5, 7, 6]), (z19b, [7, 6, 5]), (z1li, [4, 5]), (z1lh, [4, 5]), (z11y, [4, 5]), (z13l, [4, 5])]

def z13o (N : Nat) : Env := z27 tys glob [(22, z2z N), (31, z2s N)] [] [] [] false [] []

theorem z1mg (N : Nat) : EnvOk Tryd.prog (z13o N) := zi mixed z16 (FnsOk.cons (z4c N) (FnsOk.cons (z49 N) (FnsOk.nil))) (ItsOk.nil)

def z57 (N : Nat) (s : (List UInt8)) (at_ : Int) (x5 : DT3) (k : Int) (n : Int) (k0 : Option (Int × DT3 × Unit)) (k1 : Option (Int × DT3 × Unit)) : Option (Int × DT3 × Unit) :=
 cond (decide (k < (((List.length s) : Nat) : Int)))
 (cond (inR k (List.length s))
 (cond (decide ((48 : Int) <= (((UInt8.toNat (List.getD s (Int.toNat k) (0 : UInt8))) : Nat) : Int)))
 (cond (inR k (List.length s))
 (cond (decide ((((UInt8.toNat (List.getD s (Int.toNat k) (0 : UInt8))) : Nat) : Int) <= (57 : Int)))
 (k0)
 (k1))
 (none))
 (k1))
 (none))
 (k1)

def z1ig (N : Nat) (x : z1a SQ2) (K : Ex -> List A -> Option (Int × DT3 × Unit)) : Option (Int × DT3 × Unit) :=
 z57 N x.1 x.2.1 x.2.2.1 x.2.2.2.1 x.2.2.2.2.1 (K .normal (mkS SQ2 54 (x.1, x.2.1, x.2.2.1, x.2.2.2.1, x.2.2.2.2.1, ()))) (K (.exit 0) (mkS SQ2 54 (x.1, x.2.1, x.2.2.1, x.2.2.2.1, x.2.2.2.2.1, ())))

def z1fa (N : Nat) : Hd (Int × DT3 × Unit) := fun st K => (unS SQ2 54 (restr [6, 0, 7, 1, 5] 0 st)).bind fun x => z1ig N x K

def t3_55 (N : Nat) : Tab (Int × DT3 × Unit) := []

theorem z1bt {N : Nat} {c : Ctx} (hb : Base Tryd.prog (z13o N) c) : zk Tryd.prog c (zf zbs [0, 0, 0, 0, 1, 1, 1]) (z1fa N) :=
  zj (s := SQ2) (m := 54) (g := z1ig N) [6, 0, 7, 1, 5] (ze hb N (t3_55 N) z151 zbs TabOk.nil [0, 0, 0, 0, 1, 1, 1] _ rfl) (fun x K => by kernel_rfl)

def z7y (N : Nat) (s : (List UInt8)) (at_ : Int) (x5 : DT3) (k : Int) (n : Int) (k0 : Int -> Option (Int × DT3 × Unit)) : Option (Int × DT3 × Unit) :=
 cond (decide (n < (1000 : Int)))
 (cond (inR k (List.length s))
 (k0 (IntKind.wrap IntKind.i64 ((IntKind.wrap IntKind.i64 ((IntKind.wrap IntKind.i64 ((10 : Int) * n)) + (IntKind.wrap IntKind.i64 (((UInt8.toNat (List.getD s (Int.toNat k) (0 : UInt8))) : Nat) : Int)))) - (48 : Int))))
 (none))
 (k0 n)

def z1i5 (N : Nat) (x : z1a SQ2) (K : Ex -> List A -> Option (Int × DT3 × Unit)) : Option (Int × DT3 × Unit) :=
 z7y N x.1 x.2.1 x.2.2.1 x.2.2.2.1 x.2.2.2.2.1 (fun a4 => (K .normal (mkS SQ2 54 (x.1, x.2.1, x.2.2.1, x.2.2.2.1, a4, ()))))

def z1ez (N : Nat) : Hd (Int × DT3 × Unit) := fun st K => (unS SQ2 54 (restr [7, 0, 6, 1, 5] 0 st)).bind fun x => z1i5 N x K

def t4_55 (N : Nat) : Tab (Int × DT3 × Unit) := []

theorem z1bi {N : Nat} {c : Ctx} (hb : Base Tryd.prog (z13o N) c) : zk Tryd.prog c (zf zbs [0, 0, 1, 0, 0, 0, 1, 1, 1]) (z1ez N) :=
  zj (s := SQ2) (m := 54) (g := z1i5 N) [7, 0, 6, 1, 5] (ze hb N (t4_55 N) z151 zbs TabOk.nil [0, 0, 1, 0, 0, 0, 1, 1, 1] _ rfl) (fun x K => by kernel_rfl)

def z30 (N : Nat) (s : (List UInt8)) (at_ : Int) (x5 : DT3) (k : Int) (n : Int) (rec : Int -> Int -> Option (Int × DT3 × Unit)) (k0 : Int -> Int -> Option (Int × DT3 × Unit)) : Option (Int × DT3 × Unit) :=
 z57 N s at_ x5 k n
 (z7y N s at_ x5 k n
 (fun n1 => rec (IntKind.wrap IntKind.i64 (k + (1 : Int))) n1))
 (k0 k n)

def zc3 (N : Nat) (s : (List UInt8)) (at_ : Int) (x5 : DT3) (k : Int) (n : Int) (k0 : Int -> Int -> Option (Int × DT3 × Unit)) : Option (Int × DT3 × Unit) :=
 iter (fun (v : (Int × Int)) r => z30 N s at_ x5 v.1 v.2 (fun k n => (r (k, n))) k0) N (k, n)

def z1j1 (N : Nat) (i : ((List UInt8) × Int × DT3)) (v : (Int × Int)) (r : (Int × Int) -> Option (Int × DT3 × Unit)) (K : Ex -> List A -> Option (Int × DT3 × Unit)) : Option (Int × DT3 × Unit) :=
 z30 N i.1 i.2.1 i.2.2 v.1 v.2 (fun k n => (r (k, n))) (fun a3 a4 => (K (.exit 0) (mkS SQ2 54 (i.1, i.2.1, i.2.2, a3, a4, ()))))

def z1fv (N : Nat) : Hd (Int × DT3 × Unit) := fun st K => (unS SQ2 54 (restr [6, 0, 7, 1, 5] 0 st)).bind fun x => iter (fun v r => z1j1 N ((fun x => (x.1, x.2.1, x.2.2.1)) x) v r K) N ((fun x => (x.2.2.2.1, x.2.2.2.2.1)) x)

def t2_55 (N : Nat) : Tab (Int × DT3 × Unit) := [([0, 0, 0, 0, 1, 1, 1], z1fa N), ([0, 0, 1, 0, 0, 0, 1, 1, 1], z1ez N)]

theorem z1ce {N : Nat} {c : Ctx} (hb : Base Tryd.prog (z13o N) c) : zk Tryd.prog c (zf zbs [0, 0, 1, 1, 1]) (z1fv N) :=
  z4k (s := SQ2) (m := 54) (z1j1 N) [6, 0, 7, 1, 5] N (fun x => (x.1, x.2.1, x.2.2.1)) (fun x => (x.2.2.2.1, x.2.2.2.2.1)) (fun i v => (i.1, i.2.1, i.2.2, v.1, v.2, ())) (fun _ => rfl) (ze hb N (t2_55 N) z151 zbs (TabOk.cons (z1bt hb) (TabOk.cons (z1bi hb) TabOk.nil)) [0, 0, 0, 1, 1, 1] _ rfl) (fun i v r K => by kernel_rfl)

def z7z (N : Nat) (s : (List UInt8)) (at_ : Int) (x5 : DT3) (k : Int) (n : Int) (k0 : Int -> Int -> Option (Int × DT3 × Unit)) : Option (Int × DT3 × Unit) :=
 zc3 N s at_ x5 k n
 (fun k1 n1 => k0 k1 n1)

def z1k1 (N : Nat) (x : z1a SQ2) (K : Ex -> List A -> Option (Int × DT3 × Unit)) : Option (Int × DT3 × Unit) :=
 z7z N x.1 x.2.1 x.2.2.1 x.2.2.2.1 x.2.2.2.2.1 (fun a3 a4 => (K .normal (mkS SQ2 54 (x.1, x.2.1, x.2.2.1, a3, a4, ()))))

def z1gv (N : Nat) : Hd (Int × DT3 × Unit) := fun st K => (unS SQ2 54 (restr [6, 0, 7, 1, 5] 0 st)).bind fun x => z1k1 N x K

def t1_55 (N : Nat) : Tab (Int × DT3 × Unit) := [([0, 0, 1, 1, 1], z1fv N)]

theorem z1de {N : Nat} {c : Ctx} (hb : Base Tryd.prog (z13o N) c) : zk Tryd.prog c (zf zbs [0, 1, 1, 1]) (z1gv N) :=
  zj (s := SQ2) (m := 54) (g := z1k1 N) [6, 0, 7, 1, 5] (ze hb N (t1_55 N) z151 zbs (TabOk.cons (z1ce hb) TabOk.nil) [0, 1, 1, 1] _ rfl) (fun x K => by kernel_rfl)

def z7x (N : Nat) (s : (List UInt8)) (at_ : Int) (x5 : DT3) (k : Int) (n : Int) (k0 : Bool -> Option (Int × DT3 × Unit)) : Option (Int × DT3 × Unit) :=
 cond (inR at_ (List.length s))
 (cond ((((UInt8.toNat (List.getD s (Int.toNat at_) (0 : UInt8))) : Nat) : Int) == (48 : Int))
 (k0 (decide ((IntKind.wrap IntKind.i64 (at_ + (1 : Int))) < k)))
 (k0 false))
 (none)

def z1hw (N : Nat) (x : z1a SQ2) (K : Ex -> List A -> Option (Int × DT3 × Unit)) : Option (Int × DT3 × Unit) :=
 z7x N x.1 x.2.1 x.2.2.1 x.2.2.2.1 x.2.2.2.2.1 (fun a4 => (K .normal (mkS [(1, .v (.int .i64)), (3, .box TT2), (0, .v (.int .i64)), (0, .v (.int .i64)), (44, .v .bool)] 9 (x.2.1, x.2.2.1, x.2.2.2.1, x.2.2.2.2.1, a4, ()))))

def z1eq (N : Nat) : Hd (Int × DT3 × Unit) := fun st K => (unS SQ2 54 (restr [0, 1, 6, 5, 7] 0 st)).bind fun x => z1hw N x K

def t6_55 (N : Nat) : Tab (Int × DT3 × Unit) := []

theorem z1b9 {N : Nat} {c : Ctx} (hb : Base Tryd.prog (z13o N) c) : zk Tryd.prog c (zf zbs zkf) (z1eq N) :=
  zj (s := SQ2) (m := 54) (g := z1hw N) [0, 1, 6, 5, 7] (ze hb N (t6_55 N) z151 zbs TabOk.nil zkf _ rfl) (fun x K => by kernel_rfl)

def z56 (N : Nat) (s : (List UInt8)) (at_ : Int) (x5 : DT3) (k : Int) (n : Int) (k0 : Int -> DT3 -> Option (Int × DT3 × Unit)) (k1 : Option (Int × DT3 × Unit)) : Option (Int × DT3 × Unit) :=
 z7x N s at_ x5 k n
 (fun x52 => cond x52
 (k0 (0 : Int) (((0 : Int), (([(0 : Int), (0 : Int), (0 : Int), (0 : Int)] : List Int), (([] : List Tree), ((0 : Int), ((0 : Int), ()))))), (([(0 : Int), (0 : Int), (0 : Int), (0 : Int)] : List Int), (false, ((0 : Int), (((2 : Int), (at_, ())), ()))))))
 (k1))

def z1i0 (N : Nat) (x : z1a SQ2) (K : Ex -> List A -> Option (Int × DT3 × Unit)) : Option (Int × DT3 × Unit) :=
 z56 N x.1 x.2.1 x.2.2.1 x.2.2.2.1 x.2.2.2.2.1 (fun a0 a1 => (K .ret (mkS [(4, .v (.int .i64)), (0, .box TT2)] 56 (a0, a1, ())))) (K .normal (mkS [(1, .v (.int .i64)), (3, .box TT2), (0, .v (.int .i64)), (0, .v (.int .i64))] 54 (x.2.1, x.2.2.1, x.2.2.2.1, x.2.2.2.2.1, ())))

def z1eu (N : Nat) : Hd (Int × DT3 × Unit) := fun st K => (unS SQ2 54 (restr [0, 1, 6, 5, 7] 0 st)).bind fun x => z1i0 N x K

def t5_55 (N : Nat) : Tab (Int × DT3 × Unit) := [(zkf, z1eq N)]

theorem z1bd {N : Nat} {c : Ctx} (hb : Base Tryd.prog (z13o N) c) : zk Tryd.prog c (zf zbs [0, 1, 1, 1, 1, 1]) (z1eu N) :=
  zj (s := SQ2) (m := 54) (g := z1i0 N) [0, 1, 6, 5, 7] (ze hb N (t5_55 N) z151 zbs (TabOk.cons (z1b9 hb) TabOk.nil) [0, 1, 1, 1, 1, 1] _ rfl) (fun x K => by kernel_rfl)

def z46 (N : Nat) (s : (List UInt8)) (at_ : Int) : Option (Int × DT3 × Unit) :=
 z7z N s at_ (((0 : Int), (([(0 : Int), (0 : Int), (0 : Int), (0 : Int)] : List Int), (([] : List Tree), ((0 : Int), ((0 : Int), ()))))), (([(0 : Int), (0 : Int), (0 : Int), (0 : Int)] : List Int), (false, ((0 : Int), (((0 : Int), ((0 : Int), ())), ()))))) at_ (0 : Int)
 (fun k n => cond (k == at_)
 ((z13 N s at_).bind fun y =>
 some ((0 : Int), (y, ())))
 (z56 N s at_ (((0 : Int), (([(0 : Int), (0 : Int), (0 : Int), (0 : Int)] : List Int), (([] : List Tree), ((0 : Int), ((0 : Int), ()))))), (([(0 : Int), (0 : Int), (0 : Int), (0 : Int)] : List Int), (false, ((0 : Int), (((0 : Int), ((0 : Int), ())), ()))))) k n
 (fun x4 x5 => some (x4, (x5, ())))
 (cond (decide ((16 : Int) < n))
 (some ((0 : Int), ((((0 : Int), (([(0 : Int), (0 : Int), (0 : Int), (0 : Int)] : List Int), (([] : List Tree), ((0 : Int), ((0 : Int), ()))))), (([(0 : Int), (0 : Int), (0 : Int), (0 : Int)] : List Int), (false, ((0 : Int), (((3 : Int), (at_, ())), ()))))), ())))
 (some (n, ((((0 : Int), (([(0 : Int), (0 : Int), (0 : Int), (0 : Int)] : List Int), (([] : List Tree), ((0 : Int), ((0 : Int), ()))))), (([(0 : Int), (0 : Int), (0 : Int), (0 : Int)] : List Int), (false, (k, (((0 : Int), ((0 : Int), ())), ()))))), ()))))))

def t_55 (N : Nat) : Tab (Int × DT3 × Unit) := [([0, 1, 1, 1], z1gv N), ([0, 1, 1, 1, 1, 1], z1eu N)]

theorem z16t (N : Nat) (x : z1a zr6) : zas (z13o N) N (t_55 N) z151 Tryd.f51 (mkS zr6 0 x) (z6d (.tup [(.int .i64), TT2]) 2) = z46 N x.1 x.2.1 := by kernel_rfl

def zba (N : Nat) : List A -> Res := z1b zr6 (fun x => z46 N x.1 x.2.1) (zb4 (.tup [(.int .i64), TT2]) 2)

theorem zgx (N : Nat) : Contract Tryd.prog glob 51 (zba N) :=
  Contract.of (E := z13o N) (H := t_55 N) (L := z151) (N := N) (body := zbs) (K := (z6d (.tup [(.int .i64), TT2]) 2)) (z1mg N) Tryd.func51 (by kernel_rfl) (by decide) (fun _ hb => (TabOk.cons (z1de hb) (TabOk.cons (z1bd hb) TabOk.nil))) (fun x y h => by rw [z16t]; exact h) (z1p (s := (.tup [(.int .i64), TT2])) (m := 2))

def ze0 : Code := (Tryd.f38.body).getD .skip

def z19g : List (List Nat × List Nat) := [([0], [0, 2, 6, 4]), ([0, 1], [8, 6, 7, 2, 0, 4]), ([0, 0, 1, 1], [21, 8, 6, 7, 2, 0, 4]), ([1, 0, 1, 1], [7, 2, 0, 8, 4, 6]), ([0, 0, 1, 0, 1, 1], [6]), ([1, 0, 1, 0, 1, 1], [6]), ([0, 1, 1, 1], [0, 8, 4, 7, 6, 9, 10]), ([0, 0, 1, 1, 1, 1], [36, 4, 7, 8, 6, 0, 9, 10]), ([1, 0, 1, 1, 1, 1], [0, 8, 6, 7, 4, 9, 10]), (z11x, [6]), (z14y, [6]), (zkf, [46, 8, 0, 6, 7, 4, 9, 10]), (zyg, zyi), (z19c, [0, 10, 8, 6, 7, 4]), ([0, 1, 0, 1, 0, 1, 1, 1, 1, 1], [8, 6, 9, 7, 10, 0, 4]), ([0, 1, 1, 0, 1, 0, 1, 1, 1, 1, 1], [59, 8, 6, 9, 7, 10, 0, 4]), ([1, 1, 1, 0, 1, 0, 1, 1, 1, 1, 1], zyi), ([0, 0, 1, 1, 1, 0, 1, 0, 1, 1, 1, 1, 1], [6]), ([1, 0, 1, 1, 1, 0, 1, 0, 1, 1, 1, 1, 1], [6]), (zyh, [67, 10, 6, 0, 8, 4, 7, 9]), (z19b, [0, 8, 6, 4, 7, 9]), (z1li, [6]), (z1lh, [6]), (z1lg, [74, 0, 8, 6, 4, 7, 9]), ([1, 0, 1, 1, 1, 1, 1, 1, 1], [4, 7, 9, 8, 6]), ([0, 0, 1, 0, 1, 1, 1, 1, 1, 1, 1], [6]), ([1, 0, 1, 0, 1, 1, 1, 1, 1, 1, 1], [6]), (z1lf, [6]), ([1, 1, 1, 1, 1, 1, 1, 1, 1], [6])]

def z153 (N : Nat) : Env := z27 tys glob [(51, zba N), (37, za0 N), (29, z47 N), (22, z2z N), (31, z2s N)] [] [] [] false [] []

theorem z1mf (N : Nat) : EnvOk Tryd.prog (z153 N) := zi mixed z16 (FnsOk.cons (zgx N) (FnsOk.cons (ze7 N) (FnsOk.cons (z62 N) (FnsOk.cons (z4c N) (FnsOk.cons (z49 N) (FnsOk.nil)))))) (ItsOk.nil)

def z82 (N : Nat) (s : (List UInt8)) (n : DT1) (x6 : DT3) (low : Int) (x8 : DT3) (high : Int) (from_ : Int) (k0 : Bool -> Option DT3) : Option DT3 :=
 (z1m N s x8.2.2.2.1 (44 : Int)).bind fun y =>
 cond y
 ((z1m N s (IntKind.wrap IntKind.i64 (x8.2.2.2.1 + (1 : Int))) (125 : Int)).bind fun y1 =>
 k0 y1)
 (k0 false)

def z1j0 (N : Nat) (x : z1a SQ1) (K : Ex -> List A -> Option DT3) : Option DT3 :=
 z82 N x.1 x.2.1 x.2.2.1 x.2.2.2.1 x.2.2.2.2.1 x.2.2.2.2.2.1 x.2.2.2.2.2.2.1 (fun a7 => (K .normal (mkS [(0, .v .str), (3, .box TT0), (1, .box TT2), (0, .v (.int .i64)), (0, .box TT2), (0, .v (.int .i64)), (0, .v (.int .i64)), (25, .v .bool)] 49 (x.1, x.2.1, x.2.2.1, x.2.2.2.1, x.2.2.2.2.1, x.2.2.2.2.2.1, x.2.2.2.2.2.2.1, a7, ()))))

def z1fu (N : Nat) : Hd DT3 := fun st K => (unS SQ1 75 (restr [0, 8, 4, 7, 6, 9, 10] 0 st)).bind fun x => z1j0 N x K

def t2_56 (N : Nat) : Tab DT3 := []

theorem z1cd {N : Nat} {c : Ctx} (hb : Base Tryd.prog (z153 N) c) : zk Tryd.prog c (zf ze0 [0, 0, 1, 1, 1, 1]) (z1fu N) :=
  zj (s := SQ1) (m := 75) (g := z1j0 N) [0, 8, 4, 7, 6, 9, 10] (ze hb N (t2_56 N) z19g ze0 TabOk.nil [0, 0, 1, 1, 1, 1] _ rfl) (fun x K => by kernel_rfl)

def z83 (N : Nat) (s : (List UInt8)) (n : DT1) (x6 : DT3) (low : Int) (x8 : DT3) (high : Int) (from_ : Int) (k0 : DT3 -> Option DT3) (k1 : Option DT3) : Option DT3 :=
 z82 N s n x6 low x8 high from_
 (fun x36 => cond x36
 (k0 (((4 : Int), (([(0 : Int), (0 : Int), (0 : Int), (0 : Int)] : List Int), ((List.map foN ([n] : List DT7)), (low, ((-(1 : Int)), ()))))), (([(0 : Int), (0 : Int), (0 : Int), (0 : Int)] : List Int), (false, ((IntKind.wrap IntKind.i64 (x8.2.2.2.1 + (2 : Int))), (((0 : Int), ((0 : Int), ())), ()))))))
 (k1))

def z1k0 (N : Nat) (x : z1a SQ1) (K : Ex -> List A -> Option DT3) : Option DT3 :=
 z83 N x.1 x.2.1 x.2.2.1 x.2.2.2.1 x.2.2.2.2.1 x.2.2.2.2.2.1 x.2.2.2.2.2.2.1 (fun a0 => (K .ret (mkS [(6, .box TT2)] 79 (a0, ())))) (K .normal (mkS SQ1 75 (x.1, x.2.1, x.2.2.1, x.2.2.2.1, x.2.2.2.2.1, x.2.2.2.2.2.1, x.2.2.2.2.2.2.1, ())))

def z1gu (N : Nat) : Hd DT3 := fun st K => (unS SQ1 75 (restr [0, 8, 4, 7, 6, 9, 10] 0 st)).bind fun x => z1k0 N x K

def t1_56 (N : Nat) : Tab DT3 := [([0, 0, 1, 1, 1, 1], z1fu N)]

theorem z1dd {N : Nat} {c : Ctx} (hb : Base Tryd.prog (z153 N) c) : zk Tryd.prog c (zf ze0 [0, 1, 1, 1, 1]) (z1gu N) :=
  zj (s := SQ1) (m := 75) (g := z1k0 N) [0, 8, 4, 7, 6, 9, 10] (ze hb N (t1_56 N) z19g ze0 (TabOk.cons (z1cd hb) TabOk.nil) [0, 1, 1, 1, 1] _ rfl) (fun x K => by kernel_rfl)

def z81 (N : Nat) (s : (List UInt8)) (n : DT1) (x6 : DT3) (low : Int) (x8 : DT3) (high : Int) (from_ : Int) (k0 : DT3 -> Option DT3) (k1 : DT3 -> Int -> Int -> Option DT3) : Option DT3 :=
 (z1m N s x8.2.2.2.1 (44 : Int)).bind fun y =>
 cond y
 ((z46 N s (IntKind.wrap IntKind.i64 (x8.2.2.2.1 + (1 : Int)))).bind fun y1 =>
 cond (y1.2.1.2.2.2.2.1.1 != (0 : Int))
 (k0 y1.2.1)
 (k1 y1.2.1 y1.1 (IntKind.wrap IntKind.i64 (x8.2.2.2.1 + (1 : Int)))))
 (k1 x8 high from_)

def z1if (N : Nat) (x : z1a SQ1) (K : Ex -> List A -> Option DT3) : Option DT3 :=
 z81 N x.1 x.2.1 x.2.2.1 x.2.2.2.1 x.2.2.2.2.1 x.2.2.2.2.2.1 x.2.2.2.2.2.2.1 (fun a0 => (K .ret (mkS [(6, .box TT2)] 79 (a0, ())))) (fun a4 a5 a6 => (K .normal (mkS SQ1 75 (x.1, x.2.1, x.2.2.1, x.2.2.2.1, a4, a5, a6, ()))))

def z1f9 (N : Nat) : Hd DT3 := fun st K => (unS SQ1 75 (restr [0, 8, 6, 7, 4, 9, 10] 0 st)).bind fun x => z1if N x K

def t3_56 (N : Nat) : Tab DT3 := []

theorem z1bs {N : Nat} {c : Ctx} (hb : Base Tryd.prog (z153 N) c) : zk Tryd.prog c (zf ze0 [0, 1, 1, 1, 1, 1]) (z1f9 N) :=
  zj (s := SQ1) (m := 75) (g := z1if N) [0, 8, 6, 7, 4, 9, 10] (ze hb N (t3_56 N) z19g ze0 TabOk.nil [0, 1, 1, 1, 1, 1] _ rfl) (fun x K => by kernel_rfl)

def z80 (N : Nat) (s : (List UInt8)) (n : DT1) (x6 : DT3) (low : Int) (x8 : DT3) (high : Int) (from_ : Int) (k0 : Bool -> Option DT3) : Option DT3 :=
 cond (high == (0 : Int))
 (k0 true)
 (k0 (decide (high < low)))

def z1hz (N : Nat) (x : z1a SQ1) (K : Ex -> List A -> Option DT3) : Option DT3 :=
 z80 N x.1 x.2.1 x.2.2.1 x.2.2.2.1 x.2.2.2.2.1 x.2.2.2.2.2.1 x.2.2.2.2.2.2.1 (fun a7 => (K .normal (mkS [(0, .v .str), (3, .box TT0), (1, .box TT2), (0, .v (.int .i64)), (0, .box TT2), (0, .v (.int .i64)), (0, .v (.int .i64)), (56, .v .bool)] 18 (x.1, x.2.1, x.2.2.1, x.2.2.2.1, x.2.2.2.2.1, x.2.2.2.2.2.1, x.2.2.2.2.2.2.1, a7, ()))))

def z1et (N : Nat) : Hd DT3 := fun st K => (unS SQ1 75 (restr zyi 0 st)).bind fun x => z1hz N x K

def t5_56 (N : Nat) : Tab DT3 := []

theorem z1bc {N : Nat} {c : Ctx} (hb : Base Tryd.prog (z153 N) c) : zk Tryd.prog c (zf ze0 zyh) (z1et N) :=
  zj (s := SQ1) (m := 75) (g := z1hz N) zyi (ze hb N (t5_56 N) z19g ze0 TabOk.nil zyh _ rfl) (fun x K => by kernel_rfl)

def z5a (N : Nat) (s : (List UInt8)) (n : DT1) (x6 : DT3) (low : Int) (x8 : DT3) (high : Int) (from_ : Int) (k0 : DT3 -> Option DT3) (k1 : Option DT3) : Option DT3 :=
 z80 N s n x6 low x8 high from_
 (fun x67 => cond x67
 (k0 (((0 : Int), (([(0 : Int), (0 : Int), (0 : Int), (0 : Int)] : List Int), (([] : List Tree), ((0 : Int), ((0 : Int), ()))))), (([(0 : Int), (0 : Int), (0 : Int), (0 : Int)] : List Int), (false, ((0 : Int), (((2 : Int), (from_, ())), ()))))))
 (k1))

def z1i4 (N : Nat) (x : z1a SQ1) (K : Ex -> List A -> Option DT3) : Option DT3 :=
 z5a N x.1 x.2.1 x.2.2.1 x.2.2.2.1 x.2.2.2.2.1 x.2.2.2.2.2.1 x.2.2.2.2.2.2.1 (fun a0 => (K .ret (mkS [(6, .box TT2)] 79 (a0, ())))) (K .normal (mkS [(0, .v .str), (3, .box TT0), (1, .box TT2), (0, .v (.int .i64)), (0, .box TT2), (0, .v (.int .i64))] 76 (x.1, x.2.1, x.2.2.1, x.2.2.2.1, x.2.2.2.2.1, x.2.2.2.2.2.1, ())))

def z1ey (N : Nat) : Hd DT3 := fun st K => (unS SQ1 75 (restr zyi 0 st)).bind fun x => z1i4 N x K

def t4_56 (N : Nat) : Tab DT3 := [(zyh, z1et N)]

theorem z1bh {N : Nat} {c : Ctx} (hb : Base Tryd.prog (z153 N) c) : zk Tryd.prog c (zf ze0 zr7) (z1ey N) :=
  zj (s := SQ1) (m := 75) (g := z1i4 N) zyi (ze hb N (t4_56 N) z19g ze0 (TabOk.cons (z1bc hb) TabOk.nil) zr7 _ rfl) (fun x K => by kernel_rfl)

def z5b (N : Nat) (s : (List UInt8)) (n : DT1) (at_ : Int) : Option DT3 :=
 (z46 N s (IntKind.wrap IntKind.i64 (at_ + (1 : Int)))).bind fun y =>
 cond (y.2.1.2.2.2.2.1.1 != (0 : Int))
 (some y.2.1)
 (z83 N s n (((0 : Int), (([(0 : Int), (0 : Int), (0 : Int), (0 : Int)] : List Int), (([] : List Tree), ((0 : Int), ((0 : Int), ()))))), (([(0 : Int), (0 : Int), (0 : Int), (0 : Int)] : List Int), (false, ((0 : Int), (((0 : Int), ((0 : Int), ())), ()))))) y.1 y.2.1 y.1 (IntKind.wrap IntKind.i64 (at_ + (1 : Int)))
 (fun x6 => some x6)
 (z81 N s n (((0 : Int), (([(0 : Int), (0 : Int), (0 : Int), (0 : Int)] : List Int), (([] : List Tree), ((0 : Int), ((0 : Int), ()))))), (([(0 : Int), (0 : Int), (0 : Int), (0 : Int)] : List Int), (false, ((0 : Int), (((0 : Int), ((0 : Int), ())), ()))))) y.1 y.2.1 y.1 (IntKind.wrap IntKind.i64 (at_ + (1 : Int)))
 (fun x61 => some x61)
 (fun x8 high from_ => z5a N s n (((0 : Int), (([(0 : Int), (0 : Int), (0 : Int), (0 : Int)] : List Int), (([] : List Tree), ((0 : Int), ((0 : Int), ()))))), (([(0 : Int), (0 : Int), (0 : Int), (0 : Int)] : List Int), (false, ((0 : Int), (((0 : Int), ((0 : Int), ())), ()))))) y.1 x8 high from_
 (fun x62 => some x62)
 ((z1m N s x8.2.2.2.1 (125 : Int)).bind fun y1 =>
 cond (!y1)
 ((z13 N s x8.2.2.2.1).bind fun y2 =>
 some y2)
 (some (((4 : Int), (([(0 : Int), (0 : Int), (0 : Int), (0 : Int)] : List Int), ((List.map foN ([n] : List DT7)), (y.1, (high, ()))))), (([(0 : Int), (0 : Int), (0 : Int), (0 : Int)] : List Int), (false, ((IntKind.wrap IntKind.i64 (x8.2.2.2.1 + (1 : Int))), (((0 : Int), ((0 : Int), ())), ()))))))))))

def t_56 (N : Nat) : Tab DT3 := [([0, 1, 1, 1, 1], z1gu N), ([0, 1, 1, 1, 1, 1], z1f9 N), (zr7, z1ey N)]

theorem z16s (N : Nat) (x : z1a z19a) : zas (z153 N) N (t_56 N) z19g Tryd.f38 (mkS z19a 0 x) (z6d (.v TT2) 3) = z5b N x.1 x.2.1 x.2.2.1 := by kernel_rfl

def zbb (N : Nat) : List A -> Res := z1b z19a (fun x => z5b N x.1 x.2.1 x.2.2.1) (zb4 (.v TT2) 3)

theorem zgy (N : Nat) : Contract Tryd.prog glob 38 (zbb N) :=
  Contract.of (E := z153 N) (H := t_56 N) (L := z19g) (N := N) (body := ze0) (K := (z6d (.v TT2) 3)) (z1mf N) Tryd.func38 (by kernel_rfl) (by decide) (fun _ hb => (TabOk.cons (z1dd hb) (TabOk.cons (z1bs hb) (TabOk.cons (z1bh hb) TabOk.nil)))) (fun x y h => by rw [z16s]; exact h) (z1p (s := (.v TT2)) (m := 3))

def znt : Code := (Tryd.f33.body).getD .skip

def L_57 : List (List Nat × List Nat) := [([0], [0, 1, 2, 6]), ([0, 1], [7, 0, 6]), ([0, 0, 1, 1], [23, 7, 6, 0]), ([1, 0, 1, 1], [0, 7, 6]), ([0, 0, 1, 0, 1, 1], [6]), ([1, 0, 1, 0, 1, 1], [6]), ([0, 1, 1, 1], [8, 7, 6, 0]), ([0, 0, 1, 1, 1, 1], [30, 7, 6, 8, 0]), ([1, 0, 1, 1, 1, 1], [8, 7, 6, 0]), (z11x, [6]), (z14y, [6]), (zkf, [38, 7, 6, 8, 0]), (zyg, [8, 7, 6, 0]), (z19c, [6]), (PQ92, [6]), (zyh, [46, 7, 6, 8, 0]), (z19b, [8, 0, 7, 6]), (z1li, [6]), (z1lh, [6]), (z1lg, [54, 0, 7, 6]), ([1, 0, 1, 1, 1, 1, 1, 1, 1], [7, 6]), ([0, 0, 1, 0, 1, 1, 1, 1, 1, 1, 1], [6]), ([1, 0, 1, 0, 1, 1, 1, 1, 1, 1, 1], [6]), (z1lf, [6]), ([1, 1, 1, 1, 1, 1, 1, 1, 1], [6])]

def z1nv (N : Nat) (self : z8) : Env := z27 tys glob [(38, zbb N), (37, za0 N), (36, zco N self), (21, z1b SQ5 (fun x => self x.1 x.2.1 x.2.2.1) (zb4 (.v TT2) 3))] [] [] [] false [] []

theorem z1me (N : Nat) (self : z8) (hself : Contract Tryd.prog glob 21 (z1b SQ5 (fun x => self x.1 x.2.1 x.2.2.1) (zb4 (.v TT2) 3))) : EnvOk Tryd.prog (z1nv N self) := zi mixed z16 (FnsOk.cons (zgy N) (FnsOk.cons (ze7 N) (FnsOk.cons (ziq N self hself) (FnsOk.cons (hself) (FnsOk.nil))))) (ItsOk.nil)

def z92 (N : Nat) (self : z8) (s : (List UInt8)) (x6 : DT3) (x7 : DT3) (k0 : Bool -> Option DT3) : Option DT3 :=
 cond (x7.2.2.2.2.1.1 != (0 : Int))
 (k0 true)
 (k0 (decide ((((List.length s) : Nat) : Int) <= x7.2.2.2.1)))

def z1iz (N : Nat) (self : z8) (x : z1a zyf) (K : Ex -> List A -> Option DT3) : Option DT3 :=
 z92 N self x.1 x.2.1 x.2.2.1 (fun a3 => (K .normal (mkS [(0, .v .str), (5, .box TT2), (0, .box TT2), (15, .v .bool)] 38 (x.1, x.2.1, x.2.2.1, a3, ()))))

def z1ft (N : Nat) (self : z8) : Hd DT3 := fun st K => (unS zyf 54 (restr [7, 0, 6] 0 st)).bind fun x => z1iz N self x K

def t2_57 (N : Nat) (self : z8) : Tab DT3 := []

theorem z1cc {N : Nat} {self : z8} {c : Ctx} (hb : Base Tryd.prog (z1nv N self) c) : zk Tryd.prog c (zf znt [0, 0, 1, 1]) (z1ft N self) :=
  zj (s := zyf) (m := 54) (g := z1iz N self) [7, 0, 6] (ze hb N (t2_57 N self) L_57 znt TabOk.nil [0, 0, 1, 1] _ rfl) (fun x K => by kernel_rfl)

def z93 (N : Nat) (self : z8) (s : (List UInt8)) (x6 : DT3) (x7 : DT3) (k0 : Option DT3) (k1 : Option DT3) : Option DT3 :=
 z92 N self s x6 x7
 (fun x23 => cond x23
 (k0)
 (k1))

def z1jz (N : Nat) (self : z8) (x : z1a zyf) (K : Ex -> List A -> Option DT3) : Option DT3 :=
 z93 N self x.1 x.2.1 x.2.2.1 (K .ret (mkS [(6, .box TT2)] 55 (x.2.2.1, ()))) (K .normal (mkS zyf 54 (x.1, x.2.1, x.2.2.1, ())))

def z1gt (N : Nat) (self : z8) : Hd DT3 := fun st K => (unS zyf 54 (restr [7, 0, 6] 0 st)).bind fun x => z1jz N self x K

def t1_57 (N : Nat) (self : z8) : Tab DT3 := [([0, 0, 1, 1], z1ft N self)]

theorem z1dc {N : Nat} {self : z8} {c : Ctx} (hb : Base Tryd.prog (z1nv N self) c) : zk Tryd.prog c (zf znt [0, 1, 1]) (z1gt N self) :=
  zj (s := zyf) (m := 54) (g := z1jz N self) [7, 0, 6] (ze hb N (t1_57 N self) L_57 znt (TabOk.cons (z1cc hb) TabOk.nil) [0, 1, 1] _ rfl) (fun x K => by kernel_rfl)

def z4n (N : Nat) (self : z8) (s : (List UInt8)) (at_ : Int) (open_ : Int) : Option DT3 :=
 (z73 N self s at_ open_).bind fun y =>
 z93 N self s (((0 : Int), (([(0 : Int), (0 : Int), (0 : Int), (0 : Int)] : List Int), (([] : List Tree), ((0 : Int), ((0 : Int), ()))))), (([(0 : Int), (0 : Int), (0 : Int), (0 : Int)] : List Int), (false, ((0 : Int), (((0 : Int), ((0 : Int), ())), ()))))) y
 (some y)
 (cond (inR y.2.2.2.1 (List.length s))
 (cond ((((UInt8.toNat (List.getD s (Int.toNat y.2.2.2.1) (0 : UInt8))) : Nat) : Int) == (42 : Int))
 (some (((4 : Int), (([(0 : Int), (0 : Int), (0 : Int), (0 : Int)] : List Int), ((List.map foN ([y.1] : List DT7)), ((0 : Int), ((-(1 : Int)), ()))))), (([(0 : Int), (0 : Int), (0 : Int), (0 : Int)] : List Int), (false, ((IntKind.wrap IntKind.i64 (y.2.2.2.1 + (1 : Int))), (((0 : Int), ((0 : Int), ())), ()))))))
 (cond ((((UInt8.toNat (List.getD s (Int.toNat y.2.2.2.1) (0 : UInt8))) : Nat) : Int) == (43 : Int))
 (some (((4 : Int), (([(0 : Int), (0 : Int), (0 : Int), (0 : Int)] : List Int), ((List.map foN ([y.1] : List DT7)), ((1 : Int), ((-(1 : Int)), ()))))), (([(0 : Int), (0 : Int), (0 : Int), (0 : Int)] : List Int), (false, ((IntKind.wrap IntKind.i64 (y.2.2.2.1 + (1 : Int))), (((0 : Int), ((0 : Int), ())), ()))))))
 (cond ((((UInt8.toNat (List.getD s (Int.toNat y.2.2.2.1) (0 : UInt8))) : Nat) : Int) == (63 : Int))
 (some (((4 : Int), (([(0 : Int), (0 : Int), (0 : Int), (0 : Int)] : List Int), ((List.map foN ([y.1] : List DT7)), ((0 : Int), ((1 : Int), ()))))), (([(0 : Int), (0 : Int), (0 : Int), (0 : Int)] : List Int), (false, ((IntKind.wrap IntKind.i64 (y.2.2.2.1 + (1 : Int))), (((0 : Int), ((0 : Int), ())), ()))))))
 (cond ((((UInt8.toNat (List.getD s (Int.toNat y.2.2.2.1) (0 : UInt8))) : Nat) : Int) == (123 : Int))
 ((z5b N s y.1 y.2.2.2.1).bind fun y1 =>
 some y1)
 (some y)))))
 (none))

def t_57 (N : Nat) (self : z8) : Tab DT3 := [([0, 1, 1], z1gt N self)]

theorem z16r (N : Nat) (self : z8) (x : z1a SQ5) : zas (z1nv N self) N (t_57 N self) L_57 Tryd.f33 (mkS SQ5 0 x) (z6d (.v TT2) 3) = z4n N self x.1 x.2.1 x.2.2.1 := by kernel_rfl

def zc2 (N : Nat) (self : z8) : List A -> Res := z1b SQ5 (fun x => z4n N self x.1 x.2.1 x.2.2.1) (zb4 (.v TT2) 3)

theorem zi1 (N : Nat) (self : z8) (hself : Contract Tryd.prog glob 21 (z1b SQ5 (fun x => self x.1 x.2.1 x.2.2.1) (zb4 (.v TT2) 3))) : Contract Tryd.prog glob 33 (zc2 N self) :=
  Contract.of (E := z1nv N self) (H := t_57 N self) (L := L_57) (N := N) (body := znt) (K := (z6d (.v TT2) 3)) (z1me N self hself) Tryd.func33 (by kernel_rfl) (by decide) (fun _ hb => (TabOk.cons (z1dc hb) TabOk.nil)) (fun x y h => by rw [z16r]; exact h) (z1p (s := (.v TT2)) (m := 3))

def zns : Code := (Tryd.f30.body).getD .skip

def L_58 : List (List Nat × List Nat) := [([0], [1, 0, 4]), ([0, 1], [1, 0, 5, 4]), ([0, 0, 1, 1], [6, 1, 0, 5, 4]), ([0, 1, 0, 1, 1], [6, 1, 0, 5, 4]), (z1ad, [10, 1, 6, 0, 5, 4]), (z1ac, [1, 6, 0, 5, 4]), (z1ae, [5, 4, 0]), (z19d, [19, 5, 1, 6, 0, 4]), ([1, 0, 0, 1, 0, 0, 1, 0, 1, 1], [6, 1, 0, 5, 4]), ([1, 1, 0, 0, 1, 0, 0, 1, 0, 1, 1], [6, 1, 0, 5, 4]), ([0, 1, 0, 0, 1, 0, 0, 1, 0, 1, 1], [6, 1, 0, 5, 4]), (zx3, [6, 1, 0, 5, 4]), (z1ab, [6, 1, 0, 5, 4]), ([1, 0, 1, 1], [5, 4, 0]), ([0, 0, 1, 1, 1], [36, 5, 4, 0]), ([1, 0, 1, 1, 1], [0, 5, 4]), (z13j, [4]), (z14x, [4]), ([0, 1, 1, 1, 1], [4]), ([1, 1, 1, 1, 1], [4])]

def z1nu (N : Nat) : Env := z27 tys glob [] [(5, TT0)] [] [] false [] []

theorem z1md (N : Nat) : EnvOk Tryd.prog (z1nu N) := zi mixed z16 (FnsOk.nil) (ItsOk.nil)

def za1 (N : Nat) (kind : Int) (parts : (List Tree)) (x4 : DT1) (kids : (List DT1)) (i : Int) (k0 : (List DT1) -> Option DT1) : Option DT1 :=
 cond (inR i (List.length parts))
 (cond ((unN (List.getD parts (Int.toNat i) (Tree.mk (0 : Int) ([] : List Int) ([] : List Tree) (0 : Int) (0 : Int)))).1 == kind)
 (cond (inR i (List.length parts))
 (cond (decide ((((List.length kids) + (List.length (List.map unN (unN (List.getD parts (Int.toNat i) (Tree.mk (0 : Int) ([] : List Int) ([] : List Tree) (0 : Int) (0 : Int)))).2.2.1))) * 80) <= 70368744177664))
 (k0 (kids ++ (List.map unN (unN (List.getD parts (Int.toNat i) (Tree.mk (0 : Int) ([] : List Int) ([] : List Tree) (0 : Int) (0 : Int)))).2.2.1)))
 (none))
 (none))
 (cond (inR i (List.length parts))
 (cond (decide ((((List.length kids) + 1) * 80) <= 70368744177664))
 (k0 (kids ++ ([(unN (List.getD parts (Int.toNat i) (Tree.mk (0 : Int) ([] : List Int) ([] : List Tree) (0 : Int) (0 : Int))))] : List DT7)))
 (none))
 (none)))
 (none)

def z1iy (N : Nat) (x : z1a z1a6) (K : Ex -> List A -> Option DT1) : Option DT1 :=
 za1 N x.1 x.2.1 x.2.2.1 x.2.2.2.1 x.2.2.2.2.1 (fun a3 => (K .normal (mkS z1a6 36 (x.1, x.2.1, x.2.2.1, a3, x.2.2.2.2.1, ()))))

def z1fs (N : Nat) : Hd DT1 := fun st K => (unS z1a6 36 (restr [1, 6, 0, 5, 4] 0 st)).bind fun x => z1iy N x K

def t2_58 (N : Nat) : Tab DT1 := []

theorem z1cb {N : Nat} {c : Ctx} (hb : Base Tryd.prog (z1nu N) c) : zk Tryd.prog c (zf zns zx3) (z1fs N) :=
  zj (s := z1a6) (m := 36) (g := z1iy N) [1, 6, 0, 5, 4] (ze hb N (t2_58 N) L_58 zns TabOk.nil zx3 _ rfl) (fun x K => by kernel_rfl)

def z4w (N : Nat) (kind : Int) (parts : (List Tree)) (x4 : DT1) (kids : (List DT1)) (i : Int) (rec : (List DT1) -> Int -> Option DT1) (k0 : (List DT1) -> Option DT1) : Option DT1 :=
 cond (decide (i < (((List.length parts) : Nat) : Int)))
 (za1 N kind parts x4 kids i
 (fun kids1 => rec kids1 (IntKind.wrap IntKind.i64 (i + (1 : Int)))))
 (k0 kids)

def zdg (N : Nat) (kind : Int) (parts : (List Tree)) (x4 : DT1) (kids : (List DT1)) (i : Int) (k0 : (List DT1) -> Option DT1) : Option DT1 :=
 iter (fun (v : ((List DT1) × Int)) r => z4w N kind parts x4 v.1 v.2 (fun kids i => (r (kids, i))) k0) N (kids, i)

def z1jy (N : Nat) (i : (Int × (List Tree) × DT1)) (v : ((List DT1) × Int)) (r : ((List DT1) × Int) -> Option DT1) (K : Ex -> List A -> Option DT1) : Option DT1 :=
 z4w N i.1 i.2.1 i.2.2 v.1 v.2 (fun kids i => (r (kids, i))) (fun a2 => (K (.exit 0) (mkS [(0, .v (.int .i64)), (3, .box TT0), (0, .row TT0)] 37 (i.1, i.2.2, a2, ()))))

def z1gs (N : Nat) : Hd DT1 := fun st K => (unS z1a6 36 (restr [6, 1, 0, 5, 4] 0 st)).bind fun x => iter (fun v r => z1jy N ((fun x => (x.1, x.2.1, x.2.2.1)) x) v r K) N ((fun x => (x.2.2.2.1, x.2.2.2.2.1)) x)

def t1_58 (N : Nat) : Tab DT1 := [(zx3, z1fs N)]

theorem z1db {N : Nat} {c : Ctx} (hb : Base Tryd.prog (z1nu N) c) : zk Tryd.prog c (zf zns [0, 1, 0, 1, 1]) (z1gs N) :=
  z4k (s := z1a6) (m := 36) (z1jy N) [6, 1, 0, 5, 4] N (fun x => (x.1, x.2.1, x.2.2.1)) (fun x => (x.2.2.2.1, x.2.2.2.2.1)) (fun i v => (i.1, i.2.1, i.2.2, v.1, v.2, ())) (fun _ => rfl) (ze hb N (t1_58 N) L_58 zns (TabOk.cons (z1cb hb) TabOk.nil) [0, 0, 1, 0, 1, 1] _ rfl) (fun i v r K => by kernel_rfl)

def z26 (N : Nat) (kind : Int) (parts : (List Tree)) : Option DT1 :=
 zdg N kind parts ((0 : Int), (([(0 : Int), (0 : Int), (0 : Int), (0 : Int)] : List Int), (([] : List Tree), ((0 : Int), ((0 : Int), ()))))) ([] : List DT7) (0 : Int)
 (fun kids => cond ((((List.length kids) : Nat) : Int) == (1 : Int))
 (cond (inR (0 : Int) (List.length kids))
 (cond (decide (0 < (List.length kids)))
 (some (List.getD kids 0 ((0 : Int), (([] : List Int), (([] : List Tree), ((0 : Int), ((0 : Int), ())))))))
 (none))
 (none))
 (some (kind, (([(0 : Int), (0 : Int), (0 : Int), (0 : Int)] : List Int), ((List.map foN kids), ((0 : Int), ((0 : Int), ())))))))

def t_58 (N : Nat) : Tab DT1 := [([0, 1, 0, 1, 1], z1gs N)]

theorem z16q (N : Nat) (x : z1a z19x) : zas (z1nu N) N (t_58 N) L_58 Tryd.f30 (mkS z19x 0 x) (z6d (.v TT0) 2) = z26 N x.1 x.2.1 := by kernel_rfl

def z94 (N : Nat) : List A -> Res := z1b z19x (fun x => z26 N x.1 x.2.1) (zb4 (.v TT0) 2)

theorem zdh (N : Nat) : Contract Tryd.prog glob 30 (z94 N) :=
  Contract.of (E := z1nu N) (H := t_58 N) (L := L_58) (N := N) (body := zns) (K := (z6d (.v TT0) 2)) (z1md N) Tryd.func30 (by kernel_rfl) (by decide) (fun _ hb => (TabOk.cons (z1db hb) TabOk.nil)) (fun x y h => by rw [z16q]; exact h) (z1p (s := (.v TT0)) (m := 2))

def zj5 : Code := (Tryd.f28.body).getD .skip

def z1lo : List (List Nat × List Nat) := [([0], [1, 0, 2, 6]), ([0, 1], [1, 0, 2, 6, 7]), ([0, 0, 1, 1], [1, 0, 2, 6, 7]), ([0, 0, 0, 0, 0, 1, 1], [24, 0, 1, 2, 6, 7]), ([1, 0, 0, 0, 0, 1, 1], [0, 1, 2, 6, 7]), (z11r, [7, 1, 6]), ([0, 0, 1, 0, 0, 0, 1, 1], [8, 6, 7, 0, 2]), ([0, 0, 1, 0, 1, 0, 0, 0, 1, 1], [32, 8, 6, 7, 0, 2]), ([1, 0, 1, 0, 1, 0, 0, 0, 1, 1], [7, 8, 0, 2, 6]), ([0, 0, 1, 0, 1, 0, 1, 0, 0, 0, 1, 1], [6]), ([1, 0, 1, 0, 1, 0, 1, 0, 0, 0, 1, 1], [6]), ([0, 1, 1, 0, 1, 0, 0, 0, 1, 1], [8, 0, 2, 6, 7]), ([1, 1, 1, 0, 1, 0, 0, 0, 1, 1], [1, 0, 2, 6, 7]), ([1, 0, 0, 0, 1, 1], [1, 0, 2, 6, 7]), ([0, 1, 1], [7, 1, 6]), ([0, 1, 1, 1], [6]), ([1, 1, 1, 1], [6])]

def z1al (N : Nat) (self : z8) : Env := z27 tys glob [(30, z94 N), (33, zc2 N self), (21, z1b SQ5 (fun x => self x.1 x.2.1 x.2.2.1) (zb4 (.v TT2) 3))] [(7, TT0)] [] [] false [] []

theorem z1mc (N : Nat) (self : z8) (hself : Contract Tryd.prog glob 21 (z1b SQ5 (fun x => self x.1 x.2.1 x.2.2.1) (zb4 (.v TT2) 3))) : EnvOk Tryd.prog (z1al N self) := zi mixed z16 (FnsOk.cons (zdh N) (FnsOk.cons (zi1 N self hself) (FnsOk.cons (hself) (FnsOk.nil)))) (ItsOk.nil)

def zax (N : Nat) (self : z8) (s : (List UInt8)) (at_ : Int) (open_ : Int) (x6 : DT3) (parts : (List DT1)) (k0 : Option DT3) (k1 : Option DT3) : Option DT3 :=
 cond (decide (at_ < (((List.length s) : Nat) : Int)))
 (cond (inR at_ (List.length s))
 (cond ((((UInt8.toNat (List.getD s (Int.toNat at_) (0 : UInt8))) : Nat) : Int) != (124 : Int))
 (cond (inR at_ (List.length s))
 (cond ((((UInt8.toNat (List.getD s (Int.toNat at_) (0 : UInt8))) : Nat) : Int) != (41 : Int))
 (k0)
 (k1))
 (none))
 (k1))
 (none))
 (k1)

def z1ie (N : Nat) (self : z8) (x : z1a SQ9) (K : Ex -> List A -> Option DT3) : Option DT3 :=
 zax N self x.1 x.2.1 x.2.2.1 x.2.2.2.1 x.2.2.2.2.1 (K .normal (mkS SQ9 37 (x.1, x.2.1, x.2.2.1, x.2.2.2.1, x.2.2.2.2.1, ()))) (K (.exit 0) (mkS SQ97 37 (x.2.1, x.2.2.2.1, x.2.2.2.2.1, ())))

def z1f8 (N : Nat) (self : z8) : Hd DT3 := fun st K => (unS SQ9 37 (restr [1, 0, 2, 6, 7] 0 st)).bind fun x => z1ie N self x K

def t3_59 (N : Nat) (self : z8) : Tab DT3 := []

theorem z1br {N : Nat} {self : z8} {c : Ctx} (hb : Base Tryd.prog (z1al N self) c) : zk Tryd.prog c (zf zj5 [0, 0, 0, 0, 1, 1]) (z1f8 N self) :=
  zj (s := SQ9) (m := 37) (g := z1ie N self) [1, 0, 2, 6, 7] (ze hb N (t3_59 N self) z1lo zj5 TabOk.nil [0, 0, 0, 0, 1, 1] _ rfl) (fun x K => by kernel_rfl)

def z59 (N : Nat) (self : z8) (s : (List UInt8)) (open_ : Int) (x6 : DT3) (at_ : Int) (parts : (List DT1)) (rec : Int -> (List DT1) -> Option DT3) (k0 : DT3 -> Option DT3) (k1 : Int -> (List DT1) -> Option DT3) : Option DT3 :=
 zax N self s at_ open_ x6 parts
 ((z4n N self s at_ open_).bind fun y =>
 cond (y.2.2.2.2.1.1 != (0 : Int))
 (k0 y)
 (cond (decide ((((List.length parts) + 1) * 80) <= 70368744177664))
 (rec y.2.2.2.1 (parts ++ ([y.1] : List DT7)))
 (none)))
 (k1 at_ parts)

def zeb (N : Nat) (self : z8) (s : (List UInt8)) (at_ : Int) (open_ : Int) (x6 : DT3) (parts : (List DT1)) (k0 : DT3 -> Option DT3) (k1 : Int -> (List DT1) -> Option DT3) : Option DT3 :=
 iter (fun (v : (Int × (List DT1))) r => z59 N self s open_ x6 v.1 v.2 (fun at_ parts => (r (at_, parts))) k0 k1) N (at_, parts)

def z1ix (N : Nat) (self : z8) (i : ((List UInt8) × Int × DT3)) (v : (Int × (List DT1))) (r : (Int × (List DT1)) -> Option DT3) (K : Ex -> List A -> Option DT3) : Option DT3 :=
 z59 N self i.1 i.2.1 i.2.2 v.1 v.2 (fun at_ parts => (r (at_, parts))) (fun a0 => (K .ret (mkS [(6, .box TT2)] 38 (a0, ())))) (fun a0 a2 => (K (.exit 0) (mkS SQ97 37 (a0, i.2.2, a2, ()))))

def z1fr (N : Nat) (self : z8) : Hd DT3 := fun st K => (unS SQ9 37 (restr [1, 0, 2, 6, 7] 0 st)).bind fun x => iter (fun v r => z1ix N self ((fun x => (x.1, x.2.2.1, x.2.2.2.1)) x) v r K) N ((fun x => (x.2.1, x.2.2.2.2.1)) x)

def t2_59 (N : Nat) (self : z8) : Tab DT3 := [([0, 0, 0, 0, 1, 1], z1f8 N self)]

theorem z1ca {N : Nat} {self : z8} {c : Ctx} (hb : Base Tryd.prog (z1al N self) c) : zk Tryd.prog c (zf zj5 [0, 0, 1, 1]) (z1fr N self) :=
  z4k (s := SQ9) (m := 37) (z1ix N self) [1, 0, 2, 6, 7] N (fun x => (x.1, x.2.2.1, x.2.2.2.1)) (fun x => (x.2.1, x.2.2.2.2.1)) (fun i v => (i.1, v.1, i.2.1, i.2.2, v.2, ())) (fun _ => rfl) (ze hb N (t2_59 N self) z1lo zj5 (TabOk.cons (z1br hb) TabOk.nil) [0, 0, 0, 1, 1] _ rfl) (fun i v r K => by kernel_rfl)

def zay (N : Nat) (self : z8) (s : (List UInt8)) (at_ : Int) (open_ : Int) (x6 : DT3) (parts : (List DT1)) (k0 : DT3 -> Option DT3) (k1 : Int -> (List DT1) -> Option DT3) : Option DT3 :=
 zeb N self s at_ open_ x6 parts
 (fun x61 => k0 x61)
 (fun at_1 zh2 => k1 at_1 zh2)

def z1jx (N : Nat) (self : z8) (x : z1a SQ9) (K : Ex -> List A -> Option DT3) : Option DT3 :=
 zay N self x.1 x.2.1 x.2.2.1 x.2.2.2.1 x.2.2.2.2.1 (fun a0 => (K .ret (mkS [(6, .box TT2)] 38 (a0, ())))) (fun a0 a2 => (K .normal (mkS SQ97 37 (a0, x.2.2.2.1, a2, ()))))

def z1gr (N : Nat) (self : z8) : Hd DT3 := fun st K => (unS SQ9 37 (restr [1, 0, 2, 6, 7] 0 st)).bind fun x => z1jx N self x K

def t1_59 (N : Nat) (self : z8) : Tab DT3 := [([0, 0, 1, 1], z1fr N self)]

theorem z1da {N : Nat} {self : z8} {c : Ctx} (hb : Base Tryd.prog (z1al N self) c) : zk Tryd.prog c (zf zj5 [0, 1, 1]) (z1gr N self) :=
  zj (s := SQ9) (m := 37) (g := z1jx N self) [1, 0, 2, 6, 7] (ze hb N (t1_59 N self) z1lo zj5 (TabOk.cons (z1ca hb) TabOk.nil) [0, 1, 1] _ rfl) (fun x K => by kernel_rfl)

def z65 (N : Nat) (self : z8) (s : (List UInt8)) (at_ : Int) (open_ : Int) : Option DT3 :=
 zay N self s at_ open_ (((0 : Int), (([(0 : Int), (0 : Int), (0 : Int), (0 : Int)] : List Int), (([] : List Tree), ((0 : Int), ((0 : Int), ()))))), (([(0 : Int), (0 : Int), (0 : Int), (0 : Int)] : List Int), (false, ((0 : Int), (((0 : Int), ((0 : Int), ())), ()))))) ([] : List DT7)
 (fun x6 => some x6)
 (fun at_1 parts => (z26 N (2 : Int) (List.map foN parts)).bind fun y =>
 some (y, (([(0 : Int), (0 : Int), (0 : Int), (0 : Int)] : List Int), (false, (at_1, (((0 : Int), ((0 : Int), ())), ()))))))

def t_59 (N : Nat) (self : z8) : Tab DT3 := [([0, 1, 1], z1gr N self)]

theorem z16p (N : Nat) (self : z8) (x : z1a SQ5) : zas (z1al N self) N (t_59 N self) z1lo Tryd.f28 (mkS SQ5 0 x) (z6d (.v TT2) 3) = z65 N self x.1 x.2.1 x.2.2.1 := by kernel_rfl

def zdj (N : Nat) (self : z8) : List A -> Res := z1b SQ5 (fun x => z65 N self x.1 x.2.1 x.2.2.1) (zb4 (.v TT2) 3)

theorem zjq (N : Nat) (self : z8) (hself : Contract Tryd.prog glob 21 (z1b SQ5 (fun x => self x.1 x.2.1 x.2.2.1) (zb4 (.v TT2) 3))) : Contract Tryd.prog glob 28 (zdj N self) :=
  Contract.of (E := z1al N self) (H := t_59 N self) (L := z1lo) (N := N) (body := zj5) (K := (z6d (.v TT2) 3)) (z1mc N self hself) Tryd.func28 (by kernel_rfl) (by decide) (fun _ hb => (TabOk.cons (z1da hb) TabOk.nil)) (fun x y h => by rw [z16p]; exact h) (z1p (s := (.v TT2)) (m := 3))

def z7f : Code := (Tryd.f21.body).getD .skip

def z1ln : List (List Nat × List Nat) := [([0], [0, 1, 2, 6]), ([0, 1], [7, 0, 6, 2]), ([0, 0, 1, 1], [23, 7, 6, 0, 2]), ([1, 0, 1, 1], [7, 0, 2, 6]), ([0, 0, 1, 0, 1, 1], [6]), ([1, 0, 1, 0, 1, 1], [6]), ([0, 1, 1, 1], [0, 7, 2, 6, 8]), ([0, 0, 1, 1, 1, 1], [0, 7, 2, 6, 8]), (z11u, [31, 0, 7, 2, 6, 8]), (z11t, [0, 7, 2, 6, 8]), (z1le, [8, 7, 6]), ([0, 0, 1, 0, 0, 0, 1, 1, 1, 1], [7, 6, 8, 0, 2]), ([0, 0, 1, 0, 1, 0, 0, 0, 1, 1, 1, 1], [41, 7, 6, 8, 0, 2]), ([1, 0, 1, 0, 1, 0, 0, 0, 1, 1, 1, 1], [8, 7, 0, 2, 6]), ([0, 0, 1, 0, 1, 0, 1, 0, 0, 0, 1, 1, 1, 1], [6]), ([1, 0, 1, 0, 1, 0, 1, 0, 0, 0, 1, 1, 1, 1], [6]), ([1, 1, 0, 1, 0, 0, 0, 1, 1, 1, 1], [0, 7, 2, 6, 8]), (z11s, [0, 7, 2, 6, 8]), ([0, 1, 1, 1, 1], [8, 7, 6]), ([0, 1, 1, 1, 1, 1], [6]), ([1, 1, 1, 1, 1, 1], [6])]

def zt8 (N : Nat) (self : (List UInt8) -> Int -> Int -> Option DT3) : Env := z27 tys glob [(28, zdj N self), (30, z94 N), (29, z47 N), (21, z1b SQ5 (fun x => self x.1 x.2.1 x.2.2.1) (zb4 (.v TT2) 3))] [(8, TT0)] [] [] false [] []

theorem z1mb (N : Nat) (self : (List UInt8) -> Int -> Int -> Option DT3) (hself : Contract Tryd.prog glob 21 (z1b SQ5 (fun x => self x.1 x.2.1 x.2.2.1) (zb4 (.v TT2) 3))) : EnvOk Tryd.prog (zt8 N self) := zi mixed z16 (FnsOk.cons (zjq N self hself) (FnsOk.cons (zdh N) (FnsOk.cons (z62 N) (FnsOk.cons (hself) (FnsOk.nil))))) (ItsOk.nil)

def zaz (N : Nat) (self : (List UInt8) -> Int -> Int -> Option DT3) (s : (List UInt8)) (open_ : Int) (x6 : DT3) (x7 : DT3) (k0 : Bool -> Option DT3) : Option DT3 :=
 cond (x7.2.2.2.2.1.1 != (0 : Int))
 (k0 true)
 ((z1m N s x7.2.2.2.1 (124 : Int)).bind fun y =>
 k0 (!y))

def z1iw (N : Nat) (self : (List UInt8) -> Int -> Int -> Option DT3) (x : z1a z196) (K : Ex -> List A -> Option DT3) : Option DT3 :=
 zaz N self x.1 x.2.1 x.2.2.1 x.2.2.2.1 (fun a4 => (K .normal (mkS [(0, .v .str), (1, .v (.int .i64)), (3, .box TT2), (0, .box TT2), (15, .v .bool)] 29 (x.1, x.2.1, x.2.2.1, x.2.2.2.1, a4, ()))))

def z1fq (N : Nat) (self : (List UInt8) -> Int -> Int -> Option DT3) : Hd DT3 := fun st K => (unS z196 45 (restr [7, 0, 6, 2] 0 st)).bind fun x => z1iw N self x K

def t2_60 (N : Nat) (self : (List UInt8) -> Int -> Int -> Option DT3) : Tab DT3 := []

theorem z1c9 {N : Nat} {self : (List UInt8) -> Int -> Int -> Option DT3} {c : Ctx} (hb : Base Tryd.prog (zt8 N self) c) : zk Tryd.prog c (zf z7f [0, 0, 1, 1]) (z1fq N self) :=
  zj (s := z196) (m := 45) (g := z1iw N self) [7, 0, 6, 2] (ze hb N (t2_60 N self) z1ln z7f TabOk.nil [0, 0, 1, 1] _ rfl) (fun x K => by kernel_rfl)

def zb0 (N : Nat) (self : (List UInt8) -> Int -> Int -> Option DT3) (s : (List UInt8)) (open_ : Int) (x6 : DT3) (x7 : DT3) (k0 : Option DT3) (k1 : Option DT3) : Option DT3 :=
 zaz N self s open_ x6 x7
 (fun x23 => cond x23
 (k0)
 (k1))

def z1jw (N : Nat) (self : (List UInt8) -> Int -> Int -> Option DT3) (x : z1a z196) (K : Ex -> List A -> Option DT3) : Option DT3 :=
 zb0 N self x.1 x.2.1 x.2.2.1 x.2.2.2.1 (K .ret (mkS [(6, .box TT2)] 46 (x.2.2.2.1, ()))) (K .normal (mkS z196 45 (x.1, x.2.1, x.2.2.1, x.2.2.2.1, ())))

def z1gq (N : Nat) (self : (List UInt8) -> Int -> Int -> Option DT3) : Hd DT3 := fun st K => (unS z196 45 (restr [7, 0, 6, 2] 0 st)).bind fun x => z1jw N self x K

def t1_60 (N : Nat) (self : (List UInt8) -> Int -> Int -> Option DT3) : Tab DT3 := [([0, 0, 1, 1], z1fq N self)]

theorem z1d9 {N : Nat} {self : (List UInt8) -> Int -> Int -> Option DT3} {c : Ctx} (hb : Base Tryd.prog (zt8 N self) c) : zk Tryd.prog c (zf z7f [0, 1, 1]) (z1gq N self) :=
  zj (s := z196) (m := 45) (g := z1jw N self) [7, 0, 6, 2] (ze hb N (t1_60 N self) z1ln z7f (TabOk.cons (z1c9 hb) TabOk.nil) [0, 1, 1] _ rfl) (fun x K => by kernel_rfl)

def z7i (N : Nat) (self : (List UInt8) -> Int -> Int -> Option DT3) (s : (List UInt8)) (open_ : Int) (x6 : DT3) (x7 : DT3) (parts : (List DT1)) (rec : DT3 -> (List DT1) -> Option DT3) (k0 : DT3 -> Option DT3) (k1 : DT3 -> (List DT1) -> Option DT3) : Option DT3 :=
 (z1m N s x7.2.2.2.1 (124 : Int)).bind fun y =>
 cond y
 ((z65 N self s (IntKind.wrap IntKind.i64 (x7.2.2.2.1 + (1 : Int))) open_).bind fun y1 =>
 cond (y1.2.2.2.2.1.1 != (0 : Int))
 (k0 y1)
 (cond (decide ((((List.length parts) + 1) * 80) <= 70368744177664))
 (rec y1 (parts ++ ([y1.1] : List DT7)))
 (none)))
 (k1 x7 parts)

def zec (N : Nat) (self : (List UInt8) -> Int -> Int -> Option DT3) (s : (List UInt8)) (open_ : Int) (x6 : DT3) (x7 : DT3) (parts : (List DT1)) (k0 : DT3 -> Option DT3) (k1 : DT3 -> (List DT1) -> Option DT3) : Option DT3 :=
 iter (fun (v : (DT3 × (List DT1))) r => z7i N self s open_ x6 v.1 v.2 (fun x7 parts => (r (x7, parts))) k0 k1) N (x7, parts)

def z1id (N : Nat) (self : (List UInt8) -> Int -> Int -> Option DT3) (i : ((List UInt8) × Int × DT3)) (v : (DT3 × (List DT1))) (r : (DT3 × (List DT1)) -> Option DT3) (K : Ex -> List A -> Option DT3) : Option DT3 :=
 z7i N self i.1 i.2.1 i.2.2 v.1 v.2 (fun x7 parts => (r (x7, parts))) (fun a0 => (K .ret (mkS [(6, .box TT2)] 46 (a0, ())))) (fun a1 a2 => (K (.exit 0) (mkS zyo 44 (i.2.2, a1, a2, ()))))

def z1f7 (N : Nat) (self : (List UInt8) -> Int -> Int -> Option DT3) : Hd DT3 := fun st K => (unS [(0, .v .str), (1, .v (.int .i64)), (3, .box TT2), (0, .box TT2), (0, .row TT0)] 44 (restr [0, 7, 2, 6, 8] 0 st)).bind fun x => iter (fun v r => z1id N self ((fun x => (x.1, x.2.1, x.2.2.1)) x) v r K) N ((fun x => (x.2.2.2.1, x.2.2.2.2.1)) x)

def t3_60 (N : Nat) (self : (List UInt8) -> Int -> Int -> Option DT3) : Tab DT3 := []

theorem z1bq {N : Nat} {self : (List UInt8) -> Int -> Int -> Option DT3} {c : Ctx} (hb : Base Tryd.prog (zt8 N self) c) : zk Tryd.prog c (zf z7f [0, 0, 1, 1, 1, 1]) (z1f7 N self) :=
  z4k (s := [(0, .v .str), (1, .v (.int .i64)), (3, .box TT2), (0, .box TT2), (0, .row TT0)]) (m := 44) (z1id N self) [0, 7, 2, 6, 8] N (fun x => (x.1, x.2.1, x.2.2.1)) (fun x => (x.2.2.2.1, x.2.2.2.2.1)) (fun i v => (i.1, i.2.1, i.2.2, v.1, v.2, ())) (fun _ => rfl) (ze hb N (t3_60 N self) z1ln z7f TabOk.nil [0, 0, 0, 1, 1, 1, 1] _ rfl) (fun i v r K => by kernel_rfl)

def z188 (N : Nat) (self : (List UInt8) -> Int -> Int -> Option DT3) : Hd DT3 := fun st K => (unS zyo 44 (restr [8, 7, 6] 0 st)).bind fun x => (z26 N (3 : Int) (List.map foN x.2.2.1)).bind fun y => K .normal (mkS [(6, .box TT2)] 46 ((y, (([(0 : Int), (0 : Int), (0 : Int), (0 : Int)] : List Int), (false, (x.2.1.2.2.2.1, (((0 : Int), ((0 : Int), ())), ()))))), ()))

theorem z1b7 {N : Nat} {self : (List UInt8) -> Int -> Int -> Option DT3} {c : Ctx} (hb : Base Tryd.prog (zt8 N self) c) : zk Tryd.prog c (zf z7f [0, 1, 1, 1, 1, 1]) (z188 N self) := by
  intro st K y hy
  unfold z188 at hy
  cases hu : unS zyo 44 (restr [8, 7, 6] 0 st) with
  | none => rw [hu] at hy; cases hy
  | some x =>
    rw [hu] at hy
    simp only [Option.bind_some] at hy
    cases hj : z26 N (3 : Int) (List.map foN x.2.2.1) with
    | none => rw [hj] at hy; cases hy
    | some y =>
      rw [hj] at hy
      simp only [Option.bind_some] at hy
      refine ⟨.normal, _, hy, fun Q a w hs hq => ?_⟩
      have hs' := hs.restr [8, 7, 6]
      rw [zch hu] at hs'
      have key : ∀ l ∈ [[0, 1, 2, 3, 4, 5], [0, 2, 1, 3, 4, 5], [0, 2, 3, 1, 4, 5], [2, 0, 1, 3, 4, 5], [2, 0, 3, 1, 4, 5], [2, 3, 0, 1, 4, 5]], ∃ st1, zxb (zt8 N self) (zjm (zf z7f [0, 1, 1, 1, 1, 1])) l (mkS zyo 44 x) (fun s => some s) = some st1 /\ restr [6] 0 st1 = mkS [(6, .box TT2)] 46 ((y, (([(0 : Int), (0 : Int), (0 : Int), (0 : Int)] : List Int), (false, (x.2.1.2.2.2.1, (((0 : Int), ((0 : Int), ())), ()))))), ()) := by
        intro l hl
        simp only [List.mem_cons, List.not_mem_nil, or_false] at hl
        have go : ∀ l (f : NodT.den -> List A), zxb (zt8 N self) (zjm (zf z7f [0, 1, 1, 1, 1, 1])) l (mkS zyo 44 x) (fun s => some s) = ((z26 N (3 : Int) (List.map foN x.2.2.1)).bind fun y => some (f y)) -> restr [6] 0 (f y) = mkS [(6, .box TT2)] 46 ((y, (([(0 : Int), (0 : Int), (0 : Int), (0 : Int)] : List Int), (false, (x.2.1.2.2.2.1, (((0 : Int), ((0 : Int), ())), ()))))), ()) -> ∃ st1, zxb (zt8 N self) (zjm (zf z7f [0, 1, 1, 1, 1, 1])) l (mkS zyo 44 x) (fun s => some s) = some st1 /\ restr [6] 0 st1 = mkS [(6, .box TT2)] 46 ((y, (([(0 : Int), (0 : Int), (0 : Int), (0 : Int)] : List Int), (false, (x.2.1.2.2.2.1, (((0 : Int), ((0 : Int), ())), ()))))), ()) := by
          intro l f h1 h2
          rw [hj] at h1
          exact ⟨_, h1, h2⟩
        rcases hl with rfl | rfl | rfl | rfl | rfl | rfl
        . exact go _ (fun y => (zxb { zt8 N self with fn := fun _ _ => ⟨NodT.den, some y, fun z => (.v NodT z, [.dead, .dead])⟩ } (zjm (zf z7f [0, 1, 1, 1, 1, 1])) [0, 1, 2, 3, 4, 5] (mkS zyo 44 x) (fun s => some s)).getD []) (by kernel_rfl) (by kernel_rfl)
        . exact go _ (fun y => (zxb { zt8 N self with fn := fun _ _ => ⟨NodT.den, some y, fun z => (.v NodT z, [.dead, .dead])⟩ } (zjm (zf z7f [0, 1, 1, 1, 1, 1])) [0, 2, 1, 3, 4, 5] (mkS zyo 44 x) (fun s => some s)).getD []) (by kernel_rfl) (by kernel_rfl)
        . exact go _ (fun y => (zxb { zt8 N self with fn := fun _ _ => ⟨NodT.den, some y, fun z => (.v NodT z, [.dead, .dead])⟩ } (zjm (zf z7f [0, 1, 1, 1, 1, 1])) [0, 2, 3, 1, 4, 5] (mkS zyo 44 x) (fun s => some s)).getD []) (by kernel_rfl) (by kernel_rfl)
        . exact go _ (fun y => (zxb { zt8 N self with fn := fun _ _ => ⟨NodT.den, some y, fun z => (.v NodT z, [.dead, .dead])⟩ } (zjm (zf z7f [0, 1, 1, 1, 1, 1])) [2, 0, 1, 3, 4, 5] (mkS zyo 44 x) (fun s => some s)).getD []) (by kernel_rfl) (by kernel_rfl)
        . exact go _ (fun y => (zxb { zt8 N self with fn := fun _ _ => ⟨NodT.den, some y, fun z => (.v NodT z, [.dead, .dead])⟩ } (zjm (zf z7f [0, 1, 1, 1, 1, 1])) [2, 0, 3, 1, 4, 5] (mkS zyo 44 x) (fun s => some s)).getD []) (by kernel_rfl) (by kernel_rfl)
        . exact go _ (fun y => (zxb { zt8 N self with fn := fun _ _ => ⟨NodT.den, some y, fun z => (.v NodT z, [.dead, .dead])⟩ } (zjm (zf z7f [0, 1, 1, 1, 1, 1])) [2, 3, 0, 1, 4, 5] (mkS zyo 44 x) (fun s => some s)).getD []) (by kernel_rfl) (by kernel_rfl)
      exact zzn (id := 10) hb [6] _ (by kernel_rfl) key Q a w hs' hq

def z8d (N : Nat) (self : (List UInt8) -> Int -> Int -> Option DT3) (s : (List UInt8)) (at_ : Int) (open_ : Int) : Option DT3 :=
 (z65 N self s at_ open_).bind fun y =>
 zb0 N self s open_ (((0 : Int), (([(0 : Int), (0 : Int), (0 : Int), (0 : Int)] : List Int), (([] : List Tree), ((0 : Int), ((0 : Int), ()))))), (([(0 : Int), (0 : Int), (0 : Int), (0 : Int)] : List Int), (false, ((0 : Int), (((0 : Int), ((0 : Int), ())), ()))))) y
 (some y)
 (zec N self s open_ (((0 : Int), (([(0 : Int), (0 : Int), (0 : Int), (0 : Int)] : List Int), (([] : List Tree), ((0 : Int), ((0 : Int), ()))))), (([(0 : Int), (0 : Int), (0 : Int), (0 : Int)] : List Int), (false, ((0 : Int), (((0 : Int), ((0 : Int), ())), ()))))) y ([y.1] : List DT7)
 (fun x6 => some x6)
 (fun x7 parts => (z26 N (3 : Int) (List.map foN parts)).bind fun y1 =>
 some (y1, (([(0 : Int), (0 : Int), (0 : Int), (0 : Int)] : List Int), (false, (x7.2.2.2.1, (((0 : Int), ((0 : Int), ())), ())))))))

def t_60 (N : Nat) (self : (List UInt8) -> Int -> Int -> Option DT3) : Tab DT3 := [([0, 1, 1], z1gq N self), ([0, 0, 1, 1, 1, 1], z1f7 N self), ([0, 1, 1, 1, 1, 1], z188 N self)]

theorem z16o (N : Nat) (self : (List UInt8) -> Int -> Int -> Option DT3) (x : z1a SQ5) : zas (zt8 N self) N (t_60 N self) z1ln Tryd.f21 (mkS SQ5 0 x) (z6d (.v TT2) 3) = z8d N self x.1 x.2.1 x.2.2.1 := by kernel_rfl

def z3x : Nat -> (List UInt8) -> Int -> Int -> Option DT3
  | 0 => fun _ _ _ => none
  | N + 1 => z8d (N + 1) (z3x N)

def zdk (N : Nat) : List A -> Res := z1b SQ5 (fun x => z3x N x.1 x.2.1 x.2.2.1) (zb4 (.v TT2) 3)

theorem zed : ∀ N : Nat, Contract Tryd.prog glob 21 (zdk N)
  | 0 => Contract.zero Tryd.func21 (body := z7f) (by kernel_rfl) (by decide) (fun _ => rfl)
  | N + 1 => Contract.of (E := zt8 (N + 1) (z3x N)) (H := t_60 (N + 1) (z3x N)) (L := z1ln) (N := (N + 1)) (body := z7f) (K := (z6d (.v TT2) 3)) (z1mb (N + 1) (z3x N) (zed N)) Tryd.func21 (by kernel_rfl) (by decide) (fun _ hb => (TabOk.cons (z1d9 hb) (TabOk.cons (z1bq hb) (TabOk.cons (z1b7 hb) TabOk.nil)))) (fun x y h => by rw [z16o]; exact h) (z1p (s := (.v TT2)) (m := 3))

def znr : Code := (Tryd.f15.body).getD .skip

def L_61 : List (List Nat × List Nat) := [([0], [0, 2, 3]), ([0, 0, 1], [7, 2, 3, 0]), ([1, 0, 1], [0, 2, 3]), ([0, 0, 1, 0, 1], [2, 3]), ([1, 0, 1, 0, 1], [2, 3]), ([0, 1, 1], [4, 0, 2, 3]), ([0, 0, 1, 1, 1], [22, 0, 4, 2, 3]), ([1, 0, 1, 1, 1], [4, 2, 3]), ([0, 1, 0, 1, 1, 1], [4, 2, 3]), ([0, 0, 1, 1, 1, 1], [30, 4, 2, 3]), ([1, 0, 1, 1, 1, 1], [4, 2, 3]), (z11x, [2, 3]), (z14y, [2, 3]), ([0, 1, 1, 1, 1, 1], [2, 3]), ([1, 1, 1, 1, 1, 1], [2, 3])]

def z1nt (N : Nat) : Env := z27 tys glob [(21, zdk N), (22, z2z N)] [] [] [] false [] []

theorem z1ma (N : Nat) : EnvOk Tryd.prog (z1nt N) := zi mixed z16 (FnsOk.cons (zed N) (FnsOk.cons (z4c N) (FnsOk.nil))) (ItsOk.nil)

def z98 (N : Nat) (s : (List UInt8)) (x2 : DT1) (x3 : (Int × (Int × Unit))) (x4 : DT3) (k0 : Bool -> Option (DT1 × (Int × (Int × Unit)) × Unit)) : Option (DT1 × (Int × (Int × Unit)) × Unit) :=
 cond (x4.2.2.2.2.1.1 == (0 : Int))
 (k0 (decide (x4.2.2.2.1 < (((List.length s) : Nat) : Int))))
 (k0 false)

def z1iv (N : Nat) (x : z1a z1a0) (K : Ex -> List A -> Option (DT1 × (Int × (Int × Unit)) × Unit)) : Option (DT1 × (Int × (Int × Unit)) × Unit) :=
 z98 N x.1 x.2.1 x.2.2.1 x.2.2.2.1 (fun a4 => (K .normal (mkS [(0, .v .str), (1, .box TT0), (0, .box TT6), (0, .box TT2), (17, .v .bool)] 14 (x.1, x.2.1, x.2.2.1, x.2.2.2.1, a4, ()))))

def z1fp (N : Nat) : Hd (DT1 × (Int × (Int × Unit)) × Unit) := fun st K => (unS z1a0 32 (restr [4, 0, 2, 3] 0 st)).bind fun x => z1iv N x K

def t2_61 (N : Nat) : Tab (DT1 × (Int × (Int × Unit)) × Unit) := []

theorem z1c8 {N : Nat} {c : Ctx} (hb : Base Tryd.prog (z1nt N) c) : zk Tryd.prog c (zf znr [0, 0, 1, 1, 1]) (z1fp N) :=
  zj (s := z1a0) (m := 32) (g := z1iv N) [4, 0, 2, 3] (ze hb N (t2_61 N) L_61 znr TabOk.nil [0, 0, 1, 1, 1] _ rfl) (fun x K => by kernel_rfl)

def z99 (N : Nat) (s : (List UInt8)) (x2 : DT1) (x3 : (Int × (Int × Unit))) (x4 : DT3) (k0 : DT3 -> Option (DT1 × (Int × (Int × Unit)) × Unit)) : Option (DT1 × (Int × (Int × Unit)) × Unit) :=
 z98 N s x2 x3 x4
 (fun x22 => cond x22
 ((z13 N s x4.2.2.2.1).bind fun y =>
 k0 y)
 (k0 x4))

def z1jv (N : Nat) (x : z1a z1a0) (K : Ex -> List A -> Option (DT1 × (Int × (Int × Unit)) × Unit)) : Option (DT1 × (Int × (Int × Unit)) × Unit) :=
 z99 N x.1 x.2.1 x.2.2.1 x.2.2.2.1 (fun a2 => (K .normal (mkS [(2, .box TT0), (0, .box TT6), (0, .box TT2)] 32 (x.2.1, x.2.2.1, a2, ()))))

def z1gp (N : Nat) : Hd (DT1 × (Int × (Int × Unit)) × Unit) := fun st K => (unS z1a0 32 (restr [4, 0, 2, 3] 0 st)).bind fun x => z1jv N x K

def t1_61 (N : Nat) : Tab (DT1 × (Int × (Int × Unit)) × Unit) := [([0, 0, 1, 1, 1], z1fp N)]

theorem z1d8 {N : Nat} {c : Ctx} (hb : Base Tryd.prog (z1nt N) c) : zk Tryd.prog c (zf znr [0, 1, 1, 1]) (z1gp N) :=
  zj (s := z1a0) (m := 32) (g := z1jv N) [4, 0, 2, 3] (ze hb N (t1_61 N) L_61 znr (TabOk.cons (z1c8 hb) TabOk.nil) [0, 1, 1, 1] _ rfl) (fun x K => by kernel_rfl)

def z67 (N : Nat) (s : (List UInt8)) : Option (DT1 × (Int × (Int × Unit)) × Unit) :=
 cond (decide ((256 : Int) < (((List.length s) : Nat) : Int)))
 (some (((0 : Int), (([(0 : Int), (0 : Int), (0 : Int), (0 : Int)] : List Int), (([] : List Tree), ((0 : Int), ((0 : Int), ()))))), (((3 : Int), ((256 : Int), ())), ())))
 ((z3x N s (0 : Int) (0 : Int)).bind fun y =>
 z99 N s ((0 : Int), (([(0 : Int), (0 : Int), (0 : Int), (0 : Int)] : List Int), (([] : List Tree), ((0 : Int), ((0 : Int), ()))))) ((0 : Int), ((0 : Int), ())) y
 (fun x4 => cond (x4.2.2.2.2.1.1 != (0 : Int))
 (some (((0 : Int), (([(0 : Int), (0 : Int), (0 : Int), (0 : Int)] : List Int), (([] : List Tree), ((0 : Int), ((0 : Int), ()))))), (x4.2.2.2.2.1, ())))
 (some (x4.1, (((0 : Int), ((0 : Int), ())), ())))))

def t_61 (N : Nat) : Tab (DT1 × (Int × (Int × Unit)) × Unit) := [([0, 1, 1, 1], z1gp N)]

theorem z16n (N : Nat) (x : z1a [(0, .v .str)]) : zas (z1nt N) N (t_61 N) L_61 Tryd.f15 (mkS [(0, .v .str)] 0 x) (z6d (.tup [TT0, TT6]) 1) = z67 N x.1 := by kernel_rfl

def zc8 (N : Nat) : List A -> Res := z1b [(0, .v .str)] (fun x => z67 N x.1) (zb4 (.tup [TT0, TT6]) 1)

theorem zi4 (N : Nat) : Contract Tryd.prog glob 15 (zc8 N) :=
  Contract.of (E := z1nt N) (H := t_61 N) (L := L_61) (N := N) (body := znr) (K := (z6d (.tup [TT0, TT6]) 1)) (z1ma N) Tryd.func15 (by kernel_rfl) (by decide) (fun _ hb => (TabOk.cons (z1d8 hb) TabOk.nil)) (fun x y h => by rw [z16n]; exact h) (z1p (s := (.tup [TT0, TT6])) (m := 1))

end
end Go.Proofs.YtbfmhambfonpcaaDoorLg

set_option linter.all false
set_option maxRecDepth 100000
namespace Go.Proofs.YtbfmhambfonpcaaDoorLg
noncomputable section
open Go Go.Lift Go.Proofs.YtbfmhambfonpcaaDoorPx

mutual
def z5p : Tree -> Nat
  | .mk _ _ ks _ _ => 1 + z21 ks
def z21 : List Tree -> Nat
  | [] => 0
  | x :: xs => z5p x + z21 xs
end

mutual
def zo5 : Tree -> Tree -> Bool
  | .mk k st ks lo hi, .mk k' st' ks' lo' hi' => k == k' && (st == st' && (lo == lo' && (hi == hi' && (ks.length == ks'.length && zo6 ks ks'))))
def zo6 : List Tree -> List Tree -> Bool
  | x :: xs, y :: ys => zo5 x y && zo6 xs ys
  | _, _ => true
end

def zky (x : Tree) : Int := (unN x).1

theorem zxr : ∀ x : Tree, 0 < z5p x
  | .mk .. => by rw [z5p]; omega

theorem zp2 : ∀ {ks : List Tree} {x : Tree}, x ∈ ks -> z5p x <= z21 ks
  | y :: ks, x, h => by
    rw [z21]
    rcases List.mem_cons.1 h with rfl | h
    . omega
    . have := zp2 h; omega

theorem z4q : ∀ ks : List Tree, ks.length <= z21 ks
  | [] => by simp
  | y :: ks => by have := z4q ks; have := zxr y; rw [z21, List.length_cons]; omega

theorem zxc (d : Tree) {xs ys : List Tree} {i : Nat} (h : i < xs.length) (h' : i < ys.length) : zo6 (xs.drop i) (ys.drop i) = (zo5 (xs.getD i d) (ys.getD i d) && zo6 (xs.drop (i + 1)) (ys.drop (i + 1))) := by
  rw [List.drop_eq_getElem_cons h, List.drop_eq_getElem_cons h', zo6, List.getD_eq_getElem?_getD, List.getD_eq_getElem?_getD, List.getElem?_eq_getElem h, List.getElem?_eq_getElem h']
  rfl

def dT : Tree := .mk 0 [] [] 0 0

theorem z13h {ks : List Tree} (h : z11q ks) {i : Nat} (hi : i < ks.length) : WfN (ks.getD i dT) := by
  rw [List.getD_eq_getElem?_getD, List.getElem?_eq_getElem hi]
  exact (zkc ks).1 h _ (List.getElem_mem hi)

theorem zwk {ks : List Tree} {i : Nat} (hi : i < ks.length) : ks.getD i dT ∈ ks := by
  rw [List.getD_eq_getElem?_getD, List.getElem?_eq_getElem hi]; exact List.getElem_mem hi

theorem zz3 {xs ys : List Tree} (hl : xs.length = ys.length) (hm : xs.length <= maxLen) (self : NodT.den -> NodT.den -> Option Bool) (hself : ∀ i, i < xs.length -> self (unN (xs.getD i dT)) (unN (ys.getD i dT)) = some (zo5 (xs.getD i dT) (ys.getD i dT))) (n : Nat) (hn : xs.length < n)
    (step : Int -> (Int -> Option Bool) -> Option Bool) (hs : ∀ (i : Nat) (r : Int -> Option Bool), step (i : Int) r = cond (decide ((i : Int) < (xs.length : Int))) (cond (inR (i : Int) xs.length) (cond (inR (i : Int) ys.length) ((self (unN (xs.getD (Int.toNat (i : Int)) dT)) (unN (ys.getD (Int.toNat (i : Int)) dT))).bind fun y => cond (!y) (some false) (r (IntKind.wrap .i64 ((i : Int) + 1)))) none) none) (some true)) :
    iter step n 0 = some (zo6 xs ys) := by
  have key := zix (step := step) (fun v => ∃ i : Nat, v = (i : Int) /\ i <= xs.length) (fun v => xs.length - v.toNat) (fun v => some (zo6 (xs.drop v.toNat) (ys.drop v.toNat))) (by
    rintro v r ⟨i, rfl, hi⟩ hr
    rw [hs]
    rcases Nat.lt_or_ge i xs.length with h | h
    . rw [z5f (decide_eq_true (by omega)), z5f (zce h), z5f (zce (by omega)), Int.toNat_natCast, hself i h, Option.bind_some, zxc dT h (by omega)]
      cases hc : zo5 (xs.getD i dT) (ys.getD i dT) with
      | false => rfl
      | true =>
        simp only [Bool.not_true, cond_false, Bool.true_and]
        have hw : IntKind.wrap .i64 ((i : Int) + 1) = ((i + 1 : Nat) : Int) := by
          rw [z4r (by unfold I64; unfold maxLen at hm; omega)]; omega
        rw [hw, hr _ ⟨i + 1, rfl, by omega⟩ (by simp only [Int.toNat_natCast]; omega), Int.toNat_natCast]
    . rw [zel (decide_eq_false (by omega)), Int.toNat_natCast, List.drop_eq_nil_of_le h]
      rfl)
  have := key n 0 ⟨0, rfl, by omega⟩ (by simp; omega)
  simpa using this

theorem zz2 {N : Nat} {f : Nat -> NodT.den -> NodT.den -> Option Bool} {ks : List Tree} (hN : z21 ks < N) (hw : z11q ks)
    (ih : ∀ a b : Tree, z5p a < N -> WfN a -> f N (unN a) (unN b) = some (zo5 a b)) (ys : List Tree) (i : Nat) (hi : i < ks.length) :
    f N (unN (ks.getD i dT)) (unN (ys.getD i dT)) = some (zo5 (ks.getD i dT) (ys.getD i dT)) :=
  ih _ _ (Nat.lt_of_le_of_lt (zp2 (zwk hi)) hN) (z13h hw hi)

theorem eqD4 (x y : List Int) : eqD (T.arr 4 (T.int .u64)) x y = (x == y) := by
  rw [z18d (t := .arr 4 (.int .u64)) rfl, Bool.eq_iff_iff, decide_eq_true_eq, beq_iff_eq]

theorem zov : ∀ (N : Nat) (a b : Tree), z5p a < N -> WfN a -> z2n N (unN a) (unN b) = some (zo5 a b)
  | 0, _, _, h, _ => absurd h (Nat.not_lt_zero _)
  | N + 1, .mk k st ks lo hi, .mk k' st' ks' lo' hi', h, hw => by
    rw [z5p] at h
    rw [WfN] at hw
    have hlen := z4q ks
    show z7j (N + 1) (z2n N) _ _ = _
    rw [zo5]
    unfold z7j zab zaa zdm
    dsimp only [unN]
    rw [eqD4]
    cases h1 : k == k' <;> simp only [bne, h1, Bool.not_false, Bool.not_true, cond_true, cond_false, Bool.false_and, Bool.true_and]
    cases h2 : st == st' <;> simp only [Bool.not_false, Bool.not_true, cond_true, cond_false, Bool.false_and, Bool.true_and]
    cases h3 : lo == lo' <;> simp only [Bool.not_false, Bool.not_true, cond_true, cond_false, Bool.false_and, Bool.true_and]
    cases h4 : hi == hi' <;> simp only [Bool.not_false, Bool.not_true, cond_true, cond_false, Bool.false_and, Bool.true_and]
    have h5 : ((ks.length : Int) == (ks'.length : Int)) = (ks.length == ks'.length) := by rw [Bool.eq_iff_iff, beq_iff_eq, beq_iff_eq]; omega
    rw [h5]
    cases h6 : ks.length == ks'.length <;> simp only [Bool.not_false, Bool.not_true, cond_true, cond_false, Bool.false_and, Bool.true_and]
    exact zz3 (by simpa using h6) hw.2.2.1.1 (z2n N) (fun i hi => zz2 (by omega) hw.2.2.1.2 (fun a b => zov N a b) ks' i hi) (N + 1) (by omega) _ (fun i r => rfl)

theorem z146 {i len : Nat} (h : i < len) (hm : len <= maxLen) : IntKind.wrap .i64 ((i : Int) + 1) = ((i + 1 : Nat) : Int) := by
  rw [z4r (by unfold I64; unfold maxLen at hm; omega)]; omega

end
end Go.Proofs.YtbfmhambfonpcaaDoorLg

set_option linter.all false
set_option maxRecDepth 100000
namespace Go.Proofs.YtbfmhambfonpcaaDoorLg
noncomputable section
open Go Go.Lift Go.Proofs.YtbfmhambfonpcaaDoorPx

def znc (x : Tree) : List Tree := (unN x).2.2.1

def zgg (k : Int) (x : Tree) : List Tree := cond (zky x == k) (znc x) [x]

def z7e (k : Int) (ps : List Tree) : List Tree := ps.flatMap (zgg k)

def ze4 (k : Int) (ps : List Tree) : Tree := match z7e k ps with
  | [x] => x
  | kids => .mk k [0, 0, 0, 0] kids 0 0

theorem zhw (k : Int) {ps : List Tree} {i : Nat} (h : i < ps.length) : z7e k (ps.drop i) = zgg k (ps.getD i dT) ++ z7e k (ps.drop (i + 1)) := by
  rw [List.drop_eq_getElem_cons h, List.getD_eq_getElem?_getD, List.getElem?_eq_getElem h]
  rfl

theorem zk0 (l : List Tree) : (l.map unN).map foN = l := by
  rw [List.map_map]
  conv => rhs; rw [<- List.map_id l]
  exact List.map_congr_left fun x _ => z10q x

theorem z185 (N : Nat) (k : Int) (ps : List Tree) (hm : ps.length <= maxLen) (hN : ps.length < N) (hb : (z7e k ps).length * 80 <= 70368744177664) : z8b N k ps = some (unN (ze4 k ps)) := by
  unfold z8b zjl
  have key : ∀ (x4 : NodT.den) (k0 : List NodT.den -> Option NodT.den), iter (fun (v : (List NodT.den × Int)) r => zaw N k x4 ps (ps.length : Int) v.1 v.2 (fun kids x10 => (r (kids, x10))) k0) N ([], 0) = k0 ((z7e k ps).map unN) := by
    intro x4 k0
    have := zix (step := fun (v : (List NodT.den × Int)) r => zaw N k x4 ps (ps.length : Int) v.1 v.2 (fun kids x10 => (r (kids, x10))) k0)
      (fun v => ∃ i : Nat, v.2 = (i : Int) /\ i <= ps.length /\ (v.1.length + (z7e k (ps.drop i)).length) * 80 <= 70368744177664) (fun v => ps.length - v.2.toNat) (fun v => k0 (v.1 ++ (z7e k (ps.drop v.2.toNat)).map unN)) (by
      rintro ⟨acc, v⟩ r ⟨i, rfl, hi, hbi⟩ hr
      unfold zaw
      dsimp only at hbi ⊢
      rcases Nat.lt_or_ge i ps.length with h | h
      . have ht : decide ((i : Int) < (ps.length : Int)) = true := decide_eq_true (by omega)
        rw [z5f ht, z5f (zce h), Int.toNat_natCast, z146 h hm]
        rw [zhw k h, List.length_append] at hbi
        rw [zhw k h, List.map_append, <- List.append_assoc]
        change cond (zky (ps.getD i dT) == k) (cond (decide (((acc.length + (List.map unN (znc (ps.getD i dT))).length) * 80) <= 70368744177664)) (r (acc ++ List.map unN (znc (ps.getD i dT)), ((i + 1 : Nat) : Int))) none) (cond (decide (((acc.length + 1) * 80) <= 70368744177664)) (r (acc ++ [unN (ps.getD i dT)], ((i + 1 : Nat) : Int))) none) = _
        unfold zgg at hbi ⊢
        cases hk : zky (ps.getD i dT) == k with
        | true =>
          rw [hk] at hbi
          simp only [cond_true] at hbi ⊢
          rw [z5f (decide_eq_true (by rw [List.length_map]; omega)), hr _ ⟨i + 1, rfl, by omega, by simp only [List.length_append, List.length_map]; omega⟩ (by simp only [Int.toNat_natCast]; omega)]
          simp only [Int.toNat_natCast]
        | false =>
          rw [hk] at hbi
          simp only [cond_false, List.length_singleton] at hbi ⊢
          rw [z5f (decide_eq_true (by omega)), hr _ ⟨i + 1, rfl, by omega, by simp only [List.length_append, List.length_singleton]; omega⟩ (by simp only [Int.toNat_natCast]; omega)]
          simp only [Int.toNat_natCast, List.map_cons, List.map_nil]
      . have ht : decide ((i : Int) < (ps.length : Int)) = false := decide_eq_false (by omega)
        rw [zel ht, Int.toNat_natCast, List.drop_eq_nil_of_le h]
        simp [z7e])
    have := this N ([], 0) ⟨0, rfl, by omega, by simpa using hb⟩ (by simp; omega)
    simpa using this
  refine (key _ _).trans ?_
  unfold ze4
  cases hf : z7e k ps with
  | nil => rfl
  | cons x xs =>
    cases xs with
    | nil => rfl
    | cons y ys =>
      have h1 : (((List.map unN (x :: y :: ys)).length : Int) == 1) = false := by
        rw [beq_eq_false_iff_ne]; simp only [List.length_map, List.length_cons]; omega
      rw [zel h1, zk0]
      rfl

end
end Go.Proofs.YtbfmhambfonpcaaDoorLg
