import Derived.Test.YtmeecjkimeiogaaDoorLgPrSo2
import Derived.Test.YtmeecjkimeiogaaDoorLgPrSo1
set_option linter.all false
set_option maxRecDepth 100000
namespace Go.Proofs.YtmeecjkimeiogaaDoorLg
noncomputable section
open Go Go.Lift

def z7n (N : Nat) : List A -> Res := zu z185 (fun x => z4f N x.1 x.2.1) (z5f (.v (.int .u8)) [(0, .box TT2)] 1)

theorem zd2 (N : Nat) : Contract Tryd.prog glob 94 (z7n N) :=
  Contract.of (E := z1mh N) (H := t_47 N) (L := L_47) (N := N) (body := zoc) (K := (z4z (.v (.int .u8)) [(0, .box TT2)] 1)) (z1l9 N) Tryd.func94 (by kernel_rfl) (by decide) (fun _ hb => (TabOk.cons (z1bu hb) TabOk.nil)) (fun x y h => by rw [z15p]; exact h) (z3k (s := (.v (.int .u8))) (os := [(0, .box TT2)]) (m := 1))

def z176 : Code := (Tryd.f85.body).getD .skip

def L_48 : List (List Nat × List Nat) := [([0], [0, 1]), ([0, 1], [4]), ([1, 1], [4])]

def E_48 (N : Nat) : Env := z1s tys glob [(95, zzm)] [] [] [] false [] []

theorem z1l8 (N : Nat) : EnvOk Tryd.prog (E_48 N) := zf mixed zq (FnsOk.cons (z1d0 glob) (FnsOk.nil)) (ItsOk.nil)

def zef (N : Nat) (s : (List UInt8)) (c : Int) : Option Int :=
 some (Go.Lib.indexByte s (Nat.toUInt8 (Int.toNat c)))

def t_48 (N : Nat) : Tab Int := []

theorem z15o (N : Nat) (x : zz [(0, .v .str), (0, .v (.int .u8))]) : z6k (E_48 N) N (t_48 N) L_48 Tryd.f85 (mkS [(0, .v .str), (0, .v (.int .u8))] 0 x) (z4b (.v (.int .i64)) 2) = zef N x.1 x.2.1 := by kernel_rfl

def z39 (N : Nat) : List A -> Res := zu [(0, .v .str), (0, .v (.int .u8))] (fun x => zef N x.1 x.2.1) (z75 (.v (.int .i64)) 2)

theorem z50 (N : Nat) : Contract Tryd.prog glob 85 (z39 N) :=
  Contract.of (E := E_48 N) (H := t_48 N) (L := L_48) (N := N) (body := z176) (K := (z4b (.v (.int .i64)) 2)) (z1l8 N) Tryd.func85 (by kernel_rfl) (by decide) (fun _ hb => TabOk.nil) (fun x y h => by rw [z15o]; exact h) (z1b (s := (.v (.int .i64))) (m := 2))

def zut : Code := (Tryd.f84.body).getD .skip

def L_49 : List (List Nat × List Nat) := [([0], [0, 2]), ([0, 1], [0, 2, 4]), ([0, 1, 1], [0, 2, 4]), ([0, 1, 1, 1], [0, 5, 2, 4]), ([0, 1, 1, 1, 1], [5, 2, 0, 4]), ([0, 0, 0, 1, 1, 1, 1, 1], [22, 2, 0, 5, 4]), ([1, 0, 0, 1, 1, 1, 1, 1], [5, 2, 0]), ([0, 1, 1, 0, 0, 1, 1, 1, 1, 1], [26, 2, 0, 5, 4]), ([1, 1, 1, 0, 0, 1, 1, 1, 1, 1], [5, 2, 0]), ([0, 1, 1, 1, 1, 0, 0, 1, 1, 1, 1, 1], [30, 0, 4, 2, 5]), ([1, 1, 1, 1, 1, 0, 0, 1, 1, 1, 1, 1], [5, 2, 0]), ([0, 1, 1, 1, 1, 1, 1, 0, 0, 1, 1, 1, 1, 1], [42, 0, 4, 5, 2]), ([1, 1, 1, 1, 1, 1, 1, 0, 0, 1, 1, 1, 1, 1], [5, 2, 0]), ([0, 1, 1, 1, 1, 1, 1, 1, 0, 0, 1, 1, 1, 1, 1], [5, 2, 0]), ([0, 0, 1, 1, 1, 1, 1, 0, 0, 1, 1, 1, 1, 1], [6, 0, 4, 2]), ([1, 0, 1, 1, 1, 1, 1, 0, 0, 1, 1, 1, 1, 1], [5, 2, 0]), ([0, 0, 1, 1, 1, 0, 0, 1, 1, 1, 1, 1], [2, 3, 0]), ([1, 0, 1, 1, 1, 0, 0, 1, 1, 1, 1, 1], [2, 3, 0]), ([0, 0, 1, 0, 0, 1, 1, 1, 1, 1], [2, 3, 0]), ([1, 0, 1, 0, 0, 1, 1, 1, 1, 1], [2, 3, 0]), ([0, 1, 1, 1, 1, 1], [5, 2, 0]), (zxv, [2, 3, 0]), (z12a, [2, 3, 0])]

def E_49 (N : Nat) : Env := z1s tys glob [(85, z39 N), (94, z7n N), (93, zam N), (82, z37 N), (87, z1k N), (92, z12 N)] [] [] [0] false [] []

theorem z1l7 (N : Nat) : EnvOk Tryd.prog (E_49 N) := zf mixed zq (FnsOk.cons (z50 N) (FnsOk.cons (zd2 N) (FnsOk.cons (zge N) (FnsOk.cons (z4n N) (FnsOk.cons (z21 N) (FnsOk.cons (z1c N) (FnsOk.nil))))))) (ItsOk.nil)

def zab (N : Nat) (p : DT4) (set_ : (List Int)) (from_ : Int) (b : Int) (k0 : (List Int) -> Bool -> Option zmn) (k1 : DT4 -> Int -> Option zmn) : Option zmn :=
 cond (b == (100 : Int))
 ((z3l N (48 : Int) (57 : Int)).bind fun y =>
 k0 y true)
 (cond (b == (119 : Int))
 ((zcf N ((48 : UInt8) :: (49 : UInt8) :: (50 : UInt8) :: (51 : UInt8) :: (52 : UInt8) :: (53 : UInt8) :: (54 : UInt8) :: (55 : UInt8) :: (56 : UInt8) :: (57 : UInt8) :: (65 : UInt8) :: (66 : UInt8) :: (67 : UInt8) :: (68 : UInt8) :: (69 : UInt8) :: (70 : UInt8) :: (71 : UInt8) :: (72 : UInt8) :: (73 : UInt8) :: (74 : UInt8) :: (75 : UInt8) :: (76 : UInt8) :: (77 : UInt8) :: (78 : UInt8) :: (79 : UInt8) :: (80 : UInt8) :: (81 : UInt8) :: (82 : UInt8) :: (83 : UInt8) :: (84 : UInt8) :: (85 : UInt8) :: (86 : UInt8) :: (87 : UInt8) :: (88 : UInt8) :: (89 : UInt8) :: (90 : UInt8) :: (95 : UInt8) :: (97 : UInt8) :: (98 : UInt8) :: (99 : UInt8) :: (100 : UInt8) :: (101 : UInt8) :: (102 : UInt8) :: (103 : UInt8) :: (104 : UInt8) :: (105 : UInt8) :: (106 : UInt8) :: (107 : UInt8) :: (108 : UInt8) :: (109 : UInt8) :: (110 : UInt8) :: (111 : UInt8) :: (112 : UInt8) :: (113 : UInt8) :: (114 : UInt8) :: (115 : UInt8) :: (116 : UInt8) :: (117 : UInt8) :: (118 : UInt8) :: (119 : UInt8) :: (120 : UInt8) :: (121 : UInt8) :: (122 : UInt8) :: ([] : List UInt8))).bind fun y1 =>
 k0 y1 true)
 (cond (b == (120 : Int))
 ((z4f N p from_).bind fun y2 =>
 (z4f N y2.2.1 from_).bind fun y3 =>
 k1 y3.2.1 (zaa Go.BinOp.or IntKind.u8 (z192 IntKind.u8 y2.1 (4 : Int)) y3.1))
 (cond (decide ((Go.Lib.indexByte ([(92 : UInt8), (46 : UInt8), (91 : UInt8), (93 : UInt8), (40 : UInt8), (41 : UInt8), (123 : UInt8), (125 : UInt8), (124 : UInt8), (42 : UInt8), (43 : UInt8), (63 : UInt8), (45 : UInt8), (94 : UInt8)] : List UInt8) (Nat.toUInt8 (Int.toNat b))) < (0 : Int)))
 (none)
 (k1 p b))))

def z1iv (N : Nat) (x : zz z18e) (K : Ex -> List A -> Option zmn) : Option zmn :=
 zab N x.1 x.2.1 x.2.2.1 x.2.2.2.1 (fun a1 a2 => (K .ret (mkS SQ48 48 (x.1, a1, a2, ())))) (fun a0 a2 => (K .normal (mkS [(0, .box TT2), (1, .box (.arr 4 (.int .u64))), (2, .v (.int .u8))] 46 (a0, x.2.1, a2, ()))))

def z1fk (N : Nat) : Hd zmn := fun st K => (unS z18e 46 (restr [5, 2, 0, 4] 0 st)).bind fun x => z1iv N x K

def t1_49 (N : Nat) : Tab zmn := []

theorem z1bt {N : Nat} {c : Ctx} (hb : Base Tryd.prog (E_49 N) c) : zh Tryd.prog c (ze zut [0, 1, 1, 1, 1, 1]) (z1fk N) :=
  zi (s := z18e) (m := 46) (g := z1iv N) [5, 2, 0, 4] (zd hb N (t1_49 N) L_49 zut TabOk.nil [0, 1, 1, 1, 1, 1] _ rfl) (fun x K => by kernel_rfl)

def z31 (N : Nat) (p : DT4) : Option zmn :=
 (z1g N p (92 : Int)).bind fun y =>
 (z1f N y.2.1).bind fun y1 =>
 zab N (y1.2.1.1, ((IntKind.wrap IntKind.i64 (y1.2.1.2.1 + (1 : Int))), y1.2.1.2.2)) ([(0 : Int), (0 : Int), (0 : Int), (0 : Int)] : List Int) p.2.1 y1.1
 (fun set_ class_ => some ((set_, (class_, ())), ((y1.2.1.1, ((IntKind.wrap IntKind.i64 (y1.2.1.2.1 + (1 : Int))), y1.2.1.2.2)), ())))
 (fun p1 b => (z3l N b b).bind fun y2 =>
 some ((y2, (false, ())), (p1, ())))

def t_49 (N : Nat) : Tab zmn := [([0, 1, 1, 1, 1, 1], z1fk N)]

theorem z15n (N : Nat) (x : zz [(0, .box TT2)]) : z6k (E_49 N) N (t_49 N) L_49 Tryd.f84 (mkS [(0, .box TT2)] 0 x) (z4z (.tup [(.arr 4 (.int .u64)), .bool]) [(0, .box TT2)] 0) = z31 N x.1 := by kernel_rfl

def z2q (N : Nat) : List A -> Res := zu [(0, .box TT2)] (fun x => z31 N x.1) (z5f (.tup [(.arr 4 (.int .u64)), .bool]) [(0, .box TT2)] 0)

theorem z49 (N : Nat) : Contract Tryd.prog glob 84 (z2q N) :=
  Contract.of (E := E_49 N) (H := t_49 N) (L := L_49) (N := N) (body := zut) (K := (z4z (.tup [(.arr 4 (.int .u64)), .bool]) [(0, .box TT2)] 0)) (z1l7 N) Tryd.func84 (by kernel_rfl) (by decide) (fun _ hb => (TabOk.cons (z1bt hb) TabOk.nil)) (fun x y h => by rw [z15n]; exact h) (z3k (s := (.tup [(.arr 4 (.int .u64)), .bool])) (os := [(0, .box TT2)]) (m := 0))

def zob : Code := (Tryd.f97.body).getD .skip

def L_50 : List (List Nat × List Nat) := [([0], [0, 2]), ([0, 1], [4, 0, 2]), ([0, 0, 1, 1], [7, 0, 2, 4]), ([0, 0, 1, 0, 1, 1], [8, 0, 2, 7, 4]), ([1, 0, 1, 0, 1, 1], [0, 4, 2]), ([0, 0, 1, 1, 0, 1, 0, 1, 1], [14, 0, 4, 2, 7]), ([1, 0, 1, 1, 0, 1, 0, 1, 1], [14, 0, 4, 2]), ([0, 1, 1, 0, 1, 1, 0, 1, 0, 1, 1], [14, 0, 4, 2, 7]), ([1, 1, 1, 0, 1, 1, 0, 1, 0, 1, 1], [14, 0, 4, 2]), ([0, 1, 1, 1, 1, 0, 1, 1, 0, 1, 0, 1, 1], [14, 0, 4, 2, 7]), ([1, 1, 1, 1, 1, 0, 1, 1, 0, 1, 0, 1, 1], [14, 0, 4, 2]), ([1, 1, 1, 1, 1, 1, 0, 1, 1, 0, 1, 0, 1, 1], [14, 0, 4, 2]), ([1, 1, 1, 0, 1, 0, 1, 1], [0, 4, 2]), ([0, 1, 1, 1, 0, 1, 0, 1, 1], [0, 4, 2]), ([0, 0, 1, 0, 1, 0, 1, 1], [2, 3, 0]), ([1, 0, 1, 0, 1, 0, 1, 1], [2, 3, 0]), ([1, 0, 1, 1], [0, 4, 2]), ([0, 1, 1, 1], [4, 2, 0]), ([0, 1, 1, 1, 1], [2, 3, 0]), ([1, 1, 1, 1, 1], [2, 3, 0])]

def z1mg (N : Nat) : Env := z1s tys glob [(84, z2q N), (82, z37 N), (92, z12 N)] [] [] [0] false [] []

theorem z1l6 (N : Nat) : EnvOk Tryd.prog (z1mg N) := zf mixed zq (FnsOk.cons (z49 N) (FnsOk.cons (z4n N) (FnsOk.cons (z1c N) (FnsOk.nil)))) (ItsOk.nil)

def zbl (N : Nat) (p : DT4) (set_ : (List Int)) (b : Int) (x7 : Int) (k0 : Bool -> Option zmn) : Option zmn :=
 cond (x7 == (91 : Int))
 (k0 (x7 == (91 : Int)))
 (cond (x7 == (93 : Int))
 (k0 (x7 == (93 : Int)))
 (cond (x7 == (45 : Int))
 (k0 (x7 == (45 : Int)))
 (k0 (x7 == (94 : Int)))))

def z1hk (N : Nat) (x : zz z18d) (K : Ex -> List A -> Option zmn) : Option zmn :=
 zbl N x.1 x.2.1 x.2.2.1 x.2.2.2.1 (fun a3 => (K .normal (mkS [(0, .box TT2), (1, .box (.arr 4 (.int .u64))), (1, .v (.int .u8)), (9, .v .bool)] 20 (x.1, x.2.1, x.2.2.1, a3, ()))))

def z1e9 (N : Nat) : Hd zmn := fun st K => (unS z18d 27 (restr [7, 0, 4, 2] 0 st)).bind fun x => z1hk N x K

def t2_50 (N : Nat) : Tab zmn := []

theorem z1ai {N : Nat} {c : Ctx} (hb : Base Tryd.prog (z1mg N) c) : zh Tryd.prog c (ze zob z17n) (z1e9 N) :=
  zi (s := z18d) (m := 27) (g := z1hk N) [7, 0, 4, 2] (zd hb N (t2_50 N) L_50 zob TabOk.nil z17n _ rfl) (fun x K => by kernel_rfl)

def zbm (N : Nat) (p : DT4) (set_ : (List Int)) (b : Int) (k0 : DT4 -> (List Int) -> Bool -> Option zmn) (k1 : Option zmn) : Option zmn :=
 cond (b == (92 : Int))
 ((z31 N p).bind fun y =>
 k0 y.2.1 y.1.1 y.1.2.1)
 (zbl N p set_ b b
 (fun x14 => cond x14
 (none)
 (k1)))

def z1iu (N : Nat) (x : zz z13c) (K : Ex -> List A -> Option zmn) : Option zmn :=
 zbm N x.1 x.2.1 x.2.2.1 (fun a0 a1 a2 => (K .ret (mkS SQ48 31 (a0, a1, a2, ())))) (K .normal (mkS z13c 30 (x.1, x.2.1, x.2.2.1, ())))

def z1fj (N : Nat) : Hd zmn := fun st K => (unS z13c 30 (restr [4, 0, 2] 0 st)).bind fun x => z1iu N x K

def t1_50 (N : Nat) : Tab zmn := [(z17n, z1e9 N)]

theorem z1bs {N : Nat} {c : Ctx} (hb : Base Tryd.prog (z1mg N) c) : zh Tryd.prog c (ze zob [0, 1, 1]) (z1fj N) :=
  zi (s := z13c) (m := 30) (g := z1iu N) [4, 0, 2] (zd hb N (t1_50 N) L_50 zob (TabOk.cons (z1ai hb) TabOk.nil) [0, 1, 1] _ rfl) (fun x K => by kernel_rfl)

def z3y (N : Nat) (p : DT4) : Option zmn :=
 (z1f N p).bind fun y =>
 zbm N y.2.1 ([(0 : Int), (0 : Int), (0 : Int), (0 : Int)] : List Int) y.1
 (fun p1 set_ class_ => some ((set_, (class_, ())), (p1, ())))
 ((z3l N y.1 y.1).bind fun y1 =>
 some ((y1, (false, ())), ((y.2.1.1, ((IntKind.wrap IntKind.i64 (y.2.1.2.1 + (1 : Int))), y.2.1.2.2)), ())))

def t_50 (N : Nat) : Tab zmn := [([0, 1, 1], z1fj N)]

theorem z15m (N : Nat) (x : zz [(0, .box TT2)]) : z6k (z1mg N) N (t_50 N) L_50 Tryd.f97 (mkS [(0, .box TT2)] 0 x) (z4z (.tup [(.arr 4 (.int .u64)), .bool]) [(0, .box TT2)] 0) = z3y N x.1 := by kernel_rfl

def z6q (N : Nat) : List A -> Res := zu [(0, .box TT2)] (fun x => z3y N x.1) (z5f (.tup [(.arr 4 (.int .u64)), .bool]) [(0, .box TT2)] 0)

theorem zbn (N : Nat) : Contract Tryd.prog glob 97 (z6q N) :=
  Contract.of (E := z1mg N) (H := t_50 N) (L := L_50) (N := N) (body := zob) (K := (z4z (.tup [(.arr 4 (.int .u64)), .bool]) [(0, .box TT2)] 0)) (z1l6 N) Tryd.func97 (by kernel_rfl) (by decide) (fun _ hb => (TabOk.cons (z1bs hb) TabOk.nil)) (fun x y h => by rw [z15m]; exact h) (z3k (s := (.tup [(.arr 4 (.int .u64)), .bool])) (os := [(0, .box TT2)]) (m := 0))

def z175 : Code := (Tryd.f79.body).getD .skip

def L_51 : List (List Nat × List Nat) := [([0], [0]), ([0, 0, 1], [4, 0]), ([1, 0, 1], [0]), ([0, 0, 1, 0, 1], [2]), ([1, 0, 1, 0, 1], [2]), ([0, 1, 1], [2]), ([1, 1, 1], [2])]

def E_51 (N : Nat) : Env := z1s tys glob [] [] [] [] false [] []

theorem z1l5 (N : Nat) : EnvOk Tryd.prog (E_51 N) := zf mixed zq (FnsOk.nil) (ItsOk.nil)

def z4w (N : Nat) (x0 : Int) : Option Int :=
 cond (x0 == (0 : Int))
 (some (64 : Int))
 (cond (inR (z191 IntKind.u64 (IntKind.wrap IntKind.u64 ((285870213051353865 : Int) * (zaa Go.BinOp.and IntKind.u64 x0 (IntKind.wrap IntKind.u64 ((0 : Int) - x0))))) (58 : Int)) 64)
 (some (IntKind.wrap IntKind.i64 (List.getD glob0 (Int.toNat (z191 IntKind.u64 (IntKind.wrap IntKind.u64 ((285870213051353865 : Int) * (zaa Go.BinOp.and IntKind.u64 x0 (IntKind.wrap IntKind.u64 ((0 : Int) - x0))))) (58 : Int))) (0 : Int))))
 (none))

def t_51 (N : Nat) : Tab Int := []

theorem z15l (N : Nat) (x : zz [(0, .v (.int .u64))]) : z6k (E_51 N) N (t_51 N) L_51 Tryd.f79 (mkS [(0, .v (.int .u64))] 0 x) (z4b (.v (.int .i64)) 1) = z4w N x.1 := by kernel_rfl

def z5x (N : Nat) : List A -> Res := zu [(0, .v (.int .u64))] (fun x => z4w N x.1) (z75 (.v (.int .i64)) 1)

theorem zce (N : Nat) : Contract Tryd.prog glob 79 (z5x N) :=
  Contract.of (E := E_51 N) (H := t_51 N) (L := L_51) (N := N) (body := z175) (K := (z4b (.v (.int .i64)) 1)) (z1l5 N) Tryd.func79 (by kernel_rfl) (by decide) (fun _ hb => TabOk.nil) (fun x y h => by rw [z15l]; exact h) (z1b (s := (.v (.int .i64))) (m := 1))

def zus : Code := (Tryd.f98.body).getD .skip

def L_52 : List (List Nat × List Nat) := [([0], [1]), ([0, 0, 1], [6, 1]), ([1, 0, 1], [1]), ([0, 0, 1, 0, 1], [2]), ([1, 0, 1, 0, 1], [2]), ([0, 1, 1], [3, 1]), ([0, 0, 1, 1, 1], [3, 1]), ([0, 0, 0, 0, 0, 1, 1, 1], [10, 3, 1]), ([1, 0, 0, 0, 0, 1, 1, 1], [3, 1]), ([1, 1, 0, 0, 0, 0, 1, 1, 1], [3, 1]), ([0, 1, 0, 0, 0, 1, 1, 1], [3, 1]), ([1, 0, 0, 0, 1, 1, 1], [3, 1]), ([0, 1, 1, 1], [3, 1]), ([0, 1, 1, 1, 1], [2]), ([1, 1, 1, 1, 1], [2])]

def E_52 (N : Nat) : Env := z1s tys glob [(79, z5x N)] [] [] [] false [] []

theorem z1l4 (N : Nat) : EnvOk Tryd.prog (E_52 N) := zf mixed zq (FnsOk.cons (zce N) (FnsOk.nil)) (ItsOk.nil)

def zgf (N : Nat) (s : (List Int)) (i : Int) (rec : Int -> Option Int) (k0 : Int -> Option Int) : Option Int :=
 cond (inR i 4)
 (cond (decide ((Int.toNat i) < (List.length s)))
 (cond ((List.getD s (Int.toNat i) (0 : Int)) == (0 : Int))
 (rec (IntKind.wrap IntKind.i64 (i + (1 : Int))))
 (k0 i))
 (none))
 (none)

def zm8 (N : Nat) (s : (List Int)) (i : Int) (k0 : Int -> Option Int) : Option Int :=
 iter (fun (v : Int) r => zgf N s v (fun i => (r i)) k0) N i

def z1it (N : Nat) (i : (List Int)) (v : Int) (r : Int -> Option Int) (K : Ex -> List A -> Option Int) : Option Int :=
 zgf N i v (fun i => (r i)) (fun a1 => (K (.exit 0) (mkS SQ95 16 (i, a1, ()))))

def z1fi (N : Nat) : Hd Int := fun st K => (unS SQ95 16 (restr [3, 1] 0 st)).bind fun x => iter (fun v r => z1it N ((fun x => x.1) x) v r K) N ((fun x => x.2.1) x)

def t1_52 (N : Nat) : Tab Int := []

theorem z1br {N : Nat} {c : Ctx} (hb : Base Tryd.prog (E_52 N) c) : zh Tryd.prog c (ze zus [0, 0, 1, 1, 1]) (z1fi N) :=
  z1w (s := SQ95) (m := 16) (z1it N) [3, 1] N (fun x => x.1) (fun x => x.2.1) (fun i v => (i, v, ())) (fun _ => rfl) (zd hb N (t1_52 N) L_52 zus TabOk.nil [0, 0, 0, 1, 1, 1] _ rfl) (fun i v r K => by kernel_rfl)

def z38 (N : Nat) (s : (List Int)) : Option Int :=
 cond (eqD (T.arr 4 (T.int IntKind.u64)) s ([(0 : Int), (0 : Int), (0 : Int), (0 : Int)] : List Int))
 (some (-(1 : Int)))
 (zm8 N s (0 : Int)
 (fun i => cond (inR i 4)
 (cond (decide ((Int.toNat i) < (List.length s)))
 ((z4w N (List.getD s (Int.toNat i) (0 : Int))).bind fun y =>
 some (IntKind.wrap IntKind.i64 ((IntKind.wrap IntKind.i64 (i * (64 : Int))) + y)))
 (none))
 (none)))

def t_52 (N : Nat) : Tab Int := [([0, 0, 1, 1, 1], z1fi N)]

theorem z15k (N : Nat) (x : zz z127) : z6k (E_52 N) N (t_52 N) L_52 Tryd.f98 (mkS z127 0 x) (z4b (.v (.int .i64)) 1) = z38 N x.1 := by kernel_rfl

def zan (N : Nat) : List A -> Res := zu z127 (fun x => z38 N x.1) (z75 (.v (.int .i64)) 1)

theorem zgg (N : Nat) : Contract Tryd.prog glob 98 (zan N) :=
  Contract.of (E := E_52 N) (H := t_52 N) (L := L_52) (N := N) (body := zus) (K := (z4b (.v (.int .i64)) 1)) (z1l4 N) Tryd.func98 (by kernel_rfl) (by decide) (fun _ hb => (TabOk.cons (z1br hb) TabOk.nil)) (fun x y h => by rw [z15k]; exact h) (z1b (s := (.v (.int .i64))) (m := 1))

def zfy : Code := (Tryd.f89.body).getD .skip

def z18j : List (List Nat × List Nat) := [([0], [0, 2]), ([0, 1], [4, 0, 3, 2]), ([0, 0, 1, 1], [17, 3, 2, 0]), ([1, 0, 1, 1], [0, 3, 2]), ([0, 0, 1, 0, 1, 1], [2, 0]), ([1, 0, 1, 0, 1, 1], [2, 0]), ([0, 1, 1, 1], [0, 3, 5, 2]), ([0, 1, 1, 1, 1], [4, 6, 3, 0, 5, 2]), (zkp, [35, 0, 5, 3, 6, 2]), (zxw, [3, 6, 2, 0]), (zy5, [3, 6, 2, 0]), (zxv, [2, 0]), (z12a, [2, 0])]

def z17u (N : Nat) : Env := z1s tys glob [(98, zan N), (97, z6q N), (57, z1j N), (82, z37 N)] [] [] [0] false [] []

theorem z1l3 (N : Nat) : EnvOk Tryd.prog (z17u N) := zf mixed zq (FnsOk.cons (zgg N) (FnsOk.cons (zbn N) (FnsOk.cons (z20 N) (FnsOk.cons (z4n N) (FnsOk.nil))))) (ItsOk.nil)

def zbs (N : Nat) (p : DT4) (x2 : (List Int)) (first : (List Int)) (class_ : Bool) (k0 : DT4 -> Bool -> Option zg2) : Option zg2 :=
 cond class_
 (k0 p true)
 ((z14 N p (45 : Int)).bind fun y =>
 k0 y.2.1 (!y.1))

def z1hj (N : Nat) (x : zz SQ3) (K : Ex -> List A -> Option zg2) : Option zg2 :=
 zbs N x.1 x.2.1 x.2.2.1 x.2.2.2.1 (fun a0 a3 => (K .normal (mkS SQ76 28 (a0, x.2.1, x.2.2.1, a3, ()))))

def z1e8 (N : Nat) : Hd zg2 := fun st K => (unS SQ3 41 (restr [4, 0, 3, 2] 0 st)).bind fun x => z1hj N x K

def t2_53 (N : Nat) : Tab zg2 := []

theorem z1ah {N : Nat} {c : Ctx} (hb : Base Tryd.prog (z17u N) c) : zh Tryd.prog c (ze zfy [0, 0, 1, 1]) (z1e8 N) :=
  zi (s := SQ3) (m := 41) (g := z1hj N) [4, 0, 3, 2] (zd hb N (t2_53 N) z18j zfy TabOk.nil [0, 0, 1, 1] _ rfl) (fun x K => by kernel_rfl)

def zbt (N : Nat) (p : DT4) (x2 : (List Int)) (first : (List Int)) (class_ : Bool) (k0 : DT4 -> Option zg2) (k1 : DT4 -> Option zg2) : Option zg2 :=
 zbs N p x2 first class_
 (fun p1 x17 => cond x17
 (k0 p1)
 (k1 p1))

def z1is (N : Nat) (x : zz SQ3) (K : Ex -> List A -> Option zg2) : Option zg2 :=
 zbt N x.1 x.2.1 x.2.2.1 x.2.2.2.1 (fun a0 => (K .ret (mkS [(0, .box TT2), (1, .box (.arr 4 (.int .u64)))] 43 (a0, x.2.2.1, ())))) (fun a0 => (K .normal (mkS [(0, .box TT2), (1, .box (.arr 4 (.int .u64))), (0, .box (.arr 4 (.int .u64)))] 42 (a0, x.2.1, x.2.2.1, ()))))

def z1fh (N : Nat) : Hd zg2 := fun st K => (unS SQ3 41 (restr [4, 0, 3, 2] 0 st)).bind fun x => z1is N x K

def t1_53 (N : Nat) : Tab zg2 := [([0, 0, 1, 1], z1e8 N)]

theorem z1bq {N : Nat} {c : Ctx} (hb : Base Tryd.prog (z17u N) c) : zh Tryd.prog c (ze zfy [0, 1, 1]) (z1fh N) :=
  zi (s := SQ3) (m := 41) (g := z1is N) [4, 0, 3, 2] (zd hb N (t1_53 N) z18j zfy (TabOk.cons (z1ah hb) TabOk.nil) [0, 1, 1] _ rfl) (fun x K => by kernel_rfl)

def zbq (N : Nat) (p : DT4) (x2 : (List Int)) (first : (List Int)) (class_ : Bool) (from_ : Int) (last : (List Int)) (k0 : Bool -> Option zg2) : Option zg2 :=
 cond class_
 (k0 true)
 ((z38 N last).bind fun y =>
 (z38 N first).bind fun y1 =>
 k0 (decide (y < y1)))

def z1gq (N : Nat) (x : zz SQ1) (K : Ex -> List A -> Option zg2) : Option zg2 :=
 zbq N x.1 x.2.1 x.2.2.1 x.2.2.2.1 x.2.2.2.2.1 x.2.2.2.2.2.1 (fun a5 => (K .normal (mkS SQ35 10 (x.1, x.2.1, x.2.2.1, x.2.2.2.2.1, x.2.2.2.2.2.1, a5, ()))))

def z1df (N : Nat) : Hd zg2 := fun st K => (unS SQ1 39 (restr [4, 6, 3, 0, 5, 2] 0 st)).bind fun x => z1gq N x K

def t4_53 (N : Nat) : Tab zg2 := []

theorem z19o {N : Nat} {c : Ctx} (hb : Base Tryd.prog (z17u N) c) : zh Tryd.prog c (ze zfy zkp) (z1df N) :=
  zi (s := SQ1) (m := 39) (g := z1gq N) [4, 6, 3, 0, 5, 2] (zd hb N (t4_53 N) z18j zfy TabOk.nil zkp _ rfl) (fun x K => by kernel_rfl)

def zbr (N : Nat) (p : DT4) (x2 : (List Int)) (first : (List Int)) (class_ : Bool) (from_ : Int) (last : (List Int)) (k0 : Option zg2) : Option zg2 :=
 zbq N p x2 first class_ from_ last
 (fun x35 => cond x35
 (none)
 (k0))

def z1h0 (N : Nat) (x : zz SQ1) (K : Ex -> List A -> Option zg2) : Option zg2 :=
 zbr N x.1 x.2.1 x.2.2.1 x.2.2.2.1 x.2.2.2.2.1 x.2.2.2.2.2.1 (K .normal (mkS SQ62 39 (x.1, x.2.1, x.2.2.1, x.2.2.2.2.2.1, ())))

def z1dp (N : Nat) : Hd zg2 := fun st K => (unS SQ1 39 (restr [4, 6, 3, 0, 5, 2] 0 st)).bind fun x => z1h0 N x K

def t3_53 (N : Nat) : Tab zg2 := [(zkp, z1df N)]

theorem z19y {N : Nat} {c : Ctx} (hb : Base Tryd.prog (z17u N) c) : zh Tryd.prog c (ze zfy [0, 1, 1, 1, 1, 1]) (z1dp N) :=
  zi (s := SQ1) (m := 39) (g := z1h0 N) [4, 6, 3, 0, 5, 2] (zd hb N (t3_53 N) z18j zfy (TabOk.cons (z19o hb) TabOk.nil) [0, 1, 1, 1, 1, 1] _ rfl) (fun x K => by kernel_rfl)

def z3z (N : Nat) (p : DT4) : Option zg2 :=
 (z3y N p).bind fun y =>
 zbt N y.2.1 ([(0 : Int), (0 : Int), (0 : Int), (0 : Int)] : List Int) y.1.1 y.1.2.1
 (fun p1 => some (y.1.1, (p1, ())))
 (fun p2 => (z3y N p2).bind fun y1 =>
 zbr N y1.2.1 ([(0 : Int), (0 : Int), (0 : Int), (0 : Int)] : List Int) y.1.1 y1.1.2.1 p2.2.1 y1.1.1
 ((z38 N y.1.1).bind fun y2 =>
 (z38 N y1.1.1).bind fun y3 =>
 (z3l N (IntKind.wrap IntKind.u8 y2) (IntKind.wrap IntKind.u8 y3)).bind fun y4 =>
 some (y4, (y1.2.1, ()))))

def t_53 (N : Nat) : Tab zg2 := [([0, 1, 1], z1fh N), ([0, 1, 1, 1, 1, 1], z1dp N)]

theorem z15j (N : Nat) (x : zz [(0, .box TT2)]) : z6k (z17u N) N (t_53 N) z18j Tryd.f89 (mkS [(0, .box TT2)] 0 x) (z4z (.v (.arr 4 (.int .u64))) [(0, .box TT2)] 0) = z3z N x.1 := by kernel_rfl

def z6r (N : Nat) : List A -> Res := zu [(0, .box TT2)] (fun x => z3z N x.1) (z5f (.v (.arr 4 (.int .u64))) [(0, .box TT2)] 0)

theorem zbu (N : Nat) : Contract Tryd.prog glob 89 (z6r N) :=
  Contract.of (E := z17u N) (H := t_53 N) (L := z18j) (N := N) (body := zfy) (K := (z4z (.v (.arr 4 (.int .u64))) [(0, .box TT2)] 0)) (z1l3 N) Tryd.func89 (by kernel_rfl) (by decide) (fun _ hb => (TabOk.cons (z1bq hb) (TabOk.cons (z19y hb) TabOk.nil))) (fun x y h => by rw [z15j]; exact h) (z3k (s := (.v (.arr 4 (.int .u64)))) (os := [(0, .box TT2)]) (m := 0))

def zur : Code := (Tryd.f90.body).getD .skip

def L_54 : List (List Nat × List Nat) := [([0], [2, 3, 4]), ([0, 0, 1], [6, 2, 3, 4]), ([0, 1, 0, 1], [6, 2, 3, 4]), ([0, 0, 0, 1, 0, 1], [7, 6, 2, 3, 4]), ([0, 1, 0, 0, 1, 0, 1], [6, 2, 3, 4]), ([1, 0, 1, 0, 0, 1, 0, 1], [2, 4]), ([0, 0, 0, 1, 1, 0, 0, 1, 0, 1], [5, 2, 3, 6, 4]), ([1, 0, 0, 1, 1, 0, 0, 1, 0, 1], [6, 2, 3, 4]), ([0, 1, 1, 0, 0, 1, 0, 1], [6, 2, 3, 4]), ([1, 1, 1, 0, 0, 1, 0, 1], [6, 2, 3, 4]), ([1, 0, 1], [2, 4]), ([0, 1, 1], [4]), ([1, 1, 1], [4])]

def E_54 (N : Nat) : Env := z1s tys glob [] [] [] [] false [] []

theorem z1l2 (N : Nat) : EnvOk Tryd.prog (E_54 N) := zf mixed zq (FnsOk.nil) (ItsOk.nil)

def zkf (N : Nat) (t : (List Int)) (x4 : (List Int)) (s : (List Int)) (x6 : Int) (rec : (List Int) -> Int -> Option (List Int)) (k0 : (List Int) -> Option (List Int)) : Option (List Int) :=
 cond (decide (x6 < (4 : Int)))
 (cond (inR x6 4)
 (cond (decide ((Int.toNat x6) < (List.length s)))
 (cond (inR x6 4)
 (cond (decide ((Int.toNat x6) < (List.length t)))
 (cond (inR x6 4)
 (cond (decide ((Int.toNat x6) < (List.length s)))
 (rec (List.set s (Int.toNat x6) (zaa Go.BinOp.or IntKind.u64 (List.getD s (Int.toNat x6) (0 : Int)) (List.getD t (Int.toNat x6) (0 : Int)))) (IntKind.wrap IntKind.i64 (x6 + (1 : Int))))
 (none))
 (none))
 (none))
 (none))
 (none))
 (none))
 (k0 s)

def zr6 (N : Nat) (s : (List Int)) (t : (List Int)) (x4 : (List Int)) (x6 : Int) (k0 : (List Int) -> Option (List Int)) : Option (List Int) :=
 iter (fun (v : ((List Int) × Int)) r => zkf N t x4 v.1 v.2 (fun s x6 => (r (s, x6))) k0) N (s, x6)

def z1ir (N : Nat) (i : ((List Int) × (List Int))) (v : ((List Int) × Int)) (r : ((List Int) × Int) -> Option (List Int)) (K : Ex -> List A -> Option (List Int)) : Option (List Int) :=
 zkf N i.1 i.2 v.1 v.2 (fun s x6 => (r (s, x6))) (fun a0 => (K (.exit 0) (mkS [(2, .box (.arr 4 (.int .u64))), (1, .box (.arr 4 (.int .u64)))] 14 (a0, i.2, ()))))

def z1fg (N : Nat) : Hd (List Int) := fun st K => (unS SQ56 12 (restr [6, 2, 3, 4] 0 st)).bind fun x => iter (fun v r => z1ir N ((fun x => (x.2.1, x.2.2.1)) x) v r K) N ((fun x => (x.1, x.2.2.2.1)) x)

def t1_54 (N : Nat) : Tab (List Int) := []

theorem z1bp {N : Nat} {c : Ctx} (hb : Base Tryd.prog (E_54 N) c) : zh Tryd.prog c (ze zur [0, 1, 0, 1]) (z1fg N) :=
  z1w (s := SQ56) (m := 12) (z1ir N) [6, 2, 3, 4] N (fun x => (x.2.1, x.2.2.1)) (fun x => (x.1, x.2.2.2.1)) (fun i v => (v.1, i.1, i.2, v.2, ())) (fun _ => rfl) (zd hb N (t1_54 N) L_54 zur TabOk.nil [0, 0, 1, 0, 1] _ rfl) (fun i v r K => by kernel_rfl)

def zhy (N : Nat) (s : (List Int)) (t : (List Int)) : Option (List Int) :=
 zr6 N s t ([(0 : Int), (0 : Int), (0 : Int), (0 : Int)] : List Int) (0 : Int)
 (fun s1 => some s1)

def t_54 (N : Nat) : Tab (List Int) := [([0, 1, 0, 1], z1fg N)]

theorem z15i (N : Nat) (x : zz SQ86) : z6k (E_54 N) N (t_54 N) L_54 Tryd.f90 (mkS SQ86 0 x) (z4b (.v (.arr 4 (.int .u64))) 2) = zhy N x.1 x.2.1 := by kernel_rfl

def zec (N : Nat) : List A -> Res := zu SQ86 (fun x => zhy N x.1 x.2.1) (z75 (.v (.arr 4 (.int .u64))) 2)

theorem zkg (N : Nat) : Contract Tryd.prog glob 90 (zec N) :=
  Contract.of (E := E_54 N) (H := t_54 N) (L := L_54) (N := N) (body := zur) (K := (z4b (.v (.arr 4 (.int .u64))) 2)) (z1l2 N) Tryd.func90 (by kernel_rfl) (by decide) (fun _ hb => (TabOk.cons (z1bp hb) TabOk.nil)) (fun x y h => by rw [z15i]; exact h) (z1b (s := (.v (.arr 4 (.int .u64)))) (m := 2))

def zuq : Code := (Tryd.f91.body).getD .skip

def L_55 : List (List Nat × List Nat) := [([0], [1, 2]), ([0, 0, 1], [4, 1, 2]), ([0, 1, 0, 1], [4, 1, 2]), ([0, 0, 0, 1, 0, 1], [5, 4, 1, 2]), ([0, 1, 0, 0, 1, 0, 1], [4, 1, 2]), ([1, 0, 1, 0, 0, 1, 0, 1], [1, 2]), ([0, 0, 0, 1, 1, 0, 0, 1, 0, 1], [3, 1, 4, 2]), ([1, 0, 0, 1, 1, 0, 0, 1, 0, 1], [4, 1, 2]), ([0, 1, 1, 0, 0, 1, 0, 1], [4, 1, 2]), ([1, 1, 1, 0, 0, 1, 0, 1], [4, 1, 2]), ([1, 0, 1], [1, 2]), ([0, 1, 1], [2]), ([1, 1, 1], [2])]

def E_55 (N : Nat) : Env := z1s tys glob [] [] [] [] false [] []

theorem z1l1 (N : Nat) : EnvOk Tryd.prog (E_55 N) := zf mixed zq (FnsOk.nil) (ItsOk.nil)

def zim (N : Nat) (x2 : (List Int)) (s : (List Int)) (x4 : Int) (rec : (List Int) -> Int -> Option (List Int)) (k0 : (List Int) -> Option (List Int)) : Option (List Int) :=
 cond (decide (x4 < (4 : Int)))
 (cond (inR x4 4)
 (cond (decide ((Int.toNat x4) < (List.length s)))
 (cond (inR x4 4)
 (cond (decide ((Int.toNat x4) < (List.length s)))
 (rec (List.set s (Int.toNat x4) (zaa Go.BinOp.xor IntKind.u64 (if ((IntKind.signed IntKind.u64) = true) then (-(1 : Int)) else (IntKind.max IntKind.u64)) (List.getD s (Int.toNat x4) (0 : Int)))) (IntKind.wrap IntKind.i64 (x4 + (1 : Int))))
 (none))
 (none))
 (none))
 (none))
 (k0 s)

def zp9 (N : Nat) (s : (List Int)) (x2 : (List Int)) (x4 : Int) (k0 : (List Int) -> Option (List Int)) : Option (List Int) :=
 iter (fun (v : ((List Int) × Int)) r => zim N x2 v.1 v.2 (fun s x4 => (r (s, x4))) k0) N (s, x4)

def z1iq (N : Nat) (i : (List Int)) (v : ((List Int) × Int)) (r : ((List Int) × Int) -> Option (List Int)) (K : Ex -> List A -> Option (List Int)) : Option (List Int) :=
 zim N i v.1 v.2 (fun s x4 => (r (s, x4))) (fun a0 => (K (.exit 0) (mkS [(1, .box (.arr 4 (.int .u64))), (0, .box (.arr 4 (.int .u64)))] 12 (a0, i, ()))))

def z1ff (N : Nat) : Hd (List Int) := fun st K => (unS [(1, .box (.arr 4 (.int .u64))), (0, .box (.arr 4 (.int .u64))), (1, .v (.int .i64))] 10 (restr [4, 1, 2] 0 st)).bind fun x => iter (fun v r => z1iq N ((fun x => x.2.1) x) v r K) N ((fun x => (x.1, x.2.2.1)) x)

def t1_55 (N : Nat) : Tab (List Int) := []

theorem z1bo {N : Nat} {c : Ctx} (hb : Base Tryd.prog (E_55 N) c) : zh Tryd.prog c (ze zuq [0, 1, 0, 1]) (z1ff N) :=
  z1w (s := [(1, .box (.arr 4 (.int .u64))), (0, .box (.arr 4 (.int .u64))), (1, .v (.int .i64))]) (m := 10) (z1iq N) [4, 1, 2] N (fun x => x.2.1) (fun x => (x.1, x.2.2.1)) (fun i v => (v.1, i, v.2, ())) (fun _ => rfl) (zd hb N (t1_55 N) L_55 zuq TabOk.nil [0, 0, 1, 0, 1] _ rfl) (fun i v r K => by kernel_rfl)

def zfv (N : Nat) (s : (List Int)) : Option (List Int) :=
 zp9 N s ([(0 : Int), (0 : Int), (0 : Int), (0 : Int)] : List Int) (0 : Int)
 (fun s1 => some s1)

def t_55 (N : Nat) : Tab (List Int) := [([0, 1, 0, 1], z1ff N)]

theorem z15h (N : Nat) (x : zz z127) : z6k (E_55 N) N (t_55 N) L_55 Tryd.f91 (mkS z127 0 x) (z4b (.v (.arr 4 (.int .u64))) 1) = zfv N x.1 := by kernel_rfl

def zdq (N : Nat) : List A -> Res := zu z127 (fun x => zfv N x.1) (z75 (.v (.arr 4 (.int .u64))) 1)

theorem zin (N : Nat) : Contract Tryd.prog glob 91 (zdq N) :=
  Contract.of (E := E_55 N) (H := t_55 N) (L := L_55) (N := N) (body := zuq) (K := (z4b (.v (.arr 4 (.int .u64))) 1)) (z1l1 N) Tryd.func91 (by kernel_rfl) (by decide) (fun _ hb => (TabOk.cons (z1bo hb) TabOk.nil)) (fun x y h => by rw [z15h]; exact h) (z1b (s := (.v (.arr 4 (.int .u64)))) (m := 1))

def zup : Code := (Tryd.f83.body).getD .skip

def L_56 : List (List Nat × List Nat) := [([0], [0, 2]), ([0, 1], [0, 2]), ([0, 1, 1], [0, 3, 2]), ([0, 1, 1, 1], [0, 4, 3, 2]), ([0, 0, 1, 1, 1, 1], [0, 4, 3, 2]), (z10q, [13, 4, 0, 3, 2]), (z10p, [4, 0, 3, 2]), (z1k0, [3, 4, 2, 0]), ([0, 1, 0, 0, 0, 1, 1, 1, 1], [0, 4, 3, 2]), (z10l, [0, 4, 3, 2]), ([0, 1, 1, 1, 1], [3, 4, 2, 0]), (zkp, [18, 4, 2, 0]), (zxw, [4, 2, 0]), (z17o, [2, 0]), (z10r, [2, 0]), (zxv, [2, 0]), (z12a, [2, 0])]

def E_56 (N : Nat) : Env := z1s tys glob [(91, zdq N), (90, zec N), (89, z6r N), (57, z1j N), (87, z1k N)] [] [] [0] false [] []

theorem z1l0 (N : Nat) : EnvOk Tryd.prog (E_56 N) := zf mixed zq (FnsOk.cons (zin N) (FnsOk.cons (zkg N) (FnsOk.cons (zbu N) (FnsOk.cons (z20 N) (FnsOk.cons (z21 N) (FnsOk.nil)))))) (ItsOk.nil)

def z9f (N : Nat) (x2 : (List Int)) (not_ : Bool) (p : DT4) (set_ : (List Int)) (rec : DT4 -> (List Int) -> Option zg2) (k0 : DT4 -> (List Int) -> Option zg2) : Option zg2 :=
 (z14 N p (93 : Int)).bind fun y =>
 cond (!y.1)
 ((z3z N y.2.1).bind fun y1 =>
 (zhy N set_ y1.1).bind fun y2 =>
 rec y1.2.1 y2)
 (k0 y.2.1 set_)

def zen (N : Nat) (p : DT4) (x2 : (List Int)) (not_ : Bool) (set_ : (List Int)) (k0 : DT4 -> (List Int) -> Option zg2) : Option zg2 :=
 iter (fun (v : (DT4 × (List Int))) r => z9f N x2 not_ v.1 v.2 (fun p set_ => (r (p, set_))) k0) N (p, set_)

def z1ip (N : Nat) (i : ((List Int) × Bool)) (v : (DT4 × (List Int))) (r : (DT4 × (List Int)) -> Option zg2) (K : Ex -> List A -> Option zg2) : Option zg2 :=
 z9f N i.1 i.2 v.1 v.2 (fun p set_ => (r (p, set_))) (fun a0 a3 => (K (.exit 0) (mkS z18f 17 (a0, i.1, i.2, a3, ()))))

def z1fe (N : Nat) : Hd zg2 := fun st K => (unS z18f 17 (restr [0, 4, 3, 2] 0 st)).bind fun x => iter (fun v r => z1ip N ((fun x => (x.2.1, x.2.2.1)) x) v r K) N ((fun x => (x.1, x.2.2.2.1)) x)

def t1_56 (N : Nat) : Tab zg2 := []

theorem z1bn {N : Nat} {c : Ctx} (hb : Base Tryd.prog (E_56 N) c) : zh Tryd.prog c (ze zup [0, 0, 1, 1, 1, 1]) (z1fe N) :=
  z1w (s := z18f) (m := 17) (z1ip N) [0, 4, 3, 2] N (fun x => (x.2.1, x.2.2.1)) (fun x => (x.1, x.2.2.2.1)) (fun i v => (v.1, i.1, i.2, v.2, ())) (fun _ => rfl) (zd hb N (t1_56 N) L_56 zup TabOk.nil [0, 0, 0, 1, 1, 1, 1] _ rfl) (fun i v r K => by kernel_rfl)

def z4l (N : Nat) (p : DT4) : Option zg2 :=
 (z1g N p (91 : Int)).bind fun y =>
 (z14 N y.2.1 (94 : Int)).bind fun y1 =>
 (z3z N y1.2.1).bind fun y2 =>
 zen N y2.2.1 ([(0 : Int), (0 : Int), (0 : Int), (0 : Int)] : List Int) y1.1 y2.1
 (fun p1 set_ => cond y1.1
 ((zfv N set_).bind fun y3 =>
 some (y3, (p1, ())))
 (some (set_, (p1, ()))))

def t_56 (N : Nat) : Tab zg2 := [([0, 0, 1, 1, 1, 1], z1fe N)]

theorem z15g (N : Nat) (x : zz [(0, .box TT2)]) : z6k (E_56 N) N (t_56 N) L_56 Tryd.f83 (mkS [(0, .box TT2)] 0 x) (z4z (.v (.arr 4 (.int .u64))) [(0, .box TT2)] 0) = z4l N x.1 := by kernel_rfl

def z4r (N : Nat) : List A -> Res := zu [(0, .box TT2)] (fun x => z4l N x.1) (z5f (.v (.arr 4 (.int .u64))) [(0, .box TT2)] 0)

theorem z9g (N : Nat) : Contract Tryd.prog glob 83 (z4r N) :=
  Contract.of (E := E_56 N) (H := t_56 N) (L := L_56) (N := N) (body := zup) (K := (z4z (.v (.arr 4 (.int .u64))) [(0, .box TT2)] 0)) (z1l0 N) Tryd.func83 (by kernel_rfl) (by decide) (fun _ hb => (TabOk.cons (z1bn hb) TabOk.nil)) (fun x y h => by rw [z15g]; exact h) (z3k (s := (.v (.arr 4 (.int .u64)))) (os := [(0, .box TT2)]) (m := 0))

def zuo : Code := (Tryd.f71.body).getD .skip

def L_57 : List (List Nat × List Nat) := [([0], [0, 2]), ([0, 1], [3, 0, 2]), ([0, 1, 1], [15, 0, 2, 3]), ([0, 0, 1, 1, 1], [36, 0, 2, 15, 3]), ([1, 0, 1, 1, 1], [2, 0]), ([0, 1, 1, 0, 1, 1, 1], [40, 0, 2, 15, 3]), ([1, 1, 1, 0, 1, 1, 1], [2, 0]), ([0, 1, 1, 1, 1, 0, 1, 1, 1], [51, 0, 2, 15, 3]), ([1, 1, 1, 1, 1, 0, 1, 1, 1], [2, 0]), ([0, 1, 1, 1, 1, 1, 1, 0, 1, 1, 1], [56, 0, 2, 3]), ([1, 1, 1, 1, 1, 1, 1, 0, 1, 1, 1], [2, 0]), ([0, 0, 1, 1, 1, 1, 1, 1, 1, 1, 0, 1, 1, 1], [18, 0, 3, 2]), ([1, 0, 1, 1, 1, 1, 1, 1, 1, 1, 0, 1, 1, 1], [0, 3, 2]), ([0, 1, 0, 1, 1, 1, 1, 1, 1, 1, 1, 0, 1, 1, 1], [0, 3, 2]), ([0, 1, 1, 1, 1, 1, 1, 1, 1, 1, 0, 1, 1, 1], [3, 2, 0]), ([0, 1, 1, 1, 1, 1, 1, 1, 1, 1, 1, 0, 1, 1, 1], [2, 0]), ([1, 1, 1, 1, 1, 1, 1, 1, 1, 1, 1, 0, 1, 1, 1], [2, 0]), ([0, 0, 1, 1, 1, 1, 1, 1, 1, 0, 1, 1, 1], [4, 2, 0]), ([0, 1, 0, 1, 1, 1, 1, 1, 1, 1, 0, 1, 1, 1], [2, 0]), ([1, 1, 0, 1, 1, 1, 1, 1, 1, 1, 0, 1, 1, 1], [2, 0]), ([0, 0, 1, 1, 1, 1, 1, 0, 1, 1, 1], [2, 0]), ([1, 0, 1, 1, 1, 1, 1, 0, 1, 1, 1], [2, 0]), ([0, 0, 1, 1, 1, 0, 1, 1, 1], [2, 0]), ([0, 1, 0, 1, 1, 1, 0, 1, 1, 1], [2, 0]), ([1, 1, 0, 1, 1, 1, 0, 1, 1, 1], [2, 0]), (zxx, [2, 0]), (z13d, [2, 0]), ([1, 1, 1], [2, 0])]

def E_57 (N : Nat) (self : z7) : Env := z1s tys glob [(83, z4r N), (84, z2q N), (85, z39 N), (81, zfg N), (82, z37 N), (80, z66 N self), (40, zu [(0, .box TT2)] (fun x => self x.1) (z5f (.v TT0) [(0, .box TT2)] 0))] [] [] [0] false [] []

theorem z1kz (N : Nat) (self : z7) (hself : Contract Tryd.prog glob 40 (zu [(0, .box TT2)] (fun x => self x.1) (z5f (.v TT0) [(0, .box TT2)] 0))) : EnvOk Tryd.prog (E_57 N self) := zf mixed zq (FnsOk.cons (z9g N) (FnsOk.cons (z49 N) (FnsOk.cons (z50 N) (FnsOk.cons (zll N) (FnsOk.cons (z4n N) (FnsOk.cons (zb4 N self hself) (FnsOk.cons (hself) (FnsOk.nil)))))))) (ItsOk.nil)

def zbv (N : Nat) (self : z7) (p : DT4) (x2 : DT1) (b : Int) (k0 : Option (DT1 × (DT4 × Unit))) : Option (DT1 × (DT4 × Unit)) :=
 cond (decide ((0 : Int) <= (Go.Lib.indexByte ([(92 : UInt8), (46 : UInt8), (91 : UInt8), (93 : UInt8), (40 : UInt8), (41 : UInt8), (123 : UInt8), (125 : UInt8), (124 : UInt8), (42 : UInt8), (43 : UInt8), (63 : UInt8)] : List UInt8) (Nat.toUInt8 (Int.toNat b)))))
 (none)
 (k0)

def z1io (N : Nat) (self : z7) (x : zz z13b) (K : Ex -> List A -> Option (DT1 × (DT4 × Unit))) : Option (DT1 × (DT4 × Unit)) :=
 zbv N self x.1 x.2.1 x.2.2.1 (K .normal (mkS z13b 61 (x.1, x.2.1, x.2.2.1, ())))

def z1fd (N : Nat) (self : z7) : Hd (DT1 × (DT4 × Unit)) := fun st K => (unS z13b 61 (restr [3, 0, 2] 0 st)).bind fun x => z1io N self x K

def t1_57 (N : Nat) (self : z7) : Tab (DT1 × (DT4 × Unit)) := []

theorem z1bm {N : Nat} {self : z7} {c : Ctx} (hb : Base Tryd.prog (E_57 N self) c) : zh Tryd.prog c (ze zuo z18h) (z1fd N self) :=
  zi (s := z13b) (m := 61) (g := z1io N self) [3, 0, 2] (zd hb N (t1_57 N self) L_57 zuo TabOk.nil z18h _ rfl) (fun x K => by kernel_rfl)

def z77 (N : Nat) (self : z7) (p : DT4) : Option (DT1 × (DT4 × Unit)) :=
 cond (inR p.2.1 (List.length p.1))
 (cond ((((UInt8.toNat (List.getD p.1 (Int.toNat p.2.1) (0 : UInt8))) : Nat) : Int) == (40 : Int))
 ((z6e N self p).bind fun y =>
 some (y.1, (y.2.1, ())))
 (cond ((((UInt8.toNat (List.getD p.1 (Int.toNat p.2.1) (0 : UInt8))) : Nat) : Int) == (46 : Int))
 ((z3l N (0 : Int) (255 : Int)).bind fun y1 =>
 some (((1 : Int), (y1, (([] : List Tree), ((0 : Int), ((0 : Int), ()))))), ((p.1, ((IntKind.wrap IntKind.i64 (p.2.1 + (1 : Int))), p.2.2)), ())))
 (cond ((((UInt8.toNat (List.getD p.1 (Int.toNat p.2.1) (0 : UInt8))) : Nat) : Int) == (91 : Int))
 ((z4l N p).bind fun y2 =>
 some (((1 : Int), (y2.1, (([] : List Tree), ((0 : Int), ((0 : Int), ()))))), (y2.2.1, ())))
 (cond ((((UInt8.toNat (List.getD p.1 (Int.toNat p.2.1) (0 : UInt8))) : Nat) : Int) == (92 : Int))
 ((z31 N p).bind fun y3 =>
 some (((1 : Int), (y3.1.1, (([] : List Tree), ((0 : Int), ((0 : Int), ()))))), (y3.2.1, ())))
 (zbv N self p ((0 : Int), (([(0 : Int), (0 : Int), (0 : Int), (0 : Int)] : List Int), (([] : List Tree), ((0 : Int), ((0 : Int), ()))))) (((UInt8.toNat (List.getD p.1 (Int.toNat p.2.1) (0 : UInt8))) : Nat) : Int)
 ((z3l N (((UInt8.toNat (List.getD p.1 (Int.toNat p.2.1) (0 : UInt8))) : Nat) : Int) (((UInt8.toNat (List.getD p.1 (Int.toNat p.2.1) (0 : UInt8))) : Nat) : Int)).bind fun y4 =>
 some (((1 : Int), (y4, (([] : List Tree), ((0 : Int), ((0 : Int), ()))))), ((p.1, ((IntKind.wrap IntKind.i64 (p.2.1 + (1 : Int))), p.2.2)), ()))))))))
 (none)

def t_57 (N : Nat) (self : z7) : Tab (DT1 × (DT4 × Unit)) := [(z18h, z1fd N self)]

theorem z15f (N : Nat) (self : z7) (x : zz [(0, .box TT2)]) : z6k (E_57 N self) N (t_57 N self) L_57 Tryd.f71 (mkS [(0, .box TT2)] 0 x) (z4z (.v TT0) [(0, .box TT2)] 0) = z77 N self x.1 := by kernel_rfl

def z6u (N : Nat) (self : z7) : List A -> Res := zu [(0, .box TT2)] (fun x => z77 N self x.1) (z5f (.v TT0) [(0, .box TT2)] 0)

theorem zbw (N : Nat) (self : z7) (hself : Contract Tryd.prog glob 40 (zu [(0, .box TT2)] (fun x => self x.1) (z5f (.v TT0) [(0, .box TT2)] 0))) : Contract Tryd.prog glob 71 (z6u N self) :=
  Contract.of (E := E_57 N self) (H := t_57 N self) (L := L_57) (N := N) (body := zuo) (K := (z4z (.v TT0) [(0, .box TT2)] 0)) (z1kz N self hself) Tryd.func71 (by kernel_rfl) (by decide) (fun _ hb => (TabOk.cons (z1bm hb) TabOk.nil)) (fun x y h => by rw [z15f]; exact h) (z3k (s := (.v TT0)) (os := [(0, .box TT2)]) (m := 0))

def zap : Code := (Tryd.f86.body).getD .skip

def z13k : List (List Nat × List Nat) := [([0], [0]), ([0, 1], [0, 3]), ([0, 0, 1, 1], [12, 0, 3]), ([1, 0, 1, 1], [0, 3]), ([0, 1, 0, 1, 1], [0, 3]), ([0, 1, 1, 1], [0, 4, 3]), ([0, 0, 1, 1, 1, 1], [0, 4, 3]), (z10q, [37, 4, 0, 3]), (z10p, [4, 0, 3]), (z1k0, [0, 3, 4]), ([0, 0, 1, 0, 0, 0, 1, 1, 1, 1], [0, 4, 3]), ([1, 0, 1, 0, 0, 0, 1, 1, 1, 1], [0, 4, 3]), (z10l, [0, 4, 3]), ([0, 1, 1, 1, 1], [0, 3, 4]), (zkp, [75, 0, 3, 4]), (zxw, [4, 0, 3]), (zy5, [4, 0, 3]), (z10o, [80, 0, 3, 4]), (z10n, [4, 0]), (z13f, [4, 0]), (z10k, [2, 0]), (z13e, [2, 0])]

def z12h (N : Nat) : Env := z1s tys glob [(96, z6w N), (92, z12 N)] [] [] [0] false [] []

theorem z1ky (N : Nat) : EnvOk Tryd.prog (z12h N) := zf mixed zq (FnsOk.cons (zaq N) (FnsOk.cons (z1c N) (FnsOk.nil))) (ItsOk.nil)

def zcy (N : Nat) (p : DT4) (from_ : Int) (k0 : DT4 -> Option (Int × (DT4 × Unit))) : Option (Int × (DT4 × Unit)) :=
 (z1f N p).bind fun y =>
 (z6x N y.1).bind fun y1 =>
 cond (!y1)
 (none)
 (k0 y.2.1)

def z1in (N : Nat) (x : zz z139) (K : Ex -> List A -> Option (Int × (DT4 × Unit))) : Option (Int × (DT4 × Unit)) :=
 zcy N x.1 x.2.1 (fun a0 => (K .normal (mkS z139 81 (a0, x.2.1, ()))))

def z1fc (N : Nat) : Hd (Int × (DT4 × Unit)) := fun st K => (unS z139 81 (restr [0, 3] 0 st)).bind fun x => z1in N x K

def t1_58 (N : Nat) : Tab (Int × (DT4 × Unit)) := []

theorem z1bl {N : Nat} {c : Ctx} (hb : Base Tryd.prog (z12h N) c) : zh Tryd.prog c (ze zap [0, 1, 1]) (z1fc N) :=
  zi (s := z139) (m := 81) (g := z1in N) [0, 3] (zd hb N (t1_58 N) z13k zap TabOk.nil [0, 1, 1] _ rfl) (fun x K => by kernel_rfl)

def zcw (N : Nat) (p : DT4) (from_ : Int) (n : Int) (k0 : Option (Int × (DT4 × Unit))) (k1 : Option (Int × (DT4 × Unit))) : Option (Int × (DT4 × Unit)) :=
 cond (decide (p.2.1 < (((List.length p.1) : Nat) : Int)))
 (cond (inR p.2.1 (List.length p.1))
 ((z6x N (((UInt8.toNat (List.getD p.1 (Int.toNat p.2.1) (0 : UInt8))) : Nat) : Int)).bind fun y =>
 cond y
 (k0)
 (k1))
 (none))
 (k1)

def z1gp (N : Nat) (x : zz SQ0) (K : Ex -> List A -> Option (Int × (DT4 × Unit))) : Option (Int × (DT4 × Unit)) :=
 zcw N x.1 x.2.1 x.2.2.1 (K .normal (mkS SQ0 80 (x.1, x.2.1, x.2.2.1, ()))) (K (.exit 0) (mkS SQ0 80 (x.1, x.2.1, x.2.2.1, ())))

def z1de (N : Nat) : Hd (Int × (DT4 × Unit)) := fun st K => (unS SQ0 80 (restr [0, 4, 3] 0 st)).bind fun x => z1gp N x K

def t4_58 (N : Nat) : Tab (Int × (DT4 × Unit)) := []

theorem z19n {N : Nat} {c : Ctx} (hb : Base Tryd.prog (z12h N) c) : zh Tryd.prog c (ze zap zxy) (z1de N) :=
  zi (s := SQ0) (m := 80) (g := z1gp N) [0, 4, 3] (zd hb N (t4_58 N) z13k zap TabOk.nil zxy _ rfl) (fun x K => by kernel_rfl)

def zct (N : Nat) (from_ : Int) (p : DT4) (n : Int) (rec : DT4 -> Int -> Option (Int × (DT4 × Unit))) (k0 : DT4 -> Int -> Option (Int × (DT4 × Unit))) : Option (Int × (DT4 × Unit)) :=
 zcw N p from_ n
 (cond (inR p.2.1 (List.length p.1))
 (rec (p.1, ((IntKind.wrap IntKind.i64 (p.2.1 + (1 : Int))), p.2.2)) (if ((17 : Int) < (IntKind.wrap IntKind.i64 ((IntKind.wrap IntKind.i64 ((10 : Int) * n)) + (IntKind.wrap IntKind.i64 (IntKind.wrap IntKind.u8 ((((UInt8.toNat (List.getD p.1 (Int.toNat p.2.1) (0 : UInt8))) : Nat) : Int) - (48 : Int))))))) then (17 : Int) else (IntKind.wrap IntKind.i64 ((IntKind.wrap IntKind.i64 ((10 : Int) * n)) + (IntKind.wrap IntKind.i64 (IntKind.wrap IntKind.u8 ((((UInt8.toNat (List.getD p.1 (Int.toNat p.2.1) (0 : UInt8))) : Nat) : Int) - (48 : Int))))))))
 (none))
 (k0 p n)

def ziz (N : Nat) (p : DT4) (from_ : Int) (n : Int) (k0 : DT4 -> Int -> Option (Int × (DT4 × Unit))) : Option (Int × (DT4 × Unit)) :=
 iter (fun (v : (DT4 × Int)) r => zct N from_ v.1 v.2 (fun p n => (r (p, n))) k0) N (p, n)

def z1gz (N : Nat) (i : Int) (v : (DT4 × Int)) (r : (DT4 × Int) -> Option (Int × (DT4 × Unit))) (K : Ex -> List A -> Option (Int × (DT4 × Unit))) : Option (Int × (DT4 × Unit)) :=
 zct N i v.1 v.2 (fun p n => (r (p, n))) (fun a0 a2 => (K (.exit 0) (mkS SQ0 80 (a0, i, a2, ()))))

def z1do (N : Nat) : Hd (Int × (DT4 × Unit)) := fun st K => (unS SQ0 80 (restr [0, 4, 3] 0 st)).bind fun x => iter (fun v r => z1gz N ((fun x => x.2.1) x) v r K) N ((fun x => (x.1, x.2.2.1)) x)

def t3_58 (N : Nat) : Tab (Int × (DT4 × Unit)) := [(zxy, z1de N)]

theorem z19x {N : Nat} {c : Ctx} (hb : Base Tryd.prog (z12h N) c) : zh Tryd.prog c (ze zap [0, 0, 1, 1, 1, 1]) (z1do N) :=
  z1w (s := SQ0) (m := 80) (z1gz N) [0, 4, 3] N (fun x => x.2.1) (fun x => (x.1, x.2.2.1)) (fun i v => (v.1, i, v.2, ())) (fun _ => rfl) (zd hb N (t3_58 N) z13k zap (TabOk.cons (z19n hb) TabOk.nil) [0, 0, 0, 1, 1, 1, 1] _ rfl) (fun i v r K => by kernel_rfl)

def zcx (N : Nat) (p : DT4) (from_ : Int) (n : Int) (k0 : DT4 -> Int -> Option (Int × (DT4 × Unit))) : Option (Int × (DT4 × Unit)) :=
 ziz N p from_ n
 (fun p1 n1 => k0 p1 n1)

def z1hi (N : Nat) (x : zz SQ0) (K : Ex -> List A -> Option (Int × (DT4 × Unit))) : Option (Int × (DT4 × Unit)) :=
 zcx N x.1 x.2.1 x.2.2.1 (fun a0 a2 => (K .normal (mkS SQ0 80 (a0, x.2.1, a2, ()))))

def z1e7 (N : Nat) : Hd (Int × (DT4 × Unit)) := fun st K => (unS SQ0 80 (restr [0, 4, 3] 0 st)).bind fun x => z1hi N x K

def t2_58 (N : Nat) : Tab (Int × (DT4 × Unit)) := [([0, 0, 1, 1, 1, 1], z1do N)]

theorem z1ag {N : Nat} {c : Ctx} (hb : Base Tryd.prog (z12h N) c) : zh Tryd.prog c (ze zap [0, 1, 1, 1, 1]) (z1e7 N) :=
  zi (s := SQ0) (m := 80) (g := z1hi N) [0, 4, 3] (zd hb N (t2_58 N) z13k zap (TabOk.cons (z19x hb) TabOk.nil) [0, 1, 1, 1, 1] _ rfl) (fun x K => by kernel_rfl)

def zcu (N : Nat) (p : DT4) (from_ : Int) (n : Int) (k0 : Bool -> Option (Int × (DT4 × Unit))) : Option (Int × (DT4 × Unit)) :=
 cond (inR from_ (List.length p.1))
 (cond ((((UInt8.toNat (List.getD p.1 (Int.toNat from_) (0 : UInt8))) : Nat) : Int) == (48 : Int))
 (k0 (decide ((IntKind.wrap IntKind.i64 (from_ + (1 : Int))) < p.2.1)))
 (k0 false))
 (none)

def z1gh (N : Nat) (x : zz SQ0) (K : Ex -> List A -> Option (Int × (DT4 × Unit))) : Option (Int × (DT4 × Unit)) :=
 zcu N x.1 x.2.1 x.2.2.1 (fun a3 => (K .normal (mkS [(0, .box TT2), (2, .v (.int .i64)), (0, .v (.int .i64)), (70, .v .bool)] 9 (x.1, x.2.1, x.2.2.1, a3, ()))))

def z1d6 (N : Nat) : Hd (Int × (DT4 × Unit)) := fun st K => (unS SQ0 80 (restr [0, 3, 4] 0 st)).bind fun x => z1gh N x K

def t6_58 (N : Nat) : Tab (Int × (DT4 × Unit)) := []

theorem z19f {N : Nat} {c : Ctx} (hb : Base Tryd.prog (z12h N) c) : zh Tryd.prog c (ze zap zkp) (z1d6 N) :=
  zi (s := SQ0) (m := 80) (g := z1gh N) [0, 3, 4] (zd hb N (t6_58 N) z13k zap TabOk.nil zkp _ rfl) (fun x K => by kernel_rfl)

def zcv (N : Nat) (p : DT4) (from_ : Int) (n : Int) (k0 : Option (Int × (DT4 × Unit))) : Option (Int × (DT4 × Unit)) :=
 zcu N p from_ n
 (fun x75 => cond x75
 (none)
 (k0))

def z1gk (N : Nat) (x : zz SQ0) (K : Ex -> List A -> Option (Int × (DT4 × Unit))) : Option (Int × (DT4 × Unit)) :=
 zcv N x.1 x.2.1 x.2.2.1 (K .normal (mkS SQ0 80 (x.1, x.2.1, x.2.2.1, ())))

def z1d9 (N : Nat) : Hd (Int × (DT4 × Unit)) := fun st K => (unS SQ0 80 (restr [0, 3, 4] 0 st)).bind fun x => z1gk N x K

def t5_58 (N : Nat) : Tab (Int × (DT4 × Unit)) := [(zkp, z1d6 N)]

theorem z19i {N : Nat} {c : Ctx} (hb : Base Tryd.prog (z12h N) c) : zh Tryd.prog c (ze zap [0, 1, 1, 1, 1, 1]) (z1d9 N) :=
  zi (s := SQ0) (m := 80) (g := z1gk N) [0, 3, 4] (zd hb N (t5_58 N) z13k zap (TabOk.cons (z19f hb) TabOk.nil) [0, 1, 1, 1, 1, 1] _ rfl) (fun x K => by kernel_rfl)

def z4e (N : Nat) (p : DT4) : Option (Int × (DT4 × Unit)) :=
 zcy N p p.2.1
 (fun p1 => zcx N p1 p.2.1 (0 : Int)
 (fun p2 n => zcv N p2 p.2.1 n
 (cond (decide ((16 : Int) < n))
 (none)
 (some (n, (p2, ()))))))

def t_58 (N : Nat) : Tab (Int × (DT4 × Unit)) := [([0, 1, 1], z1fc N), ([0, 1, 1, 1, 1], z1e7 N), ([0, 1, 1, 1, 1, 1], z1d9 N)]

theorem z15e (N : Nat) (x : zz [(0, .box TT2)]) : z6k (z12h N) N (t_58 N) z13k Tryd.f86 (mkS [(0, .box TT2)] 0 x) (z4z (.v (.int .i64)) [(0, .box TT2)] 0) = z4e N x.1 := by kernel_rfl

def z7m (N : Nat) : List A -> Res := zu [(0, .box TT2)] (fun x => z4e N x.1) (z5f (.v (.int .i64)) [(0, .box TT2)] 0)

theorem zcz (N : Nat) : Contract Tryd.prog glob 86 (z7m N) :=
  Contract.of (E := z12h N) (H := t_58 N) (L := z13k) (N := N) (body := zap) (K := (z4z (.v (.int .i64)) [(0, .box TT2)] 0)) (z1ky N) Tryd.func86 (by kernel_rfl) (by decide) (fun _ hb => (TabOk.cons (z1bl hb) (TabOk.cons (z1ag hb) (TabOk.cons (z19i hb) TabOk.nil)))) (fun x y h => by rw [z15e]; exact h) (z3k (s := (.v (.int .i64))) (os := [(0, .box TT2)]) (m := 0))

def zoa : Code := (Tryd.f72.body).getD .skip

def L_59 : List (List Nat × List Nat) := [([0], [0]), ([0, 1], [0, 4]), ([0, 1, 1], [2, 0, 4]), ([0, 1, 1, 1], [0, 2, 3, 4]), ([0, 0, 1, 1, 1, 1], [13, 0, 2, 3, 4]), ([1, 0, 1, 1, 1, 1], [3, 2, 0, 4]), ([0, 0, 0, 1, 0, 1, 1, 1, 1], [15, 2, 0]), ([1, 0, 0, 1, 0, 1, 1, 1, 1], [0, 2]), ([0, 0, 1, 0, 0, 1, 0, 1, 1, 1, 1], [2, 3, 0]), ([1, 0, 1, 0, 0, 1, 0, 1, 1, 1, 1], [2, 3, 0]), ([0, 1, 0, 1, 0, 1, 1, 1, 1], [0, 2, 4]), ([1, 1, 0, 1, 0, 1, 1, 1, 1], [3, 2, 0, 4]), (zkp, [26, 0, 4, 2, 3]), (zxw, [0, 2, 3]), (zy5, [0, 2, 3]), (zxv, [2, 3, 0]), (z10k, [2, 3, 0]), (z13e, [2, 3, 0])]

def z1mf (N : Nat) : Env := z1s tys glob [(86, z7m N), (57, z1j N), (87, z1k N)] [] [] [0] false [] []

theorem z1kx (N : Nat) : EnvOk Tryd.prog (z1mf N) := zf mixed zq (FnsOk.cons (zcz N) (FnsOk.cons (z20 N) (FnsOk.cons (z21 N) (FnsOk.nil)))) (ItsOk.nil)

def zad (N : Nat) (p : DT4) (low : Int) (high : Int) (from_ : Int) (k0 : DT4 -> Int -> Option ((Int × Int × Unit) × (DT4 × Unit))) (k1 : DT4 -> Int -> Int -> Option ((Int × Int × Unit) × (DT4 × Unit))) : Option ((Int × Int × Unit) × (DT4 × Unit)) :=
 (z14 N p (44 : Int)).bind fun y =>
 cond y.1
 ((z14 N y.2.1 (125 : Int)).bind fun y1 =>
 cond y1.1
 (k0 y1.2.1 (-(1 : Int)))
 ((z4e N y1.2.1).bind fun y2 =>
 k1 y2.2.1 y2.1 y1.2.1.2.1))
 (k1 y.2.1 high from_)

def z1im (N : Nat) (x : zz SQ4) (K : Ex -> List A -> Option ((Int × Int × Unit) × (DT4 × Unit))) : Option ((Int × Int × Unit) × (DT4 × Unit)) :=
 zad N x.1 x.2.1 x.2.2.1 x.2.2.2.1 (fun a0 a2 => (K .ret (mkS SQ58 30 (a0, x.2.1, a2, ())))) (fun a0 a2 a3 => (K .normal (mkS SQ4 29 (a0, x.2.1, a2, a3, ()))))

def z1fb (N : Nat) : Hd ((Int × Int × Unit) × (DT4 × Unit)) := fun st K => (unS SQ4 29 (restr [0, 2, 3, 4] 0 st)).bind fun x => z1im N x K

def t1_59 (N : Nat) : Tab ((Int × Int × Unit) × (DT4 × Unit)) := []

theorem z1bk {N : Nat} {c : Ctx} (hb : Base Tryd.prog (z1mf N) c) : zh Tryd.prog c (ze zoa [0, 1, 1, 1, 1]) (z1fb N) :=
  zi (s := SQ4) (m := 29) (g := z1im N) [0, 2, 3, 4] (zd hb N (t1_59 N) L_59 zoa TabOk.nil [0, 1, 1, 1, 1] _ rfl) (fun x K => by kernel_rfl)

def zac (N : Nat) (p : DT4) (low : Int) (high : Int) (from_ : Int) (k0 : Option ((Int × Int × Unit) × (DT4 × Unit))) : Option ((Int × Int × Unit) × (DT4 × Unit)) :=
 cond (decide (high < (if ((1 : Int) > low) then (1 : Int) else low)))
 (none)
 (k0)

def z1hh (N : Nat) (x : zz SQ4) (K : Ex -> List A -> Option ((Int × Int × Unit) × (DT4 × Unit))) : Option ((Int × Int × Unit) × (DT4 × Unit)) :=
 zac N x.1 x.2.1 x.2.2.1 x.2.2.2.1 (K .normal (mkS SQ58 30 (x.1, x.2.1, x.2.2.1, ())))

def z1e6 (N : Nat) : Hd ((Int × Int × Unit) × (DT4 × Unit)) := fun st K => (unS SQ4 29 (restr [3, 2, 0, 4] 0 st)).bind fun x => z1hh N x K

def t2_59 (N : Nat) : Tab ((Int × Int × Unit) × (DT4 × Unit)) := []

theorem z1af {N : Nat} {c : Ctx} (hb : Base Tryd.prog (z1mf N) c) : zh Tryd.prog c (ze zoa [0, 1, 1, 1, 1, 1]) (z1e6 N) :=
  zi (s := SQ4) (m := 29) (g := z1hh N) [3, 2, 0, 4] (zd hb N (t2_59 N) L_59 zoa TabOk.nil [0, 1, 1, 1, 1, 1] _ rfl) (fun x K => by kernel_rfl)

def z5m (N : Nat) (p : DT4) : Option ((Int × Int × Unit) × (DT4 × Unit)) :=
 (z4e N p).bind fun y =>
 zad N y.2.1 y.1 y.1 p.2.1
 (fun p1 high => some ((y.1, (high, ())), (p1, ())))
 (fun p2 high1 from_ => zac N p2 y.1 high1 from_
 ((z1g N p2 (125 : Int)).bind fun y1 =>
 some ((y.1, (high1, ())), (y1.2.1, ()))))

def t_59 (N : Nat) : Tab ((Int × Int × Unit) × (DT4 × Unit)) := [([0, 1, 1, 1, 1], z1fb N), ([0, 1, 1, 1, 1, 1], z1e6 N)]

theorem z15d (N : Nat) (x : zz [(0, .box TT2)]) : z6k (z1mf N) N (t_59 N) L_59 Tryd.f72 (mkS [(0, .box TT2)] 0 x) (z4z (.tup [(.int .i64), (.int .i64)]) [(0, .box TT2)] 0) = z5m N x.1 := by kernel_rfl

def z5k (N : Nat) : List A -> Res := zu [(0, .box TT2)] (fun x => z5m N x.1) (z5f (.tup [(.int .i64), (.int .i64)]) [(0, .box TT2)] 0)

theorem zae (N : Nat) : Contract Tryd.prog glob 72 (z5k N) :=
  Contract.of (E := z1mf N) (H := t_59 N) (L := L_59) (N := N) (body := zoa) (K := (z4z (.tup [(.int .i64), (.int .i64)]) [(0, .box TT2)] 0)) (z1kx N) Tryd.func72 (by kernel_rfl) (by decide) (fun _ hb => (TabOk.cons (z1bk hb) (TabOk.cons (z1af hb) TabOk.nil))) (fun x y h => by rw [z15d]; exact h) (z3k (s := (.tup [(.int .i64), (.int .i64)])) (os := [(0, .box TT2)]) (m := 0))

def zun : Code := (Tryd.f66.body).getD .skip

def L_60 : List (List Nat × List Nat) := [([0], [0, 2]), ([0, 1], [0, 3, 2]), ([0, 0, 1, 1], [16, 3, 2, 0]), ([1, 0, 1, 1], [3, 0, 2]), ([0, 0, 1, 0, 1, 1], [2, 0]), ([1, 0, 1, 0, 1, 1], [2, 0]), ([0, 1, 1, 1], [0, 4, 2, 3]), ([0, 0, 1, 1, 1, 1], [29, 4, 0, 2, 3]), ([0, 0, 0, 0, 0, 0, 0, 0, 0, 0, 0, 0, 0, 0, 1, 0, 1, 1, 1, 1], [30, 4, 0, 2, 29, 3]), ([1, 0, 0, 0, 0, 0, 0, 0, 0, 0, 0, 0, 0, 0, 1, 0, 1, 1, 1, 1], [29, 0, 4, 2, 3]), ([0, 1, 0, 0, 0, 0, 0, 0, 0, 0, 0, 0, 0, 0, 0, 1, 0, 1, 1, 1, 1], [4, 0, 2]), ([0, 0, 1, 0, 0, 0, 0, 0, 0, 0, 0, 0, 0, 0, 0, 1, 0, 1, 1, 1, 1], [32, 0, 4, 2, 29, 3]), ([1, 0, 1, 0, 0, 0, 0, 0, 0, 0, 0, 0, 0, 0, 0, 1, 0, 1, 1, 1, 1], [29, 0, 4, 2, 3]), ([0, 1, 0, 1, 0, 0, 0, 0, 0, 0, 0, 0, 0, 0, 0, 0, 1, 0, 1, 1, 1, 1], [0, 4, 2]), ([0, 0, 1, 1, 0, 0, 0, 0, 0, 0, 0, 0, 0, 0, 0, 0, 1, 0, 1, 1, 1, 1], [34, 0, 4, 2, 29, 3]), ([1, 0, 1, 1, 0, 0, 0, 0, 0, 0, 0, 0, 0, 0, 0, 0, 1, 0, 1, 1, 1, 1], [29, 0, 4, 2, 3]), ([0, 1, 0, 1, 1, 0, 0, 0, 0, 0, 0, 0, 0, 0, 0, 0, 0, 1, 0, 1, 1, 1, 1], [0, 4, 2]), ([0, 1, 1, 1, 0, 0, 0, 0, 0, 0, 0, 0, 0, 0, 0, 0, 1, 0, 1, 1, 1, 1], [36, 0, 4, 2, 3]), ([1, 1, 1, 1, 0, 0, 0, 0, 0, 0, 0, 0, 0, 0, 0, 0, 1, 0, 1, 1, 1, 1], [3, 2, 0]), ([0, 1, 1, 1, 1, 0, 0, 0, 0, 0, 0, 0, 0, 0, 0, 0, 0, 1, 0, 1, 1, 1, 1], [0, 4, 2]), ([1, 0, 0, 0, 0, 0, 0, 0, 0, 0, 0, 0, 1, 0, 1, 1, 1, 1], [3, 2, 0]), ([0, 0, 0, 0, 0, 0, 0, 0, 0, 0, 1, 0, 1, 1, 1, 1], [4, 0, 2]), ([1, 0, 0, 0, 0, 0, 0, 0, 0, 0, 1, 0, 1, 1, 1, 1], [0, 4, 2]), (z13i, [0, 4, 2]), ([0, 1, 0, 0, 0, 0, 0, 0, 0, 1, 0, 1, 1, 1, 1], [4, 2, 0]), ([1, 1, 0, 0, 0, 0, 0, 0, 0, 1, 0, 1, 1, 1, 1], [4, 2, 0]), ([0, 0, 0, 0, 0, 0, 1, 0, 1, 1, 1, 1], [0, 4, 2]), ([0, 0, 1, 0, 0, 0, 0, 0, 1, 0, 1, 1, 1, 1], [4, 2, 0]), ([1, 0, 1, 0, 0, 0, 0, 0, 1, 0, 1, 1, 1, 1], [4, 2, 0]), ([1, 1, 0, 0, 0, 0, 0, 1, 0, 1, 1, 1, 1], [4, 2, 0]), ([0, 0, 0, 0, 1, 0, 1, 1, 1, 1], [0, 4, 2]), ([0, 0, 1, 0, 0, 0, 1, 0, 1, 1, 1, 1], [0, 4, 2]), ([1, 0, 1, 0, 0, 0, 1, 0, 1, 1, 1, 1], [4, 2, 0]), ([1, 1, 0, 0, 0, 1, 0, 1, 1, 1, 1], [4, 2, 0]), ([0, 0, 1, 0, 1, 1, 1, 1], [3, 2, 0]), ([0, 0, 1, 0, 1, 0, 1, 1, 1, 1], [2, 0]), ([1, 0, 1, 0, 1, 0, 1, 1, 1, 1], [2, 0]), ([1, 1, 0, 1, 0, 1, 1, 1, 1], [4, 2, 0]), ([1, 0, 1, 1, 1, 1], [4, 2, 0]), ([0, 1, 1, 1, 1, 1], [2, 0]), ([1, 1, 1, 1, 1, 1], [2, 0])]

def E_60 (N : Nat) (self : z7) : Env := z1s tys glob [(72, z5k N), (71, z6u N self), (40, zu [(0, .box TT2)] (fun x => self x.1) (z5f (.v TT0) [(0, .box TT2)] 0))] [] [] [0] false [] []

theorem z1kw (N : Nat) (self : z7) (hself : Contract Tryd.prog glob 40 (zu [(0, .box TT2)] (fun x => self x.1) (z5f (.v TT0) [(0, .box TT2)] 0))) : EnvOk Tryd.prog (E_60 N self) := zf mixed zq (FnsOk.cons (zae N) (FnsOk.cons (zbw N self hself) (FnsOk.cons (hself) (FnsOk.nil)))) (ItsOk.nil)

def zb1 (N : Nat) (self : z7) (p : DT4) (x2 : DT1) (kid : DT1) (rep : DT1) (x29 : Int) (k0 : DT1 -> Option (DT1 × (DT4 × Unit))) (k1 : Option (DT1 × (DT4 × Unit))) (k2 : Option (DT1 × (DT4 × Unit))) (k3 : Option (DT1 × (DT4 × Unit))) : Option (DT1 × (DT4 × Unit)) :=
 cond (x29 == (43 : Int))
 (k0 (rep.1, (rep.2.1, (rep.2.2.1, ((1 : Int), rep.2.2.2.2)))))
 (cond (x29 == (42 : Int))
 (k0 rep)
 (cond (x29 == (63 : Int))
 (k1)
 (cond (x29 == (123 : Int))
 (k2)
 (k3))))

def z1il (N : Nat) (self : z7) (x : zz z18c) (K : Ex -> List A -> Option (DT1 × (DT4 × Unit))) : Option (DT1 × (DT4 × Unit)) :=
 zb1 N self x.1 x.2.1 x.2.2.1 x.2.2.2.1 x.2.2.2.2.1 (fun a2 => (K .normal (mkS z186 65 (x.1, x.2.1, a2, ())))) (K (.exit 3) (mkS z186 65 (x.1, x.2.1, x.2.2.2.1, ()))) (K (.exit 4) (mkS z186 65 (x.1, x.2.1, x.2.2.2.1, ()))) (K (.exit 5) (mkS [(0, .box TT2), (1, .box TT0), (0, .box TT0)] 66 (x.1, x.2.1, x.2.2.1, ())))

def z1fa (N : Nat) (self : z7) : Hd (DT1 × (DT4 × Unit)) := fun st K => (unS z18c 40 (restr [29, 4, 0, 2, 3] 0 st)).bind fun x => z1il N self x K

def t1_60 (N : Nat) (self : z7) : Tab (DT1 × (DT4 × Unit)) := []

theorem z1bj {N : Nat} {self : z7} {c : Ctx} (hb : Base Tryd.prog (E_60 N self) c) : zh Tryd.prog c (ze zun z13i) (z1fa N self) :=
  zi (s := z18c) (m := 40) (g := z1il N self) [29, 4, 0, 2, 3] (zd hb N (t1_60 N self) L_60 zun TabOk.nil z13i _ rfl) (fun x K => by kernel_rfl)

def z6d (N : Nat) (self : z7) (p : DT4) : Option (DT1 × (DT4 × Unit)) :=
 (z77 N self p).bind fun y =>
 cond (y.2.1.2.1 == (((List.length y.2.1.1) : Nat) : Int))
 (some (y.1, (y.2.1, ())))
 (cond (inR y.2.1.2.1 (List.length y.2.1.1))
 (zb1 N self y.2.1 ((0 : Int), (([(0 : Int), (0 : Int), (0 : Int), (0 : Int)] : List Int), (([] : List Tree), ((0 : Int), ((0 : Int), ()))))) y.1 ((4 : Int), (([(0 : Int), (0 : Int), (0 : Int), (0 : Int)] : List Int), ((List.map foN ([y.1] : List zwj)), ((0 : Int), ((-(1 : Int)), ()))))) (((UInt8.toNat (List.getD y.2.1.1 (Int.toNat y.2.1.2.1) (0 : UInt8))) : Nat) : Int)
 (fun rep => some (rep, ((y.2.1.1, ((IntKind.wrap IntKind.i64 (y.2.1.2.1 + (1 : Int))), y.2.1.2.2)), ())))
 (some (((4 : Int), (([(0 : Int), (0 : Int), (0 : Int), (0 : Int)] : List Int), ((List.map foN ([y.1] : List zwj)), ((0 : Int), ((1 : Int), ()))))), ((y.2.1.1, ((IntKind.wrap IntKind.i64 (y.2.1.2.1 + (1 : Int))), y.2.1.2.2)), ())))
 ((z5m N (y.2.1.1, ((IntKind.wrap IntKind.i64 (y.2.1.2.1 + (1 : Int))), y.2.1.2.2))).bind fun y1 =>
 some (((4 : Int), (([(0 : Int), (0 : Int), (0 : Int), (0 : Int)] : List Int), ((List.map foN ([y.1] : List zwj)), (y1.1.1, (y1.1.2.1, ()))))), (y1.2.1, ())))
 (some (y.1, (y.2.1, ()))))
 (none))

def t_60 (N : Nat) (self : z7) : Tab (DT1 × (DT4 × Unit)) := [(z13i, z1fa N self)]

theorem z15c (N : Nat) (self : z7) (x : zz [(0, .box TT2)]) : z6k (E_60 N self) N (t_60 N self) L_60 Tryd.f66 (mkS [(0, .box TT2)] 0 x) (z4z (.v TT0) [(0, .box TT2)] 0) = z6d N self x.1 := by kernel_rfl

def z64 (N : Nat) (self : z7) : List A -> Res := zu [(0, .box TT2)] (fun x => z6d N self x.1) (z5f (.v TT0) [(0, .box TT2)] 0)

theorem zb2 (N : Nat) (self : z7) (hself : Contract Tryd.prog glob 40 (zu [(0, .box TT2)] (fun x => self x.1) (z5f (.v TT0) [(0, .box TT2)] 0))) : Contract Tryd.prog glob 66 (z64 N self) :=
  Contract.of (E := E_60 N self) (H := t_60 N self) (L := L_60) (N := N) (body := zun) (K := (z4z (.v TT0) [(0, .box TT2)] 0)) (z1kw N self hself) Tryd.func66 (by kernel_rfl) (by decide) (fun _ hb => (TabOk.cons (z1bj hb) TabOk.nil)) (fun x y h => by rw [z15c]; exact h) (z3k (s := (.v TT0)) (os := [(0, .box TT2)]) (m := 0))

def zum : Code := (Tryd.f58.body).getD .skip

def L_61 : List (List Nat × List Nat) := [([0], [1, 0, 4]), ([0, 1], [1, 0, 5, 4]), ([0, 0, 1, 1], [10, 9, 8, 0, 5, 4]), ([0, 1, 0, 1, 1], [10, 9, 8, 0, 5, 4]), ([0, 0, 0, 1, 0, 1, 1], [11, 8, 10, 0, 5, 9, 4]), (zq9, [8, 10, 0, 5, 9, 4]), (z10v, [5, 4, 0]), (z1k2, [7, 0, 5, 10, 9, 8, 4]), (z1k4, [17, 5, 7, 10, 9, 8, 0, 4]), ([1, 1, 0, 0, 1, 1, 0, 0, 1, 0, 1, 1], [10, 9, 8, 0, 5, 4]), ([1, 1, 1, 0, 0, 1, 1, 0, 0, 1, 0, 1, 1], [10, 9, 8, 0, 5, 4]), ([0, 1, 1, 0, 0, 1, 1, 0, 0, 1, 0, 1, 1], [10, 9, 8, 0, 5, 4]), (z10u, [10, 9, 8, 0, 5, 4]), (z10t, [10, 9, 8, 0, 5, 4]), ([1, 0, 1, 1], [5, 4, 0]), ([0, 0, 1, 1, 1], [29, 5, 4, 0]), ([1, 0, 1, 1, 1], [0, 5, 4]), (zxx, [4]), (z13d, [4]), ([0, 1, 1, 1, 1], [4]), ([1, 1, 1, 1, 1], [4])]

def E_61 (N : Nat) : Env := z1s tys glob [] [(5, TT0)] [] [] false [] []

theorem z1kv (N : Nat) : EnvOk Tryd.prog (E_61 N) := zf mixed zq (FnsOk.nil) (ItsOk.nil)

def zjx (N : Nat) (kind : Int) (x4 : DT1) (x8 : (List Tree)) (x9 : Int) (kids : (List DT1)) (x10 : Int) (rec : (List DT1) -> Int -> Option DT1) (k0 : (List DT1) -> Option DT1) : Option DT1 :=
 cond (decide (x10 < x9))
 (cond (inR x10 (List.length x8))
 (cond ((unN (List.getD x8 (Int.toNat x10) (Tree.mk (0 : Int) ([] : List Int) ([] : List Tree) (0 : Int) (0 : Int)))).1 == kind)
 (cond (decide ((((List.length kids) + (List.length (List.map unN (unN (List.getD x8 (Int.toNat x10) (Tree.mk (0 : Int) ([] : List Int) ([] : List Tree) (0 : Int) (0 : Int)))).2.2.1))) * 80) <= 70368744177664))
 (rec (kids ++ (List.map unN (unN (List.getD x8 (Int.toNat x10) (Tree.mk (0 : Int) ([] : List Int) ([] : List Tree) (0 : Int) (0 : Int)))).2.2.1)) (IntKind.wrap IntKind.i64 (x10 + (1 : Int))))
 (none))
 (cond (decide ((((List.length kids) + 1) * 80) <= 70368744177664))
 (rec (kids ++ ([(unN (List.getD x8 (Int.toNat x10) (Tree.mk (0 : Int) ([] : List Int) ([] : List Tree) (0 : Int) (0 : Int))))] : List zwj)) (IntKind.wrap IntKind.i64 (x10 + (1 : Int))))
 (none)))
 (none))
 (k0 kids)

def zqm (N : Nat) (kind : Int) (x4 : DT1) (kids : (List DT1)) (x8 : (List Tree)) (x9 : Int) (x10 : Int) (k0 : (List DT1) -> Option DT1) : Option DT1 :=
 iter (fun (v : ((List DT1) × Int)) r => zjx N kind x4 x8 x9 v.1 v.2 (fun kids x10 => (r (kids, x10))) k0) N (kids, x10)

def z1ik (N : Nat) (i : (Int × DT1 × (List Tree) × Int)) (v : ((List DT1) × Int)) (r : ((List DT1) × Int) -> Option DT1) (K : Ex -> List A -> Option DT1) : Option DT1 :=
 zjx N i.1 i.2.1 i.2.2.1 i.2.2.2 v.1 v.2 (fun kids x10 => (r (kids, x10))) (fun a2 => (K (.exit 0) (mkS [(0, .v (.int .i64)), (3, .box TT0), (0, .row TT0)] 30 (i.1, i.2.1, a2, ()))))

def z1f9 (N : Nat) : Hd DT1 := fun st K => (unS SQ59 25 (restr [10, 9, 8, 0, 5, 4] 0 st)).bind fun x => iter (fun v r => z1ik N ((fun x => (x.1, x.2.1, x.2.2.2.1, x.2.2.2.2.1)) x) v r K) N ((fun x => (x.2.2.1, x.2.2.2.2.2.1)) x)

def t1_61 (N : Nat) : Tab DT1 := []

theorem z1bi {N : Nat} {c : Ctx} (hb : Base Tryd.prog (E_61 N) c) : zh Tryd.prog c (ze zum [0, 1, 0, 1, 1]) (z1f9 N) :=
  z1w (s := SQ59) (m := 25) (z1ik N) [10, 9, 8, 0, 5, 4] N (fun x => (x.1, x.2.1, x.2.2.2.1, x.2.2.2.2.1)) (fun x => (x.2.2.1, x.2.2.2.2.2.1)) (fun i v => (i.1, i.2.1, v.1, i.2.2.1, i.2.2.2, v.2, ())) (fun _ => rfl) (zd hb N (t1_61 N) L_61 zum TabOk.nil [0, 0, 1, 0, 1, 1] _ rfl) (fun i v r K => by kernel_rfl)

def zch (N : Nat) (kind : Int) (parts : (List Tree)) : Option DT1 :=
 zqm N kind ((0 : Int), (([(0 : Int), (0 : Int), (0 : Int), (0 : Int)] : List Int), (([] : List Tree), ((0 : Int), ((0 : Int), ()))))) ([] : List zwj) parts (((List.length parts) : Nat) : Int) (0 : Int)
 (fun kids => cond ((((List.length kids) : Nat) : Int) == (1 : Int))
 (cond (inR (0 : Int) (List.length kids))
 (cond (decide (0 < (List.length kids)))
 (some (List.getD kids 0 ((0 : Int), (([] : List Int), (([] : List Tree), ((0 : Int), ((0 : Int), ())))))))
 (none))
 (none))
 (some (kind, (([(0 : Int), (0 : Int), (0 : Int), (0 : Int)] : List Int), ((List.map foN kids), ((0 : Int), ((0 : Int), ())))))))

def t_61 (N : Nat) : Tab DT1 := [([0, 1, 0, 1, 1], z1f9 N)]

theorem z15b (N : Nat) (x : zz [(0, .v (.int .i64)), (0, .v (.sl .nod))]) : z6k (E_61 N) N (t_61 N) L_61 Tryd.f58 (mkS [(0, .v (.int .i64)), (0, .v (.sl .nod))] 0 x) (z4b (.v TT0) 2) = zch N x.1 x.2.1 := by kernel_rfl

def z8h (N : Nat) : List A -> Res := zu [(0, .v (.int .i64)), (0, .v (.sl .nod))] (fun x => zch N x.1 x.2.1) (z75 (.v TT0) 2)

theorem zca (N : Nat) : Contract Tryd.prog glob 58 (z8h N) :=
  Contract.of (E := E_61 N) (H := t_61 N) (L := L_61) (N := N) (body := zum) (K := (z4b (.v TT0) 2)) (z1kv N) Tryd.func58 (by kernel_rfl) (by decide) (fun _ hb => (TabOk.cons (z1bi hb) TabOk.nil)) (fun x y h => by rw [z15b]; exact h) (z1b (s := (.v TT0)) (m := 2))

def zjh : Code := (Tryd.f56.body).getD .skip

def z1k7 : List (List Nat × List Nat) := [([0], [0, 2]), ([0, 1], [0, 3, 2]), ([0, 0, 1, 1], [0, 3, 2]), ([0, 0, 0, 0, 0, 1, 1], [37, 3, 0, 2]), ([1, 0, 0, 0, 0, 1, 1], [3, 0, 2]), (z10m, [3, 2, 0]), ([0, 1, 0, 0, 0, 1, 1], [0, 3, 2]), ([1, 0, 0, 0, 1, 1], [0, 3, 2]), ([0, 1, 1], [3, 2, 0]), ([0, 1, 1, 1], [2, 0]), ([1, 1, 1, 1], [2, 0])]

def z18n (N : Nat) (self : z7) : Env := z1s tys glob [(58, z8h N), (66, z64 N self), (40, zu [(0, .box TT2)] (fun x => self x.1) (z5f (.v TT0) [(0, .box TT2)] 0))] [(3, TT0)] [] [0] false [] []

theorem z1ku (N : Nat) (self : z7) (hself : Contract Tryd.prog glob 40 (zu [(0, .box TT2)] (fun x => self x.1) (z5f (.v TT0) [(0, .box TT2)] 0))) : EnvOk Tryd.prog (z18n N self) := zf mixed zq (FnsOk.cons (zca N) (FnsOk.cons (zb2 N self hself) (FnsOk.cons (hself) (FnsOk.nil)))) (ItsOk.nil)

def zd4 (N : Nat) (self : z7) (p : DT4) (x2 : DT1) (parts : (List DT1)) (k0 : Option (DT1 × (DT4 × Unit))) (k1 : Option (DT1 × (DT4 × Unit))) : Option (DT1 × (DT4 × Unit)) :=
 cond (decide (p.2.1 < (((List.length p.1) : Nat) : Int)))
 (cond (inR p.2.1 (List.length p.1))
 (cond ((((UInt8.toNat (List.getD p.1 (Int.toNat p.2.1) (0 : UInt8))) : Nat) : Int) != (124 : Int))
 (cond (inR p.2.1 (List.length p.1))
 (cond ((((UInt8.toNat (List.getD p.1 (Int.toNat p.2.1) (0 : UInt8))) : Nat) : Int) != (41 : Int))
 (k0)
 (k1))
 (none))
 (k1))
 (none))
 (k1)

def z1gy (N : Nat) (self : z7) (x : zz SQ2) (K : Ex -> List A -> Option (DT1 × (DT4 × Unit))) : Option (DT1 × (DT4 × Unit)) :=
 zd4 N self x.1 x.2.1 x.2.2.1 (K .normal (mkS SQ2 41 (x.1, x.2.1, x.2.2.1, ()))) (K (.exit 0) (mkS SQ2 41 (x.1, x.2.1, x.2.2.1, ())))

def z1dn (N : Nat) (self : z7) : Hd (DT1 × (DT4 × Unit)) := fun st K => (unS SQ2 41 (restr [0, 3, 2] 0 st)).bind fun x => z1gy N self x K

def t3_62 (N : Nat) (self : z7) : Tab (DT1 × (DT4 × Unit)) := []

theorem z19w {N : Nat} {self : z7} {c : Ctx} (hb : Base Tryd.prog (z18n N self) c) : zh Tryd.prog c (ze zjh [0, 0, 0, 0, 1, 1]) (z1dn N self) :=
  zi (s := SQ2) (m := 41) (g := z1gy N self) [0, 3, 2] (zd hb N (t3_62 N self) z1k7 zjh TabOk.nil [0, 0, 0, 0, 1, 1] _ rfl) (fun x K => by kernel_rfl)

def zd3 (N : Nat) (self : z7) (x2 : DT1) (p : DT4) (parts : (List DT1)) (rec : DT4 -> (List DT1) -> Option (DT1 × (DT4 × Unit))) (k0 : DT4 -> (List DT1) -> Option (DT1 × (DT4 × Unit))) : Option (DT1 × (DT4 × Unit)) :=
 zd4 N self p x2 parts
 ((z6d N self p).bind fun y =>
 cond (decide ((((List.length parts) + 1) * 80) <= 70368744177664))
 (rec y.2.1 (parts ++ ([y.1] : List zwj)))
 (none))
 (k0 p parts)

def zj0 (N : Nat) (self : z7) (p : DT4) (x2 : DT1) (parts : (List DT1)) (k0 : DT4 -> (List DT1) -> Option (DT1 × (DT4 × Unit))) : Option (DT1 × (DT4 × Unit)) :=
 iter (fun (v : (DT4 × (List DT1))) r => zd3 N self x2 v.1 v.2 (fun p parts => (r (p, parts))) k0) N (p, parts)

def z1hg (N : Nat) (self : z7) (i : DT1) (v : (DT4 × (List DT1))) (r : (DT4 × (List DT1)) -> Option (DT1 × (DT4 × Unit))) (K : Ex -> List A -> Option (DT1 × (DT4 × Unit))) : Option (DT1 × (DT4 × Unit)) :=
 zd3 N self i v.1 v.2 (fun p parts => (r (p, parts))) (fun a0 a2 => (K (.exit 0) (mkS SQ2 41 (a0, i, a2, ()))))

def z1e5 (N : Nat) (self : z7) : Hd (DT1 × (DT4 × Unit)) := fun st K => (unS SQ2 41 (restr [0, 3, 2] 0 st)).bind fun x => iter (fun v r => z1hg N self ((fun x => x.2.1) x) v r K) N ((fun x => (x.1, x.2.2.1)) x)

def t2_62 (N : Nat) (self : z7) : Tab (DT1 × (DT4 × Unit)) := [([0, 0, 0, 0, 1, 1], z1dn N self)]

theorem z1ae {N : Nat} {self : z7} {c : Ctx} (hb : Base Tryd.prog (z18n N self) c) : zh Tryd.prog c (ze zjh [0, 0, 1, 1]) (z1e5 N self) :=
  z1w (s := SQ2) (m := 41) (z1hg N self) [0, 3, 2] N (fun x => x.2.1) (fun x => (x.1, x.2.2.1)) (fun i v => (v.1, i, v.2, ())) (fun _ => rfl) (zd hb N (t2_62 N self) z1k7 zjh (TabOk.cons (z19w hb) TabOk.nil) [0, 0, 0, 1, 1] _ rfl) (fun i v r K => by kernel_rfl)

def zd5 (N : Nat) (self : z7) (p : DT4) (x2 : DT1) (parts : (List DT1)) (k0 : DT4 -> (List DT1) -> Option (DT1 × (DT4 × Unit))) : Option (DT1 × (DT4 × Unit)) :=
 zj0 N self p x2 parts
 (fun p1 zjy => k0 p1 zjy)

def z1ij (N : Nat) (self : z7) (x : zz SQ2) (K : Ex -> List A -> Option (DT1 × (DT4 × Unit))) : Option (DT1 × (DT4 × Unit)) :=
 zd5 N self x.1 x.2.1 x.2.2.1 (fun a0 a2 => (K .normal (mkS SQ2 41 (a0, x.2.1, a2, ()))))

def z1f8 (N : Nat) (self : z7) : Hd (DT1 × (DT4 × Unit)) := fun st K => (unS SQ2 41 (restr [0, 3, 2] 0 st)).bind fun x => z1ij N self x K

def t1_62 (N : Nat) (self : z7) : Tab (DT1 × (DT4 × Unit)) := [([0, 0, 1, 1], z1e5 N self)]

theorem z1bh {N : Nat} {self : z7} {c : Ctx} (hb : Base Tryd.prog (z18n N self) c) : zh Tryd.prog c (ze zjh [0, 1, 1]) (z1f8 N self) :=
  zi (s := SQ2) (m := 41) (g := z1ij N self) [0, 3, 2] (zd hb N (t1_62 N self) z1k7 zjh (TabOk.cons (z1ae hb) TabOk.nil) [0, 1, 1] _ rfl) (fun x K => by kernel_rfl)

def z4g (N : Nat) (self : z7) (p : DT4) : Option (DT1 × (DT4 × Unit)) :=
 zd5 N self p ((0 : Int), (([(0 : Int), (0 : Int), (0 : Int), (0 : Int)] : List Int), (([] : List Tree), ((0 : Int), ((0 : Int), ()))))) ([] : List zwj)
 (fun p1 parts => (zch N (2 : Int) (List.map foN parts)).bind fun y =>
 some (y, (p1, ())))

def t_62 (N : Nat) (self : z7) : Tab (DT1 × (DT4 × Unit)) := [([0, 1, 1], z1f8 N self)]

theorem z15a (N : Nat) (self : z7) (x : zz [(0, .box TT2)]) : z6k (z18n N self) N (t_62 N self) z1k7 Tryd.f56 (mkS [(0, .box TT2)] 0 x) (z4z (.v TT0) [(0, .box TT2)] 0) = z4g N self x.1 := by kernel_rfl

def z7o (N : Nat) (self : z7) : List A -> Res := zu [(0, .box TT2)] (fun x => z4g N self x.1) (z5f (.v TT0) [(0, .box TT2)] 0)

theorem zd6 (N : Nat) (self : z7) (hself : Contract Tryd.prog glob 40 (zu [(0, .box TT2)] (fun x => self x.1) (z5f (.v TT0) [(0, .box TT2)] 0))) : Contract Tryd.prog glob 56 (z7o N self) :=
  Contract.of (E := z18n N self) (H := t_62 N self) (L := z1k7) (N := N) (body := zjh) (K := (z4z (.v TT0) [(0, .box TT2)] 0)) (z1ku N self hself) Tryd.func56 (by kernel_rfl) (by decide) (fun _ hb => (TabOk.cons (z1bh hb) TabOk.nil)) (fun x y h => by rw [z15a]; exact h) (z3k (s := (.v TT0)) (os := [(0, .box TT2)]) (m := 0))

def zra : Code := (Tryd.f40.body).getD .skip

def L_63 : List (List Nat × List Nat) := [([0], [0, 2]), ([0, 1], [0, 3, 2]), ([0, 0, 1, 1], [0, 3, 2]), ([0, 0, 0, 0, 0, 1, 1], [8, 3, 0, 2]), ([1, 0, 0, 0, 0, 1, 1], [3, 0, 2]), (z10m, [3, 2, 0]), ([0, 1, 0, 0, 0, 1, 1], [0, 3, 2]), ([1, 0, 0, 0, 1, 1], [0, 3, 2]), ([0, 1, 1], [3, 2, 0]), ([0, 1, 1, 1], [2, 0]), ([1, 1, 1, 1], [2, 0])]

def E_63 (N : Nat) (self : DT4 -> Option (DT1 × (DT4 × Unit))) : Env := z1s tys glob [(56, z7o N self), (58, z8h N), (57, z1j N), (40, zu [(0, .box TT2)] (fun x => self x.1) (z5f (.v TT0) [(0, .box TT2)] 0))] [(3, TT0)] [] [0] false [] []

theorem z1kt (N : Nat) (self : DT4 -> Option (DT1 × (DT4 × Unit))) (hself : Contract Tryd.prog glob 40 (zu [(0, .box TT2)] (fun x => self x.1) (z5f (.v TT0) [(0, .box TT2)] 0))) : EnvOk Tryd.prog (E_63 N self) := zf mixed zq (FnsOk.cons (zd6 N self hself) (FnsOk.cons (zca N) (FnsOk.cons (z20 N) (FnsOk.cons (hself) (FnsOk.nil))))) (ItsOk.nil)

def zd7 (N : Nat) (self : DT4 -> Option (DT1 × (DT4 × Unit))) (x2 : DT1) (p : DT4) (parts : (List DT1)) (rec : DT4 -> (List DT1) -> Option (DT1 × (DT4 × Unit))) (k0 : DT4 -> (List DT1) -> Option (DT1 × (DT4 × Unit))) : Option (DT1 × (DT4 × Unit)) :=
 (z14 N p (124 : Int)).bind fun y =>
 cond y.1
 ((z4g N self y.2.1).bind fun y1 =>
 cond (decide ((((List.length parts) + 1) * 80) <= 70368744177664))
 (rec y1.2.1 (parts ++ ([y1.1] : List zwj)))
 (none))
 (k0 y.2.1 parts)

def zj1 (N : Nat) (self : DT4 -> Option (DT1 × (DT4 × Unit))) (p : DT4) (x2 : DT1) (parts : (List DT1)) (k0 : DT4 -> (List DT1) -> Option (DT1 × (DT4 × Unit))) : Option (DT1 × (DT4 × Unit)) :=
 iter (fun (v : (DT4 × (List DT1))) r => zd7 N self x2 v.1 v.2 (fun p parts => (r (p, parts))) k0) N (p, parts)

def z1ii (N : Nat) (self : DT4 -> Option (DT1 × (DT4 × Unit))) (i : DT1) (v : (DT4 × (List DT1))) (r : (DT4 × (List DT1)) -> Option (DT1 × (DT4 × Unit))) (K : Ex -> List A -> Option (DT1 × (DT4 × Unit))) : Option (DT1 × (DT4 × Unit)) :=
 zd7 N self i v.1 v.2 (fun p parts => (r (p, parts))) (fun a0 a2 => (K (.exit 0) (mkS SQ2 12 (a0, i, a2, ()))))

def z1f7 (N : Nat) (self : DT4 -> Option (DT1 × (DT4 × Unit))) : Hd (DT1 × (DT4 × Unit)) := fun st K => (unS SQ2 12 (restr [0, 3, 2] 0 st)).bind fun x => iter (fun v r => z1ii N self ((fun x => x.2.1) x) v r K) N ((fun x => (x.1, x.2.2.1)) x)

def t1_63 (N : Nat) (self : DT4 -> Option (DT1 × (DT4 × Unit))) : Tab (DT1 × (DT4 × Unit)) := []

theorem z1bg {N : Nat} {self : DT4 -> Option (DT1 × (DT4 × Unit))} {c : Ctx} (hb : Base Tryd.prog (E_63 N self) c) : zh Tryd.prog c (ze zra [0, 0, 1, 1]) (z1f7 N self) :=
  z1w (s := SQ2) (m := 12) (z1ii N self) [0, 3, 2] N (fun x => x.2.1) (fun x => (x.1, x.2.2.1)) (fun i v => (v.1, i, v.2, ())) (fun _ => rfl) (zd hb N (t1_63 N self) L_63 zra TabOk.nil [0, 0, 0, 1, 1] _ rfl) (fun i v r K => by kernel_rfl)

def zdv (N : Nat) (self : DT4 -> Option (DT1 × (DT4 × Unit))) (p : DT4) : Option (DT1 × (DT4 × Unit)) :=
 (z4g N self p).bind fun y =>
 zj1 N self y.2.1 ((0 : Int), (([(0 : Int), (0 : Int), (0 : Int), (0 : Int)] : List Int), (([] : List Tree), ((0 : Int), ((0 : Int), ()))))) ([y.1] : List zwj)
 (fun p1 parts => (zch N (3 : Int) (List.map foN parts)).bind fun y1 =>
 some (y1, (p1, ())))

def t_63 (N : Nat) (self : DT4 -> Option (DT1 × (DT4 × Unit))) : Tab (DT1 × (DT4 × Unit)) := [([0, 0, 1, 1], z1f7 N self)]

theorem z159 (N : Nat) (self : DT4 -> Option (DT1 × (DT4 × Unit))) (x : zz [(0, .box TT2)]) : z6k (E_63 N self) N (t_63 N self) L_63 Tryd.f40 (mkS [(0, .box TT2)] 0 x) (z4z (.v TT0) [(0, .box TT2)] 0) = zdv N self x.1 := by kernel_rfl

def zl : Nat -> DT4 -> Option (DT1 × (DT4 × Unit))
  | 0 => fun _ => none
  | N + 1 => zdv (N + 1) (zl N)

def zbx (N : Nat) : List A -> Res := zu [(0, .box TT2)] (fun x => zl N x.1) (z5f (.v TT0) [(0, .box TT2)] 0)

theorem z2k : ∀ N : Nat, Contract Tryd.prog glob 40 (zbx N)
  | 0 => Contract.zero Tryd.func40 (body := zra) (by kernel_rfl) (by decide) (fun _ => rfl)
  | N + 1 => Contract.of (E := E_63 (N + 1) (zl N)) (H := t_63 (N + 1) (zl N)) (L := L_63) (N := (N + 1)) (body := zra) (K := (z4z (.v TT0) [(0, .box TT2)] 0)) (z1kt (N + 1) (zl N) (z2k N)) Tryd.func40 (by kernel_rfl) (by decide) (fun _ hb => (TabOk.cons (z1bg hb) TabOk.nil)) (fun x y h => by rw [z159]; exact h) (z3k (s := (.v TT0)) (os := [(0, .box TT2)]) (m := 0))

end
end Go.Proofs.YtmeecjkimeiogaaDoorLg

set_option linter.all false
set_option maxRecDepth 100000
namespace Go.Proofs.YtmeecjkimeiogaaDoorLg
noncomputable section
open Go Go.Lift Go.Proofs.YtmeecjkimeiogaaDoorPx

abbrev SpT := (List (List Int)) × (Bool × ((List Int) × ((List Int) × ((List (List Int)) × Unit))))

end
end Go.Proofs.YtmeecjkimeiogaaDoorLg

set_option linter.all false
set_option maxRecDepth 100000
namespace Go.Proofs.YtmeecjkimeiogaaDoorLg
noncomputable section
open Go Go.Lift Go.Proofs.YtmeecjkimeiogaaDoorPx

def inL (l : List Int) (n : Int) : Bool := l.any fun x => x == n

theorem zzk (N : Nat) (l : List Int) (n : Int) (hl : l.length <= 70368744177664) : ∀ (k N' i : Nat), k < N' -> i + k = l.length →
    iter (fun (v : Int) r => z40 N l n v (fun i => (r i)) (fun x4 => some x4) (some false)) N' (i : Int) = some (inL (l.drop i) n)
  | 0, N', i, h1, h2 => by
    obtain ⟨M, rfl⟩ : ∃ M, N' = M + 1 := ⟨N' - 1, by omega⟩
    rw [iter]
    unfold z40
    rw [decide_eq_false (show ¬ (i : Int) < (l.length : Int) by omega), List.drop_eq_nil_of_le (by omega)]
    rfl
  | k + 1, N', i, h1, h2 => by
    obtain ⟨M, rfl⟩ : ∃ M, N' = M + 1 := ⟨N' - 1, by omega⟩
    have hi : i < l.length := by omega
    have ih := zzk N l n hl k M (i + 1) (by omega) (by omega)
    rw [iter]
    have step : ∀ rec, z40 N l n (i : Int) rec (fun x4 => some x4) (some false) = cond (l.getD i 0 == n) (some true) (rec ((i + 1 : Nat) : Int)) := by
      intro rec
      unfold z40
      rw [decide_eq_true (show (i : Int) < (l.length : Int) by omega), z4d hi, Int.toNat_natCast, z4c (x := (i : Int) + 1) (by unfold I64; omega)]
      rfl
    rw [step]
    have e : inL (l.drop i) n = ((l.getD i 0 == n) || inL (l.drop (i + 1)) n) := by
      rw [List.drop_eq_getElem_cons hi, List.getD_eq_getElem?_getD, List.getElem?_eq_getElem hi]; rfl
    rw [e]
    cases l.getD i 0 == n with
    | true => rfl
    | false => exact ih

theorem z16u {N : Nat} (l : List Int) (n : Int) (hN : l.length < N) (hl : l.length <= 70368744177664) : z4u N l n = some (inL l n) := by
  unfold z4u zet
  have := zzk N l n hl l.length N 0 hN (by omega)
  simpa using this

def zew (a b : List Int) : Nat -> Nat -> List Int
  | 0, _ => []
  | k + 1, n => (if inL a (n : Int) || inL b (n : Int) then [(n : Int)] else []) ++ zew a b k (n + 1)

theorem zsb {N : Nat} (a b : List Int) (m : Nat) (hm : m <= 10000) (ha : a.length < N /\ a.length <= 10000) (hb : b.length < N /\ b.length <= 10000) : ∀ (k N' n : Nat) (out : List Int), k < N' -> n + k = m -> out.length <= n →
    iter (fun (v : ((List Int) × Int)) r => z33 N a b (m : Int) v.1 v.2 (fun out n => (r (out, n))) (fun out => some out)) N' (out, (n : Int)) = some (out ++ zew a b k n)
  | 0, N', n, out, h1, h2, h3 => by
    obtain ⟨M, rfl⟩ : ∃ M, N' = M + 1 := ⟨N' - 1, by omega⟩
    rw [iter]
    dsimp only
    unfold z33
    rw [decide_eq_false (show ¬ (n : Int) < (m : Int) by omega)]
    simp [zew]
  | k + 1, N', n, out, h1, h2, h3 => by
    obtain ⟨M, rfl⟩ : ∃ M, N' = M + 1 := ⟨N' - 1, by omega⟩
    rw [iter]
    dsimp only
    have step : ∀ rec, z33 N a b (m : Int) out (n : Int) rec (fun out => some out) = rec (out ++ (if inL a (n : Int) || inL b (n : Int) then [(n : Int)] else [])) ((n + 1 : Nat) : Int) := by
      intro rec
      unfold z33 z8u z8t
      rw [decide_eq_true (show (n : Int) < (m : Int) by omega), z16u a _ ha.1 (by omega), z16u b _ hb.1 (by omega), z4c (x := (n : Int) + 1) (by unfold I64; omega), decide_eq_true (show (out.length + 1) * 8 <= 70368744177664 by omega)]
      simp only [Option.bind_some, cond_true]
      cases inL a (n : Int) <;> cases inL b (n : Int) <;> simp
    rw [step, zew, <- List.append_assoc]
    exact zsb a b m hm ha hb k M (n + 1) _ (by omega) (by omega) (by rw [List.length_append]; split <;> simp <;> omega)

theorem zsc {N : Nat} (a b : List Int) (m : Nat) (hm : m <= 10000) (hN : m < N) (ha : a.length < N /\ a.length <= 10000) (hb : b.length < N /\ b.length <= 10000) : z2a N a b (m : Int) = some (zew a b m 0) := by
  unfold z2a zdf
  have := zsb a b m hm ha hb m N 0 [] hN (by omega) (Nat.le_refl _)
  simpa using this

end
end Go.Proofs.YtmeecjkimeiogaaDoorLg

set_option linter.all false
set_option maxRecDepth 100000
namespace Go.Proofs.YtmeecjkimeiogaaDoorLg
noncomputable section
open Go Go.Lift Go.Proofs.YtmeecjkimeiogaaDoorPx

mutual
def z3j : Tree -> Nat
  | .mk _ _ ks _ _ => 1 + zni ks
def zni : List Tree -> Nat
  | [] => 0
  | x :: xs => z3j x + zni xs
end

mutual
def zrk : Tree -> Int
  | .mk _ _ ks _ _ => ztb ks 1
def ztb : List Tree -> Int -> Int
  | [], n => n
  | x :: xs, n => ztb xs (IntKind.wrap .i64 (n + zrk x))
end

mutual
def z10y : Tree -> Int
  | .mk _ _ ks _ _ => IntKind.wrap .i64 (z16z ks 0 + 1)
def z16z : List Tree -> Int -> Int
  | [], n => n
  | x :: xs, n => z16z xs (cond (decide (n < z10y x)) (z10y x) n)
end

def zm5 (x : Tree) : Int := (unN x).1

def z9l (lo hi : Int) : Bool := decide (0 <= lo /\ lo <= 16 /\ (hi = -1 \/ (1 <= hi /\ lo <= hi /\ hi <= 16)))

def shT (k : Int) (st : List Int) (ks : List Tree) (lo hi : Int) : Bool :=
 if k = 1 then ks.length == 0 && (lo == 0 && hi == 0)
 else if k = 2 then st == [0, 0, 0, 0] && (lo == 0 && (hi == 0 && (ks.length != 1 && !(ks.any fun x => zm5 x == 2))))
 else if k = 3 then st == [0, 0, 0, 0] && (lo == 0 && (hi == 0 && (decide (2 <= ks.length) && !(ks.any fun x => zm5 x == 3))))
 else if k = 4 then st == [0, 0, 0, 0] && (ks.length == 1 && z9l lo hi)
 else false

mutual
def z24 : Tree -> Bool
  | .mk k st ks lo hi => shT k st ks lo hi && zbi ks
def zbi : List Tree -> Bool
  | [] => true
  | x :: xs => z24 x && zbi xs
end

theorem zx2 : ∀ x : Tree, 0 < z3j x
  | .mk .. => by rw [z3j]; omega

theorem z79 : ∀ {ks : List Tree} {x : Tree}, x ∈ ks -> z3j x <= zni ks
  | y :: ks, x, h => by
    rw [zni]
    rcases List.mem_cons.1 h with rfl | h
    . omega
    . have := z79 h; omega

theorem z9j : ∀ ks : List Tree, ks.length <= zni ks
  | [] => by simp
  | y :: ks => by have := z9j ks; have := zx2 y; rw [zni, List.length_cons]; omega

def dT : Tree := .mk 0 [] [] 0 0

theorem zrd {ks : List Tree} (h : z183 ks) {i : Nat} (hi : i < ks.length) : WfN (ks.getD i dT) := by
  rw [List.getD_eq_getElem?_getD, List.getElem?_eq_getElem hi]
  exact (zcg ks).1 h _ (List.getElem_mem hi)

theorem zk9 {ks : List Tree} {i : Nat} (hi : i < ks.length) : ks.getD i dT ∈ ks := by
  rw [List.getD_eq_getElem?_getD, List.getElem?_eq_getElem hi]; exact List.getElem_mem hi

theorem eqD4 (x y : List Int) : eqD (T.arr 4 (T.int .u64)) x y = (x == y) := by
  rw [z16x (t := .arr 4 (.int .u64)) rfl, Bool.eq_iff_iff, decide_eq_true_eq, beq_iff_eq]

theorem zwq (d : Tree) {xs : List Tree} {i : Nat} (h : i < xs.length) (n : Int) : ztb (xs.drop i) n = ztb (xs.drop (i + 1)) (IntKind.wrap .i64 (n + zrk (xs.getD i d))) := by
  rw [List.drop_eq_getElem_cons h, ztb, List.getD_eq_getElem?_getD, List.getElem?_eq_getElem h]
  rfl

theorem zln {i len : Nat} (h : i < len) (hm : len <= maxLen) : IntKind.wrap .i64 ((i : Int) + 1) = ((i + 1 : Nat) : Int) := by
  rw [z4c (by unfold I64; unfold maxLen at hm; omega)]; omega

theorem zzz (d : Tree) {xs : List Tree} {i : Nat} (h : i < xs.length) (n : Int) : z16z (xs.drop i) n = z16z (xs.drop (i + 1)) (cond (decide (n < z10y (xs.getD i d))) (z10y (xs.getD i d)) n) := by
  rw [List.drop_eq_getElem_cons h, z16z, List.getD_eq_getElem?_getD, List.getElem?_eq_getElem h]
  rfl

theorem zpj : ∀ (N : Nat) (a : Tree), z3j a < N -> WfN a -> z2b N (unN a) = some (zrk a, z10y a, ())
  | 0, _, h, _ => absurd h (Nat.not_lt_zero _)
  | N + 1, .mk k st ks lo hi, h, hw => by
    rw [z3j] at h
    rw [WfN] at hw
    have hlen := z9j ks
    show z6h (N + 1) (z2b N) _ = _
    rw [zrk, z10y]
    unfold z6h zdg
    have key := zl8 (step := fun (v : (Int × Int × Int)) r => z5q (N + 1) (z2b N) (k, st, ks, lo, hi, ()) v.1 v.2.1 v.2.2 (fun all deep i => (r (all, deep, i))) (fun all deep => some (all, ((IntKind.wrap .i64 (deep + (1 : Int))), ()))))
      (fun v => ∃ i : Nat, v.2.2 = (i : Int) /\ i <= ks.length) (fun v => ks.length - v.2.2.toNat) (fun v => some (ztb (ks.drop v.2.2.toNat) v.1, IntKind.wrap .i64 (z16z (ks.drop v.2.2.toNat) v.2.1 + 1), ())) (by
      rintro ⟨n, d, v⟩ r ⟨i, rfl, hi⟩ hr
      unfold z5q z8w
      dsimp only
      rcases Nat.lt_or_ge i ks.length with h' | h'
      . rw [z72 (decide_eq_true (by omega)), z72 (z4d h'), Int.toNat_natCast]
        have e := zpj N (ks.getD i dT) (by have := z79 (zk9 h'); omega) (zrd hw.2.2.1.2 h')
        have e2 : z2b N (unN (ks.getD i (Tree.mk (0 : Int) ([] : List Int) ([] : List Tree) (0 : Int) (0 : Int)))) = some (zrk (ks.getD i dT), z10y (ks.getD i dT), ()) := e
        rw [e2, Option.bind_some, zln h' hw.2.2.1.1]
        dsimp only
        rw [hr _ ⟨i + 1, rfl, by omega⟩ (by simp only [Int.toNat_natCast]; omega), hr _ ⟨i + 1, rfl, by omega⟩ (by simp only [Int.toNat_natCast]; omega)]
        simp only [Int.toNat_natCast]
        rw [zwq dT h', zzz dT h']
        cases decide (d < z10y (ks.getD i dT)) <;> rfl
      . rw [zgb (decide_eq_false (by omega)), Int.toNat_natCast, List.drop_eq_nil_of_le h', ztb, z16z])
    have := key (N + 1) (1, 0, 0) ⟨0, rfl, by omega⟩ (by simp; omega)
    simp only [Int.toNat_zero, List.drop_zero] at this
    exact this

theorem zth (N : Nat) (lo hi : Int) : zcr N lo hi = some (z9l lo hi) := by
  unfold zcr ze7 ze6 z9l
  simp only [Bool.cond_eq_ite, decide_eq_true_eq, beq_iff_eq, if_true, Bool.false_eq_true, if_false]
  repeat' split
  all_goals first
    | (simp only [Option.some.injEq]; rw [eq_comm]; first | (apply decide_eq_true; omega) | (apply decide_eq_false; omega) | (rw [Bool.eq_iff_iff, decide_eq_true_eq, decide_eq_true_eq]; omega))
    | omega

theorem zti (N : Nat) (lo hi : Int) : z1h N lo hi = some (z9l lo hi) := by
  unfold z1h z7u z7t z9l
  simp only [Bool.cond_eq_ite, decide_eq_true_eq, beq_iff_eq, if_true, Bool.false_eq_true, if_false]
  repeat' split
  all_goals first
    | (simp only [Option.some.injEq]; rw [eq_comm]; first | (apply decide_eq_true; omega) | (apply decide_eq_false; omega) | (rw [Bool.eq_iff_iff, decide_eq_true_eq, decide_eq_true_eq]; omega))
    | omega

theorem znt {ks : List Tree} (hm : ks.length <= maxLen) (f : Tree -> Option Bool) (e : Bool) (step : Int -> (Int -> Option Bool) -> Option Bool)
    (hs : ∀ (i : Nat) (r : Int -> Option Bool), i <= ks.length -> step (i : Int) r = cond (decide ((i : Int) < (ks.length : Int))) (match f (ks.getD i dT) with
      | some b => some b
      | none => r (IntKind.wrap .i64 ((i : Int) + 1))) (some e)) (n : Nat) (hn : ks.length < n) : iter step n 0 = some ((ks.findSome? f).getD e) := by
  have key := zl8 (step := step) (fun v => ∃ i : Nat, v = (i : Int) /\ i <= ks.length) (fun v => ks.length - v.toNat) (fun v => some (((ks.drop v.toNat).findSome? f).getD e)) (by
    rintro v r ⟨i, rfl, hi⟩ hr
    rw [hs i r hi]
    rcases Nat.lt_or_ge i ks.length with h | h
    . have eg : ks.getD i dT = ks[i] := by rw [List.getD_eq_getElem?_getD, List.getElem?_eq_getElem h]; rfl
      rw [z72 (decide_eq_true (by omega)), Int.toNat_natCast, List.drop_eq_getElem_cons h, List.findSome?_cons, eg]
      cases hf : f ks[i] with
      | some b => rfl
      | none =>
        dsimp only
        rw [zln h hm, hr _ ⟨i + 1, rfl, by omega⟩ (by simp only [Int.toNat_natCast]; omega), Int.toNat_natCast]
    . rw [zgb (decide_eq_false (by omega)), Int.toNat_natCast, List.drop_eq_nil_of_le h]
      rfl)
  have := key n 0 ⟨0, rfl, by omega⟩ (by simp; omega)
  simpa using this

theorem zlu (p : Tree -> Bool) : ∀ ks : List Tree, (ks.findSome? fun x => cond (p x) (some true) none).getD false = ks.any p
  | [] => rfl
  | x :: ks => by
    rw [List.findSome?_cons, List.any_cons]
    cases hp : p x with
    | true => rfl
    | false => simpa using zlu p ks

theorem zik : ∀ ks : List Tree, (ks.findSome? fun x => cond (z24 x) none (some false)).getD true = zbi ks
  | [] => by rw [zbi]; rfl
  | x :: ks => by
    rw [List.findSome?_cons, zbi]
    cases hp : z24 x with
    | true => simpa using zik ks
    | false => rfl

theorem zhd (p : Tree -> Bool) : ∀ ks : List Tree, (ks.findSome? fun x => cond (z24 x && !(p x)) none (some false)).getD true = (zbi ks && !(ks.any p))
  | [] => by rw [zbi]; rfl
  | x :: ks => by
    rw [List.findSome?_cons, zbi, List.any_cons]
    cases hp : z24 x with
    | false => rfl
    | true =>
      cases hq : p x with
      | true => simp
      | false => simpa using zhd p ks

theorem zrg (N : Nat) (k : Int) (st : List Int) (ks : List Tree) (lo hi kind : Int) (hm : ks.length <= maxLen) (hN : ks.length < N) : z91 N (k, st, ks, lo, hi, ()) kind = some (ks.any fun x => zm5 x == kind) := by
  unfold z91 zgy
  rw [<- zlu]
  refine znt hm (fun x => cond (zm5 x == kind) (some true) none) false _ (fun i r hi => ?_) N hN
  unfold zcq
  dsimp only
  rcases Nat.lt_or_ge i ks.length with h | h
  . rw [z72 (decide_eq_true (by omega)), z72 (decide_eq_true (by omega)), z72 (z4d h), Int.toNat_natCast]
    change cond (zm5 (ks.getD i dT) == kind) _ _ = _
    cases zm5 (ks.getD i dT) == kind <;> rfl
  . rw [zgb (decide_eq_false (by omega)), zgb (decide_eq_false (by omega))]

theorem zyg (N : Nat) (k : Int) (st : List Int) (ks : List Tree) (lo hi : Int) (hm : ks.length <= maxLen) (hN : ks.length < N) : zb0 N (k, st, ks, lo, hi, ()) = some (shT k st ks lo hi) := by
  unfold zb0 zcs
  dsimp only
  rw [zrg N k st ks lo hi 2 hm hN, zrg N k st ks lo hi 3 hm hN, zth, eqD4]
  unfold shT
  simp only [Option.bind_some]
  have e0 : ((ks.length : Int) == 0) = (ks.length == 0) := by rw [Bool.eq_iff_iff, beq_iff_eq, beq_iff_eq]; omega
  have e1 : ((ks.length : Int) == 1) = (ks.length == 1) := by rw [Bool.eq_iff_iff, beq_iff_eq, beq_iff_eq]; omega
  have e2 : decide ((2 : Int) <= (ks.length : Int)) = decide (2 <= ks.length) := by rw [Bool.eq_iff_iff, decide_eq_true_eq, decide_eq_true_eq]; omega
  simp only [bne, e0, e1, e2]
  by_cases h1 : k = 1
  . subst h1
    cases lo == 0 <;> cases hi == 0 <;> cases ks.length == 0 <;> rfl
  rw [if_neg h1]
  by_cases h2 : k = 2
  . subst h2
    cases lo == 0 <;> cases hi == 0 <;> cases ks.length == 1 <;> cases st == [0, 0, 0, 0] <;> rfl
  rw [if_neg h2]
  by_cases h3 : k = 3
  . subst h3
    cases lo == 0 <;> cases hi == 0 <;> cases decide (2 <= ks.length) <;> cases st == [0, 0, 0, 0] <;> rfl
  rw [if_neg h3]
  have f1 : (k == 1) = false := by simpa using h1
  have f2 : (k == 2) = false := by simpa using h2
  have f3 : (k == 3) = false := by simpa using h3
  by_cases h4 : k = 4
  . subst h4
    cases lo == 0 <;> cases hi == 0 <;> cases ks.length == 1 <;> cases st == [0, 0, 0, 0] <;> rfl
  have f4 : (k == 4) = false := by simpa using h4
  rw [if_neg h4, f1, f2, f3, f4]
  cases lo == 0 <;> rfl

theorem zj2 : ∀ (N : Nat) (a : Tree), z3j a < N -> WfN a -> z4t N (unN a) = some (z24 a)
  | 0, _, h, _ => absurd h (Nat.not_lt_zero _)
  | N + 1, .mk k st ks lo hi, h, hw => by
    rw [z3j] at h
    rw [WfN] at hw
    have hlen := z9j ks
    show zcb (N + 1) (z4t N) (k, st, ks, lo, hi, ()) = _
    rw [z24]
    unfold zcb zii
    rw [zyg (N + 1) k st ks lo hi hw.2.2.1.1 (by omega), Option.bind_some]
    cases shT k st ks lo hi with
    | false => rfl
    | true =>
      simp only [Bool.not_true, cond_false, Bool.true_and]
      rw [<- zik]
      refine znt hw.2.2.1.1 (fun x => cond (z24 x) none (some false)) true _ (fun i r hi => ?_) (N + 1) (by omega)
      unfold zea
      dsimp only
      rcases Nat.lt_or_ge i ks.length with h' | h'
      . rw [z72 (decide_eq_true (by omega)), z72 (decide_eq_true (by omega)), z72 (z4d h'), Int.toNat_natCast]
        have e : z4t N (unN (ks.getD i (Tree.mk (0 : Int) ([] : List Int) ([] : List Tree) (0 : Int) (0 : Int)))) = some (z24 (ks.getD i dT)) := zj2 N (ks.getD i dT) (by have := z79 (zk9 h'); omega) (zrd hw.2.2.1.2 h')
        rw [e, Option.bind_some]
        cases z24 (ks.getD i dT) <;> rfl
      . rw [zgb (decide_eq_false (by omega)), zgb (decide_eq_false (by omega))]

def shU (k : Int) (st : List Int) (ks : List Tree) (lo hi : Int) : Bool :=
 if k = 1 then ks.length == 0 && (lo == 0 && hi == 0)
 else if k = 2 then st == [0, 0, 0, 0] && (lo == 0 && (hi == 0 && (ks.length != 1)))
 else if k = 3 then st == [0, 0, 0, 0] && (lo == 0 && (hi == 0 && (decide (2 <= ks.length))))
 else if k = 4 then st == [0, 0, 0, 0] && (ks.length == 1 && z9l lo hi)
 else false

theorem z14f (k : Int) (st : List Int) (ks : List Tree) (lo hi : Int) : shT k st ks lo hi = (shU k st ks lo hi && !(ks.any fun x => zm5 x == k && decide (k < 4))) := by
  unfold shT shU
  by_cases h1 : k = 1
  . subst h1
    rw [if_pos rfl, if_pos rfl]
    cases ks with
    | nil => simp
    | cons x xs => simp
  rw [if_neg h1, if_neg h1]
  by_cases h2 : k = 2
  . subst h2
    simp [Bool.and_assoc]
  rw [if_neg h2, if_neg h2]
  by_cases h3 : k = 3
  . subst h3
    simp [Bool.and_assoc]
  rw [if_neg h3, if_neg h3]
  by_cases h4 : k = 4
  . subst h4
    simp
  rw [if_neg h4]
  rfl

theorem z14i {N : Nat} {k : Int} {st : List Int} {ks : List Tree} {lo hi : Int} (hm : ks.length <= maxLen) (hN : ks.length < N + 1) (self : NodT.den -> Option Bool) (hself : ∀ i, i < ks.length -> self (unN (ks.getD i dT)) = some (z24 (ks.getD i dT))) :
    z7y (N + 1) self (k, st, ks, lo, hi, ()) (ks.length : Int) 0 (fun x23 => some x23) (some true) = some (zbi ks && !(ks.any fun x => zm5 x == k && decide (k < 4))) := by
  unfold z7y
  rw [<- zhd]
  refine znt hm (fun x => cond (z24 x && !(zm5 x == k && decide (k < 4))) none (some false)) true _ (fun i r hi => ?_) (N + 1) hN
  unfold z7v z7x z7w
  dsimp only
  rcases Nat.lt_or_ge i ks.length with h' | h'
  . have ht : decide ((i : Int) < (ks.length : Int)) = true := decide_eq_true (by omega)
    rw [z72 ht, z72 ht, z72 (z4d h'), z72 (z4d h'), Int.toNat_natCast]
    have e : self (unN (ks.getD i (Tree.mk (0 : Int) ([] : List Int) ([] : List Tree) (0 : Int) (0 : Int)))) = some (z24 (ks.getD i dT)) := hself i h'
    rw [e, Option.bind_some]
    change cond (!(z24 (ks.getD i dT))) _ (cond (zm5 (ks.getD i dT) == k) _ _) = _
    cases z24 (ks.getD i dT) <;> cases zm5 (ks.getD i dT) == k <;> cases decide (k < 4) <;> rfl
  . have ht : decide ((i : Int) < (ks.length : Int)) = false := decide_eq_false (by omega)
    rw [zgb ht, zgb ht]

theorem zj3 : ∀ (N : Nat) (a : Tree), z3j a < N -> WfN a -> z1z N (unN a) = some (z24 a)
  | 0, _, h, _ => absurd h (Nat.not_lt_zero _)
  | N + 1, .mk k st ks lo hi, h, hw => by
    rw [z3j] at h
    rw [WfN] at hw
    have hlen := z9j ks
    show z5r (N + 1) (z1z N) (k, st, ks, lo, hi, ()) = _
    rw [z24, z14f]
    unfold z5r z84 z83 z82 z81 z80 z7z
    dsimp only
    rw [z14i hw.2.2.1.1 (by omega) (z1z N) (fun i hi => zj3 N _ (by have := z79 (zk9 hi); omega) (zrd hw.2.2.1.2 hi)), zti, eqD4]
    simp only [Option.bind_some]
    have e0 : ((ks.length : Int) == 0) = (ks.length == 0) := by rw [Bool.eq_iff_iff, beq_iff_eq, beq_iff_eq]; omega
    have e1 : ((ks.length : Int) == 1) = (ks.length == 1) := by rw [Bool.eq_iff_iff, beq_iff_eq, beq_iff_eq]; omega
    have e2 : decide ((ks.length : Int) < 2) = !(decide (2 <= ks.length)) := by rw [Bool.eq_iff_iff, Bool.not_eq_true', decide_eq_true_eq, decide_eq_false_iff_not]; omega
    unfold shU
    simp only [bne, e0, e1, e2]
    generalize (ks.any fun x => zm5 x == k && decide (k < 4)) = q
    generalize zbi ks = p
    by_cases h1 : k = 1
    . subst h1
      cases lo == 0 <;> cases hi == 0 <;> cases ks.length == 0 <;> cases p <;> cases q <;> rfl
    rw [if_neg h1]
    by_cases h2 : k = 2
    . subst h2
      cases lo == 0 <;> cases hi == 0 <;> cases ks.length == 1 <;> cases st == [0, 0, 0, 0] <;> cases p <;> cases q <;> rfl
    rw [if_neg h2]
    by_cases h3 : k = 3
    . subst h3
      cases lo == 0 <;> cases hi == 0 <;> cases decide (2 <= ks.length) <;> cases st == [0, 0, 0, 0] <;> cases p <;> cases q <;> rfl
    rw [if_neg h3]
    by_cases h4 : k = 4
    . subst h4
      cases z9l lo hi <;> cases ks.length == 1 <;> cases st == [0, 0, 0, 0] <;> cases p <;> cases q <;> rfl
    rw [if_neg h4]
    rcases Int.lt_or_le k 1 with h5 | h5
    . rw [z72 (decide_eq_true h5)]; rfl
    . rw [zgb (decide_eq_false (by omega)), decide_eq_true (show (4 : Int) < k by omega)]; rfl

end
end Go.Proofs.YtmeecjkimeiogaaDoorLg

set_option linter.all false
set_option maxRecDepth 100000
namespace Go.Proofs.YtmeecjkimeiogaaDoorLg
noncomputable section
open Go Go.Lift Go.Proofs.YtmeecjkimeiogaaDoorPx

abbrev PrT := Bool × ((List Int) × ((List Int) × Unit))
abbrev WrT := (List (List Int)) × PrT

def mg : List Int -> List Int -> List Int
  | [], b => b
  | a :: az, [] => a :: az
  | a :: az, b :: bs => if a < b then a :: mg az (b :: bs) else if b < a then b :: mg (a :: az) bs else a :: mg az bs
termination_by a b => a.length + b.length

theorem zw4 (a : List Int) : mg a [] = a := by cases a <;> rw [mg]

def Ris (hi : Int) : Int -> List Int -> Prop
  | _, [] => True
  | lo, x :: xs => lo <= x /\ x < hi /\ Ris hi (x + 1) xs

theorem Ris.mono {hi hi' : Int} (h : hi <= hi') : ∀ {l : List Int} {lo lo' : Int}, lo' <= lo -> Ris hi lo l -> Ris hi' lo' l
  | [], _, _, _, _ => trivial
  | x :: xs, lo, lo', h', hr => ⟨by have := hr.1; omega, by have := hr.2.1; omega, Ris.mono h (Int.le_refl _) hr.2.2⟩

theorem Ris.len {hi : Int} : ∀ {l : List Int} {lo : Int}, Ris hi lo l -> lo <= hi -> (l.length : Int) <= hi - lo
  | [], lo, _, h => by simp; omega
  | x :: xs, lo, hr, h => by
    have := Ris.len hr.2.2 (by have := hr.2.1; omega)
    have := hr.1
    rw [List.length_cons]; omega

theorem Ris.mem {hi : Int} {y : Int} : ∀ {l : List Int} {lo : Int}, Ris hi lo l -> y ∈ l -> lo <= y /\ y < hi
  | x :: xs, lo, hr, hm => by
    have h1 := hr.1
    have h2 := hr.2.1
    rcases List.mem_cons.1 hm with rfl | hm
    . exact ⟨h1, h2⟩
    . have := Ris.mem hr.2.2 hm; omega

theorem Ris.mg {hi : Int} : ∀ {a b : List Int} {lo : Int}, Ris hi lo a -> Ris hi lo b -> Ris hi lo (mg a b)
  | [], b, lo, ha, hb => by rw [Go.Proofs.YtmeecjkimeiogaaDoorLg.mg]; exact hb
  | a :: az, [], lo, ha, hb => by rw [Go.Proofs.YtmeecjkimeiogaaDoorLg.mg]; exact ha
  | a :: az, b :: bs, lo, ha, hb => by
    rw [Go.Proofs.YtmeecjkimeiogaaDoorLg.mg]
    split
    . next h => exact ⟨ha.1, ha.2.1, Ris.mg ha.2.2 ⟨by omega, hb.2⟩⟩
    . split
      . next h h' => exact ⟨hb.1, hb.2.1, Ris.mg ⟨by omega, ha.2⟩ hb.2.2⟩
      . next h h' =>
        have e : a = b := by omega
        subst e
        exact ⟨ha.1, ha.2.1, Ris.mg ha.2.2 hb.2.2⟩
termination_by a b => a.length + b.length

theorem zfp (x : Int) (l : List Int) (n : Int) : inL (x :: l) n = ((x == n) || inL l n) := rfl

theorem zu2 {hi : Int} {l : List Int} {lo n : Int} (h : Ris hi lo l) (hn : n < lo \/ hi <= n) : inL l n = false := by
  induction l generalizing lo with
  | nil => rfl
  | cons x xs ih =>
    have h1 := h.1
    have h2 := h.2.1
    rw [zfp, beq_eq_false_iff_ne.2 (by omega), ih h.2.2 (by omega)]; rfl

theorem znu (x : Int) (a b : List Int) : ∀ (k n : Nat), x < (n : Int) -> zew (x :: a) b k n = zew a b k n
  | 0, _, _ => rfl
  | k + 1, n, h => by
    rw [zew, zew, zfp, beq_eq_false_iff_ne.2 (by omega), Bool.false_or, znu x a b k (n + 1) (by omega)]
theorem zl7 (x : Int) (a b : List Int) : ∀ (k n : Nat), x < (n : Int) -> zew a (x :: b) k n = zew a b k n
  | 0, _, _ => rfl
  | k + 1, n, h => by
    rw [zew, zew, zfp, beq_eq_false_iff_ne.2 (by omega), Bool.false_or, zl7 x a b k (n + 1) (by omega)]

theorem zn0 {hi : Int} {n : Nat} {a : List Int} (h : Ris hi (n : Int) a) : (∃ az, a = (n : Int) :: az /\ Ris hi ((n + 1 : Nat) : Int) az) \/ Ris hi ((n + 1 : Nat) : Int) a := by
  cases a with
  | nil => exact .inr trivial
  | cons x xs =>
    have h1 := h.1
    have h3 := h.2.2
    by_cases e : x = (n : Int)
    . subst e; exact .inl ⟨xs, rfl, by rw [show ((n + 1 : Nat) : Int) = (n : Int) + 1 by omega]; exact h3⟩
    . exact .inr ⟨by omega, h.2⟩

theorem z14q {hi : Int} {x : Int} {az b : List Int} (hb : Ris hi (x + 1) b) : mg (x :: az) b = x :: mg az b := by
  cases b with
  | nil => rw [mg, zw4]
  | cons y ys => have := hb.1; rw [mg, if_pos (by omega)]

theorem z11m {hi : Int} {x : Int} {a bs : List Int} (ha : Ris hi (x + 1) a) : mg a (x :: bs) = x :: mg a bs := by
  cases a with
  | nil => rw [mg, mg]
  | cons y ys => have := ha.1; rw [mg, if_neg (by omega), if_pos (by omega)]

theorem znv : ∀ (k n : Nat) {a b : List Int}, Ris ((n + k : Nat) : Int) n a -> Ris ((n + k : Nat) : Int) n b -> zew a b k n = mg a b
  | 0, n, a, b, ha, hb => by
    have e : ∀ l : List Int, Ris ((n + 0 : Nat) : Int) n l -> l = [] := fun l h => by
      cases l with
      | nil => rfl
      | cons x xs => have h1 := h.1; have h2 := h.2.1; omega
    rw [e a ha, e b hb, zew, mg]
  | k + 1, n, a, b, ha, hb => by
    rw [show n + (k + 1) = (n + 1) + k by omega] at ha hb
    rcases zn0 ha with ⟨az, rfl, ha'⟩ | ha'
    . rcases zn0 hb with ⟨bs, rfl, hb'⟩ | hb'
      . rw [zew, zfp, beq_self_eq_true, Bool.true_or, Bool.true_or, if_pos rfl, znu _ _ _ _ _ (by omega), zl7 _ _ _ _ _ (by omega), znv k (n + 1) ha' hb', mg, if_neg (by omega), if_neg (by omega)]
        rfl
      . rw [zew, zfp, beq_self_eq_true, Bool.true_or, Bool.true_or, if_pos rfl, znu _ _ _ _ _ (by omega), znv k (n + 1) ha' hb', z14q (hi := (((n + 1) + k : Nat) : Int)) (by rw [show (n : Int) + 1 = ((n + 1 : Nat) : Int) by omega]; exact hb')]
        rfl
    . rcases zn0 hb with ⟨bs, rfl, hb'⟩ | hb'
      . rw [zew, zfp, beq_self_eq_true, Bool.true_or, Bool.or_true, if_pos rfl, zl7 _ _ _ _ _ (by omega), znv k (n + 1) ha' hb', z11m (hi := (((n + 1) + k : Nat) : Int)) (by rw [show (n : Int) + 1 = ((n + 1 : Nat) : Int) by omega]; exact ha')]
        rfl
      . rw [zew, zu2 ha' (.inl (by omega)), zu2 hb' (.inl (by omega)), znv k (n + 1) ha' hb']
        rfl

theorem zw5 {m : Nat} {lo lo' : Nat} {a b : List Int} (ha : Ris (m : Int) lo a) (hb : Ris (m : Int) lo' b) : zew a b m 0 = mg a b :=
  znv m 0 (by rw [Nat.zero_add]; exact ha.mono (Int.le_refl _) (by omega)) (by rw [Nat.zero_add]; exact hb.mono (Int.le_refl _) (by omega))

def lnk (A B : List Int) : Nat -> List (List Int) -> List (List Int)
  | _, [] => []
  | o, r :: rs => (if inL A (o : Int) then mg r B else r) :: lnk A B (o + 1) rs

theorem znq (A B : List Int) : ∀ (o : Nat) (u : List (List Int)), (lnk A B o u).length = u.length
  | _, [] => rfl
  | o, r :: rs => by rw [lnk, List.length_cons, List.length_cons, znq A B (o + 1) rs]

theorem zhv (A B : List Int) : ∀ (o : Nat) (u v : List (List Int)), lnk A B o (u ++ v) = lnk A B o u ++ lnk A B (o + u.length) v
  | o, [], v => by simp [lnk]
  | o, r :: rs, v => by
    rw [List.cons_append, lnk, lnk, zhv A B (o + 1) rs v, List.cons_append, List.length_cons, show o + 1 + rs.length = o + (rs.length + 1) by omega]

theorem znp (A B : List Int) : ∀ (o : Nat) (u : List (List Int)), (∀ x ∈ A, x < (o : Int) \/ ((o + u.length : Nat) : Int) <= x) -> lnk A B o u = u
  | _, [], _ => rfl
  | o, r :: rs, h => by
    have e : inL A (o : Int) = false := by
      unfold inL
      rw [List.any_eq_false]
      intro x hx
      have := h x hx
      rw [List.length_cons] at this
      simp only [beq_iff_eq]
      omega
    rw [lnk, e, znp A B (o + 1) rs (fun x hx => by have := h x hx; rw [List.length_cons] at this; omega)]
    rfl

theorem zzc (A : List Int) : ∀ (o : Nat) (u : List (List Int)), lnk A [] o u = u
  | _, [] => rfl
  | o, r :: rs => by rw [lnk, zzc A (o + 1) rs, zw4, ite_self]

theorem z11p (B : List Int) (o : Nat) (u : List (List Int)) : lnk [] B o u = u := znp [] B o u (fun x hx => absurd hx (by simp))

theorem ztv {A B : List Int} {P : List Int -> Prop} (hB : ∀ r, P r -> P (mg r B)) : ∀ {o : Nat} {u : List (List Int)}, (∀ r ∈ u, P r) -> ∀ r ∈ lnk A B o u, P r
  | _, [], _, r, hr => by cases hr
  | o, x :: xs, h, r, hr => by
    rw [lnk] at hr
    rcases List.mem_cons.1 hr with rfl | hr
    . split
      . exact hB _ (h x (by simp))
      . exact h x (by simp)
    . exact ztv hB (fun y hy => h y (by simp [hy])) r hr

theorem ztw (A B : List Int) : ∀ (o : Nat) (u : List (List Int)) (i : Nat) (h : i < u.length), (lnk A B o u)[i]? = some (if inL A ((o + i : Nat) : Int) then mg u[i] B else u[i])
  | o, r :: rs, 0, h => by rw [lnk]; rfl
  | o, r :: rs, i + 1, h => by
    rw [lnk, List.getElem?_cons_succ, ztw A B (o + 1) rs i (by simpa using h), show o + 1 + i = o + (i + 1) by omega]
    rfl

def zqc (x y : PrT) : PrT := (x.1 && y.1, (if x.1 then mg x.2.1 y.2.1 else x.2.1, (if y.1 then mg x.2.2.1 y.2.2.1 else y.2.2.1, ())))
def z12y (x y : PrT) : PrT := (x.1 || y.1, (mg x.2.1 y.2.1, (mg x.2.2.1 y.2.2.1, ())))
def zmd (o : Nat) (u v : WrT) : WrT := (lnk u.2.2.2.1 v.2.2.1 o (u.1 ++ v.1), zqc u.2 v.2)
def z9k : PrT := (true, ([], ([], ())))
def z16w : PrT := (false, ([], ([], ())))

def zxo : List (Nat -> WrT) -> Nat -> WrT -> WrT
  | [], _, u => u
  | f :: fs, o, u => zxo fs o (zmd o u (f (o + u.1.length)))
def zxt : List (Nat -> WrT) -> Nat -> WrT -> WrT
  | [], _, u => u
  | f :: fs, o, u => zxt fs o (u.1 ++ (f (o + u.1.length)).1, z12y u.2 (f (o + u.1.length)).2)
def zm4 (f : Nat -> WrT) (o : Nat) : Nat -> WrT -> WrT
  | 0, u => u
  | n + 1, u => zm4 f o n (zmd o u (f (o + u.1.length)))
def zc6 (f : Nat -> WrT) : Nat -> Nat -> WrT
  | _, 0 => ([], z9k)
  | o, n + 1 => ((zmd o (f o) (zc6 f (o + (f o).1.length) n)).1, (true, (zqc (f o).2 (zc6 f (o + (f o).1.length) n).2).2))
def z11o (f : Nat -> WrT) (o : Nat) : WrT := (lnk (f o).2.2.2.1 (f o).2.2.1 o (f o).1, (true, (f o).2.2))
def z14h (f : Nat -> WrT) (lo hi : Int) (o : Nat) : WrT :=
  let q := zm4 f o lo.toNat ([], z9k)
  zmd o q (if hi = -1 then z11o f (o + q.1.length) else zc6 f (o + q.1.length) (hi - lo).toNat)
def zxg : List (Nat -> WrT) -> Nat -> WrT
  | [], _ => ([], z9k)
  | f :: _, o => f o

def zft (lo hi : Int) : Nat := if hi = -1 then lo.toNat + 1 else hi.toNat

mutual
def zj : Tree -> List (List Int)
  | .mk k st ks lo hi => if k = 1 then [st] else if k = 4 then (List.replicate (zft lo hi) (z5e ks)).flatten else z5e ks
def z5e : List Tree -> List (List Int)
  | [] => []
  | x :: xs => zj x ++ z5e xs
end

mutual
def mT : Tree -> Nat -> WrT
  | .mk k st ks lo hi => fun o =>
    if k = 1 then ([[]], (false, ([(o : Int)], ([(o : Int)], ()))))
    else if k = 2 then zxo (mL ks) o ([], z9k)
    else if k = 3 then zxt (mL ks) o ([], z16w)
    else if (zxg (mL ks) o).1.length = 0 then ([], z9k)
    else z14h (zxg (mL ks)) lo hi o
def mL : List Tree -> List (Nat -> WrT)
  | [] => []
  | x :: xs => mT x :: mL xs
end

structure Gd (o c : Nat) (u : WrT) : Prop where
  len : u.1.length = c
  rows : ∀ r ∈ u.1, Ris ((o + c : Nat) : Int) o r
  fst : Ris ((o + c : Nat) : Int) o u.2.2.1
  lst : Ris ((o + c : Nat) : Int) o u.2.2.2.1

theorem Gd.up {o c d : Nat} {l : List Int} (h : Ris ((o + c : Nat) : Int) o l) (hd : c <= d) : Ris ((o + d : Nat) : Int) o l := h.mono (by omega) (Int.le_refl _)
theorem Gd.up2 {o c d : Nat} {l : List Int} (h : Ris ((o + c + d : Nat) : Int) ((o + c : Nat) : Int) l) : Ris ((o + (c + d) : Nat) : Int) o l := h.mono (by omega) (by omega)

theorem zya {lo hi : Int} {x y : PrT} (h1 : Ris hi lo x.2.1) (h2 : Ris hi lo x.2.2.1) (h3 : Ris hi lo y.2.1) (h4 : Ris hi lo y.2.2.1) : Ris hi lo (zqc x y).2.1 /\ Ris hi lo (zqc x y).2.2.1 := by
  unfold zqc
  constructor
  . dsimp only; split
    . exact h1.mg h3
    . exact h1
  . dsimp only; split
    . exact h2.mg h4
    . exact h4

theorem Gd.seq {o c d : Nat} {u v : WrT} (hu : Gd o c u) (hv : Gd (o + c) d v) : Gd o (c + d) (zmd o u v) := by
  have hp := zya (Gd.up hu.fst (Nat.le_add_right c d)) (Gd.up hu.lst (Nat.le_add_right c d)) (Gd.up2 hv.fst) (Gd.up2 hv.lst)
  refine ⟨by unfold zmd; rw [znq, List.length_append, hu.len, hv.len], ?_, hp.1, hp.2⟩
  exact ztv (fun r hr => hr.mg (Gd.up2 hv.fst)) (fun r hr => by
    rcases List.mem_append.1 hr with h | h
    . exact Gd.up (hu.rows r h) (Nat.le_add_right c d)
    . exact Gd.up2 (hv.rows r h))

theorem Gd.alt {o c d : Nat} {u v : WrT} (hu : Gd o c u) (hv : Gd (o + c) d v) : Gd o (c + d) (u.1 ++ v.1, z12y u.2 v.2) := by
  refine ⟨by rw [List.length_append, hu.len, hv.len], ?_, (Gd.up hu.fst (Nat.le_add_right c d)).mg (Gd.up2 hv.fst), (Gd.up hu.lst (Nat.le_add_right c d)).mg (Gd.up2 hv.lst)⟩
  intro r hr
  rcases List.mem_append.1 hr with h | h
  . exact Gd.up (hu.rows r h) (Nat.le_add_right c d)
  . exact Gd.up2 (hv.rows r h)

theorem Gd.zero (o : Nat) (b : Bool) : Gd o 0 ([], (b, ([], ([], ())))) := ⟨rfl, fun r hr => (by cases hr), trivial, trivial⟩

def GdF (c : Nat) (f : Nat -> WrT) : Prop := ∀ o, Gd o c (f o)

theorem Gd.tail {c : Nat} {f : Nat -> WrT} (hf : GdF c f) : ∀ (n o : Nat), Gd o (n * c) (zc6 f o n)
  | 0, o => by rw [Nat.zero_mul]; exact Gd.zero o true
  | n + 1, o => by
    rw [zc6, (hf o).len, Nat.add_mul, Nat.one_mul, Nat.add_comm (n * c) c]
    have := (hf o).seq (Gd.tail hf n (o + c))
    exact ⟨this.len, this.rows, this.fst, this.lst⟩

theorem Gd.loop {c : Nat} {f : Nat -> WrT} (hf : GdF c f) (o : Nat) : Gd o c (z11o f o) :=
  ⟨by unfold z11o; rw [znq]; exact (hf o).len, ztv (fun r hr => hr.mg (hf o).fst) (hf o).rows, (hf o).fst, (hf o).lst⟩

theorem Gd.req {c : Nat} {f : Nat -> WrT} (hf : GdF c f) (o : Nat) : ∀ (n d : Nat) {u : WrT}, Gd o d u -> Gd o (d + n * c) (zm4 f o n u)
  | 0, d, u, hu => by rw [Nat.zero_mul]; exact hu
  | n + 1, d, u, hu => by
    rw [zm4, Nat.add_mul, Nat.one_mul, show d + (n * c + c) = d + c + n * c by omega]
    refine Gd.req hf o n (d + c) ?_
    have := hf (o + d)
    rw [hu.len]
    exact hu.seq this

theorem Gd.rep {c : Nat} {f : Nat -> WrT} (hf : GdF c f) {lo hi : Int} (h : z9l lo hi = true) (o : Nat) : Gd o (zft lo hi * c) (z14h f lo hi o) := by
  unfold z9l at h
  have h := of_decide_eq_true h
  unfold z14h
  have hq := Gd.req hf o lo.toNat 0 (Gd.zero o true)
  rw [Nat.zero_add] at hq
  dsimp only
  rw [show ([], (true, (([] : List Int), (([] : List Int), ())))) = (([] : List (List Int)), z9k) from rfl] at hq
  rw [hq.len]
  unfold zft
  split
  . rw [Nat.add_mul, Nat.one_mul]; exact hq.seq (Gd.loop hf _)
  . rw [show hi.toNat = lo.toNat + (hi - lo).toNat by omega, Nat.add_mul]; exact hq.seq (Gd.tail hf _ _)

theorem zar (n : Nat) (l : List (List Int)) : ((List.replicate n l).flatten).length = n * l.length := by
  induction n with
  | zero => simp
  | succ n ih => rw [List.replicate_succ, List.flatten_cons, List.length_append, ih, Nat.add_mul]; omega

mutual
theorem zdk : ∀ (x : Tree), z24 x = true -> GdF (zj x).length (mT x)
  | .mk k st ks lo hi, h, o => by
    rw [z24, Bool.and_eq_true] at h
    rw [mT, zj]
    dsimp only
    by_cases h1 : k = 1
    . rw [if_pos h1, if_pos h1]
      exact ⟨rfl, fun r hr => by rw [List.mem_singleton.1 hr]; trivial, ⟨Int.le_refl _, by simp; omega, trivial⟩, ⟨Int.le_refl _, by simp; omega, trivial⟩⟩
    . rw [if_neg h1, if_neg h1]
      by_cases h2 : k = 2
      . rw [if_pos h2, if_neg (by omega)]
        have := (zqx ks h.2).1 o 0 (Gd.zero o true)
        rwa [Nat.zero_add] at this
      . rw [if_neg h2]
        by_cases h3 : k = 3
        . rw [if_pos h3, if_neg (by omega)]
          have := (zqx ks h.2).2.1 o 0 (Gd.zero o false)
          rwa [Nat.zero_add] at this
        . rw [if_neg h3]
          have h4 : k = 4 := by
            have := h.1
            unfold shT at this
            rw [if_neg h1, if_neg h2, if_neg h3] at this
            by_cases e : k = 4
            . exact e
            . rw [if_neg e] at this; exact absurd this (by decide)
          rw [if_pos h4, zar]
          have hs := h.1
          unfold shT at hs
          rw [if_neg h1, if_neg h2, if_neg h3, if_pos h4, Bool.and_eq_true, Bool.and_eq_true] at hs
          have hk : ks.length = 1 := by simpa using hs.2.1
          have hg := (zqx ks h.2).2.2 hk
          rw [(hg o).len]
          split
          . next e => rw [e, Nat.mul_zero]; exact Gd.zero o true
          . exact Gd.rep hg hs.2.2 o
theorem zqx : ∀ (ks : List Tree), zbi ks = true -> (∀ o d {u : WrT}, Gd o d u -> Gd o (d + (z5e ks).length) (zxo (mL ks) o u)) /\ (∀ o d {u : WrT}, Gd o d u -> Gd o (d + (z5e ks).length) (zxt (mL ks) o u)) /\ (ks.length = 1 -> GdF (z5e ks).length (zxg (mL ks)))
  | [], _ => ⟨fun o d u hu => by rw [mL, zxo, z5e]; exact hu, fun o d u hu => by rw [mL, zxt, z5e]; exact hu, fun h => by simp at h⟩
  | x :: xs, h => by
    rw [zbi, Bool.and_eq_true] at h
    have hx := zdk x h.1
    have hxs := zqx xs h.2
    rw [z5e, mL, List.length_append]
    refine ⟨fun o d u hu => ?_, fun o d u hu => ?_, fun hl o => ?_⟩
    . rw [zxo, <- Nat.add_assoc, hu.len]
      exact hxs.1 o _ (hu.seq (hx (o + d)))
    . rw [zxt, <- Nat.add_assoc, hu.len]
      exact hxs.2.1 o _ (hu.alt (hx (o + d)))
    . rw [zxg]
      have : xs = [] := List.eq_nil_of_length_eq_zero (by simpa using hl)
      subst this
      rw [z5e]
      simpa using hx o
end

end
end Go.Proofs.YtmeecjkimeiogaaDoorLg

set_option linter.all false
set_option maxRecDepth 100000
namespace Go.Proofs.YtmeecjkimeiogaaDoorLg
noncomputable section
open Go Go.Lift Go.Proofs.YtmeecjkimeiogaaDoorPx

abbrev BdT := (List (List Int)) × ((List (List Int)) × Unit)

theorem z1jp (N : Nat) (x y : Int) : z73 N x y = some (if x < y then -1 else if y < x then 1 else 0) := by
  unfold z73
  rw [show (x != x) = false by simp, show (y != y) = false by simp]
  simp only [cond_false]
  by_cases h : x < y
  . rw [decide_eq_true h, if_pos h]; rfl
  . rw [decide_eq_false h, if_neg h]
    by_cases h' : y < x
    . rw [decide_eq_true h', if_pos h']; rfl
    . rw [decide_eq_false h', if_neg h']; rfl

theorem z101 (x : Int) (xs : List Int) : cut (x :: xs) 1 (x :: xs).length = xs := by simp [cut]

theorem zx6 (N : Nat) : ∀ (n N' : Nat) (a b l : List Int), a.length + b.length <= n -> n < N' -> l.length + a.length + b.length <= 20000 →
    iter (fun (v : ((List Int) × (List Int) × (List Int))) r => z4i N v.1 v.2.1 v.2.2 (fun a b l => (r (a, b, l))) (fun a1 b1 l => cond (decide ((((List.length l) + (List.length a1)) * 8) <= 70368744177664))
      (cond (decide ((((List.length (l ++ a1)) + (List.length b1)) * 8) <= 70368744177664))
        (some ((l ++ a1) ++ b1))
        (none))
      (none))) N' (a, b, l) = some (l ++ mg a b) := by
  intro n
  induction n with
  | zero =>
    intro N' a b l h1 h2 h3
    obtain ⟨M, rfl⟩ : ∃ M, N' = M + 1 := ⟨N' - 1, by omega⟩
    have ea : a = [] := List.eq_nil_of_length_eq_zero (by omega)
    have eb : b = [] := List.eq_nil_of_length_eq_zero (by omega)
    subst ea; subst eb
    rw [iter]
    dsimp only
    unfold z4i z6c
    simp only [List.length_nil, Int.natCast_zero, Int.lt_irrefl, decide_false, cond_false, List.append_nil, mg]
    rw [decide_eq_true (show (l.length + 0) * 8 <= 70368744177664 by simp at h3 ⊢; omega)]
    rfl
  | succ n ih =>
    intro N' a b l h1 h2 h3
    obtain ⟨M, rfl⟩ : ∃ M, N' = M + 1 := ⟨N' - 1, by omega⟩
    rw [iter]
    dsimp only
    unfold z4i z6c
    have fin : ∀ a b : List Int, l.length + a.length + b.length <= 20000 -> cond (decide ((((List.length l) + (List.length a)) * 8) <= 70368744177664)) (cond (decide ((((List.length (l ++ a)) + (List.length b)) * 8) <= 70368744177664)) (some ((l ++ a) ++ b)) none) none = some (l ++ a ++ b) := by
      intro a b h
      rw [decide_eq_true (show (l.length + a.length) * 8 <= 70368744177664 by omega), decide_eq_true (show ((l ++ a).length + b.length) * 8 <= 70368744177664 by rw [List.length_append]; omega)]
      rfl
    cases a with
    | nil =>
      rw [decide_eq_false (by simp), cond_false]
      refine (fin [] b h3).trans ?_
      rw [mg]
      simp
    | cons x xs =>
      rw [decide_eq_true (by simp), cond_true]
      cases b with
      | nil =>
        rw [decide_eq_false (by simp), cond_false]
        refine (fin (x :: xs) [] h3).trans ?_
        rw [mg]
        simp
      | cons y ys =>
        simp only [List.length_cons] at h1 h3
        rw [decide_eq_true (by simp), cond_true, show inR (0 : Int) (x :: xs).length = true from zk8 (Int.le_refl _) (by simp), show inR (0 : Int) (y :: ys).length = true from zk8 (Int.le_refl _) (by simp), cond_true, cond_true, z1jp, Option.bind_some]
        unfold z9m
        have ex : (x :: xs).getD 0 (0 : Int) = x := rfl
        have ey : (y :: ys).getD 0 (0 : Int) = y := rfl
        rw [ex, ey, z101, z101, show inR (0 : Int) (x :: xs).length = true from zk8 (Int.le_refl _) (by simp), show inR (0 : Int) (y :: ys).length = true from zk8 (Int.le_refl _) (by simp), decide_eq_true (show (l.length + 1) * 8 <= 70368744177664 by omega),
          decide_eq_true (show (0 : Int) <= 1 /\ (1 : Int) <= (((x :: xs).length : Nat) : Int) by simp only [List.length_cons]; omega), decide_eq_true (show (0 : Int) <= 1 /\ (1 : Int) <= (((y :: ys).length : Nat) : Int) by simp only [List.length_cons]; omega)]
        simp only [cond_true]
        rw [mg]
        by_cases h : x < y
        . rw [if_pos h, if_pos h, decide_eq_true (show (-1 : Int) <= 0 by omega), decide_eq_false (show ¬ (0 : Int) <= -1 by omega), cond_true, cond_false]
          refine (ih M xs (y :: ys) (l ++ [x]) (by simp only [List.length_cons]; omega) (by omega) (by simp only [List.length_append, List.length_cons, List.length_nil]; omega)).trans ?_
          simp
        . rw [if_neg h, if_neg h]
          by_cases h' : y < x
          . rw [if_pos h', if_pos h', decide_eq_false (show ¬ (1 : Int) <= 0 by omega), decide_eq_true (show (0 : Int) <= 1 by omega), cond_true, cond_false]
            refine (ih M (x :: xs) ys (l ++ [y]) (by simp only [List.length_cons]; omega) (by omega) (by simp only [List.length_append, List.length_cons, List.length_nil]; omega)).trans ?_
            simp
          . rw [if_neg h', if_neg h', decide_eq_true (show (0 : Int) <= 0 by omega), cond_true, cond_true]
            refine (ih M xs ys (l ++ [x]) (by omega) (by omega) (by simp only [List.length_append, List.length_cons, List.length_nil]; omega)).trans ?_
            simp

theorem zk5 {N : Nat} {a b : List Int} (hN : a.length + b.length < N) (h : a.length + b.length <= 10000) : z25 N a b = some (mg a b) := by
  unfold z25 z9n zdt
  rw [z4c (x := ((a.length : Nat) : Int) + ((b.length : Nat) : Int)) (by unfold I64; omega), decide_eq_true (by omega), cond_true]
  have := zx6 N (a.length + b.length) N a b [] (Nat.le_refl _) hN (by simp; omega)
  simpa using this

theorem z14s {B : List Int} {x : Int} {rest : List Int} {hi : Int} {rows : List (List Int)} (h0 : 0 <= x) (h1 : x.toNat < rows.length) (hr : Ris hi (x + 1) rest) :
    lnk rest B 0 (rows.set x.toNat (mg (rows.getD x.toNat []) B)) = lnk (x :: rest) B 0 rows := by
  apply List.ext_getElem?
  intro i
  rcases Nat.lt_or_ge i rows.length with h | h
  . rw [ztw _ _ 0 _ i (by simpa using h), ztw _ _ 0 _ i h, Nat.zero_add, zfp]
    congr 1
    rw [List.getElem_set]
    by_cases e : x.toNat = i
    . have ei : (x == (i : Int)) = true := by rw [beq_iff_eq]; omega
      rw [if_pos e, ei, Bool.true_or, if_pos rfl, zu2 hr (.inl (by omega)), if_neg (by decide)]
      subst e
      rw [List.getD_eq_getElem?_getD, List.getElem?_eq_getElem h]
      rfl
    . have ei : (x == (i : Int)) = false := by rw [beq_eq_false_iff_ne]; omega
      rw [if_neg e, ei, Bool.false_or]
  . rw [List.getElem?_eq_none (by rw [znq, List.length_set]; exact h), List.getElem?_eq_none (by rw [znq]; exact h)]

theorem zpl {N : Nat} (hN : 1300 < N) (S : List (List Int)) (last first : List Int) (hf : first.length <= 600) (hl : last.length <= 600) : ∀ (k N' i : Nat) (rows : List (List Int)) (lo : Int), k < N' -> i + k = last.length →
    (∀ x ∈ last.drop i, 0 <= x /\ x.toNat < rows.length /\ (rows.getD x.toNat []).length <= 600) -> Ris (rows.length : Int) lo (last.drop i) →
    iter (fun (v : (BdT × Int)) r => z3a N first last (last.length : Int) v.1 v.2 (fun b x10 => (r (b, x10))) (fun b1 => some ((), (b1, ())))) N' ((S, (rows, ())), (i : Int)) = some ((), ((S, (lnk (last.drop i) first 0 rows, ())), ()))
  | 0, N', i, rows, lo, h1, h2, h3, h4 => by
    obtain ⟨M, rfl⟩ : ∃ M, N' = M + 1 := ⟨N' - 1, by omega⟩
    rw [iter]
    dsimp only
    unfold z3a
    rw [decide_eq_false (show ¬ (i : Int) < (last.length : Int) by omega), List.drop_eq_nil_of_le (by omega), z11p]
    rfl
  | k + 1, N', i, rows, lo, h1, h2, h3, h4 => by
    obtain ⟨M, rfl⟩ : ∃ M, N' = M + 1 := ⟨N' - 1, by omega⟩
    have hi : i < last.length := by omega
    have ed : last.drop i = last.getD i 0 :: last.drop (i + 1) := by
      rw [List.drop_eq_getElem_cons hi, List.getD_eq_getElem?_getD, List.getElem?_eq_getElem hi]; rfl
    rw [ed] at h3 h4
    have hx := h3 _ (List.mem_cons_self ..)
    rw [iter, ed]
    dsimp only
    unfold z3a
    rw [decide_eq_true (show (i : Int) < (last.length : Int) by omega), z4d hi, Int.toNat_natCast]
    have hg : inR (last.getD i 0) rows.length = true := zk8 hx.1 (by omega)
    have hgd : decide ((last.getD i 0).toNat < rows.length) = true := decide_eq_true hx.2.1
    dsimp only
    rw [hg, hgd, zk5 (by omega) (by omega), z4c (x := (i : Int) + 1) (by unfold I64; omega)]
    simp only [Option.bind_some, cond_true]
    rw [<- z14s hx.1 hx.2.1 h4.2.2]
    have := zpl hN S last first hf hl k M (i + 1) (rows.set (last.getD i 0).toNat (mg (rows.getD (last.getD i 0).toNat []) first)) (last.getD i 0 + 1) (by omega) (by omega) (by
      intro y hy
      have h5 := h3 y (List.mem_cons_of_mem _ hy)
      have h6 := h4.2.2.mem hy
      refine ⟨h5.1, by rw [List.length_set]; exact h5.2.1, ?_⟩
      rw [List.getD_eq_getElem?_getD, List.getElem?_set_ne (by omega), <- List.getD_eq_getElem?_getD]
      exact h5.2.2) (by rw [List.length_set]; exact h4.2.2)
    exact this

theorem z3b {o e : Nat} {l : List Int} (h : Ris ((o + e : Nat) : Int) o l) (he : o + e <= 600) : l.length <= 600 := by
  have := h.len (by omega)
  omega

theorem zvw {N o : Nat} {S R w Z : List (List Int)} {A B : List Int} (hN : 1300 < N) (hR : R.length = o) (hw : o + w.length <= 600) (hA : Ris ((o + w.length : Nat) : Int) o A) (hB : Ris ((o + w.length : Nat) : Int) o B) (hrow : ∀ r ∈ w, Ris ((o + w.length : Nat) : Int) o r) :
    z3d N (S, (R ++ (w ++ Z), ())) A B = some ((), ((S, (R ++ (lnk A B o w ++ Z), ())), ())) := by
  have hs := z3b hA hw
  have key := zpl hN S A B (z3b hB hw) hs A.length N 0 (R ++ (w ++ Z)) 0 (by omega) (by omega) (by
    intro x hx
    rw [List.drop_zero] at hx
    have h := hA.mem hx
    refine ⟨by omega, by simp only [List.length_append]; omega, ?_⟩
    have e : (R ++ (w ++ Z)).getD x.toNat [] = w.getD (x.toNat - o) [] := by
      rw [List.getD_eq_getElem?_getD, List.getElem?_append_right (by omega), hR, List.getElem?_append_left (by omega), <- List.getD_eq_getElem?_getD]
    rw [e]
    have hm : w.getD (x.toNat - o) [] ∈ w := by
      rw [List.getD_eq_getElem?_getD, List.getElem?_eq_getElem (by omega)]; exact List.getElem_mem _
    exact z3b (hrow _ hm) hw) (by rw [List.drop_zero]; exact hA.mono (by simp only [List.length_append]; omega) (by omega))
  rw [List.drop_zero] at key
  unfold z3d zay
  rw [show ((0 : Int)) = ((0 : Nat) : Int) from rfl, key, zhv, zhv, Nat.zero_add, hR, znp A B 0 R (fun x hx => by have := hA.mem hx; omega), znp A B (o + w.length) Z (fun x hx => by have := hA.mem hx; omega)]

theorem z14b {N o : Nat} {S R w Z : List (List Int)} {x y : PrT} (hN : 1300 < N) (hR : R.length = o) (hw : o + w.length <= 600)
    (hx1 : Ris ((o + w.length : Nat) : Int) o x.2.1) (hx2 : Ris ((o + w.length : Nat) : Int) o x.2.2.1) (hy1 : Ris ((o + w.length : Nat) : Int) o y.2.1) (hy2 : Ris ((o + w.length : Nat) : Int) o y.2.2.1) (hrow : ∀ r ∈ w, Ris ((o + w.length : Nat) : Int) o r) :
    z13 N (S, (R ++ (w ++ Z), ())) x y = some (zqc x y, ((S, (R ++ (lnk x.2.2.1 y.2.1 o w ++ Z), ())), ())) := by
  have s1 := z3b hx1 hw
  have s2 := z3b hx2 hw
  have s3 := z3b hy1 hw
  have s4 := z3b hy2 hw
  unfold z13
  rw [zvw hN hR hw hx2 hy1 hrow, Option.bind_some]
  unfold z6n z6m
  rw [zk5 (a := x.2.1) (by omega) (by omega), zk5 (a := x.2.2.1) (by omega) (by omega)]
  obtain ⟨xn, xf, xl, -⟩ := x
  obtain ⟨yn, yf, yl, -⟩ := y
  unfold zqc
  cases xn <;> cases yn <;> rfl

theorem zzy {N o e : Nat} {x y : PrT} (hN : 1300 < N) (hw : o + e <= 600)
    (hx1 : Ris ((o + e : Nat) : Int) o x.2.1) (hx2 : Ris ((o + e : Nat) : Int) o x.2.2.1) (hy1 : Ris ((o + e : Nat) : Int) o y.2.1) (hy2 : Ris ((o + e : Nat) : Int) o y.2.2.1) :
    zav N x y = some (z12y x y) := by
  have s1 := z3b hx1 hw
  have s2 := z3b hx2 hw
  have s3 := z3b hy1 hw
  have s4 := z3b hy2 hw
  unfold zav
  rw [zk5 (a := x.2.1) (by omega) (by omega), zk5 (a := x.2.2.1) (by omega) (by omega)]
  obtain ⟨xn, xf, xl, -⟩ := x
  obtain ⟨yn, yf, yl, -⟩ := y
  unfold z12y
  cases xn <;> cases yn <;> rfl

def zy2 (self : BdT -> NodT.den -> Option (PrT × (BdT × Unit))) (x : Tree) : Prop :=
 ∀ S R : List (List Int), S.length = R.length -> S.length + (zj x).length <= 600 -> self (S, (R, ())) (unN x) = some ((mT x S.length).2, ((S ++ zj x, (R ++ (mT x S.length).1, ())), ()))

theorem zkb {ks : List Tree} {i : Nat} (h : i < ks.length) : ks.drop i = ks.getD i dT :: ks.drop (i + 1) := by
  rw [List.drop_eq_getElem_cons h, List.getD_eq_getElem?_getD, List.getElem?_eq_getElem h]; rfl

theorem zma {N o c d : Nat} {S R Z : List (List Int)} {u v : WrT} (hN : 1300 < N) (hR : R.length = o) (hw : o + (c + d) <= 600) (hu : Gd o c u) (hv : Gd (o + c) d v) :
    z13 N (S, (R ++ ((u.1 ++ v.1) ++ Z), ())) u.2 v.2 = some ((zmd o u v).2, ((S, (R ++ ((zmd o u v).1 ++ Z), ())), ())) := by
  have el : (u.1 ++ v.1).length = c + d := by rw [List.length_append, hu.len, hv.len]
  rw [z14b hN hR (by rw [el]; exact hw) (by rw [el]; exact Gd.up hu.fst (by omega)) (by rw [el]; exact Gd.up hu.lst (by omega)) (by rw [el]; exact Gd.up2 hv.fst) (by rw [el]; exact Gd.up2 hv.lst) (by
    rw [el]
    intro r hr
    rcases List.mem_append.1 hr with h | h
    . exact Gd.up (hu.rows r h) (by omega)
    . exact Gd.up2 (hv.rows r h))]
  rfl

theorem zzu {N : Nat} (hN : 1300 < N) {ks : List Tree} (hm : ks.length <= maxLen) {self : BdT -> NodT.den -> Option (PrT × (BdT × Unit))} {x4 : PrT} {R S : List (List Int)} (hR : R.length = S.length) : ∀ (k N' i c : Nat) (S' : List (List Int)) (u : WrT), k < N' -> i + k = ks.length -> Gd S.length c u -> S'.length = c →
    (∀ x ∈ ks.drop i, zy2 self x /\ z24 x = true) -> S.length + c + (z5e (ks.drop i)).length <= 600 →
    iter (fun (v : (BdT × PrT × Int)) r => z2o N self x4 ks (ks.length : Int) v.1 v.2.1 v.2.2 (fun b whole x52 => (r (b, whole, x52))) (fun b1 whole => some (whole, (b1, ())))) N' ((S ++ S', (R ++ u.1, ())), u.2, (i : Int))
      = some ((zxo (mL (ks.drop i)) S.length u).2, ((S ++ S' ++ z5e (ks.drop i), (R ++ (zxo (mL (ks.drop i)) S.length u).1, ())), ()))
  | 0, N', i, c, S', u, h1, h2, hu, hc, hk, hb => by
    obtain ⟨M, rfl⟩ : ∃ M, N' = M + 1 := ⟨N' - 1, by omega⟩
    rw [iter]
    dsimp only
    unfold z2o
    rw [decide_eq_false (show ¬ (i : Int) < (ks.length : Int) by omega), List.drop_eq_nil_of_le (by omega), mL, zxo, z5e, List.append_nil]
    rfl
  | k + 1, N', i, c, S', u, h1, h2, hu, hc, hk, hb => by
    obtain ⟨M, rfl⟩ : ∃ M, N' = M + 1 := ⟨N' - 1, by omega⟩
    have hi : i < ks.length := by omega
    have ed := zkb hi
    rw [ed] at hk hb
    have hx := hk _ (List.mem_cons_self ..)
    rw [z5e, List.length_append] at hb
    have hg := zdk _ hx.2 (S.length + c)
    rw [iter, ed]
    dsimp only
    unfold z2o
    have el : (S ++ S').length = S.length + c := by rw [List.length_append, hc]
    have e1 := hx.1 (S ++ S') (R ++ u.1) (by rw [el, List.length_append, hR, hu.len]) (by rw [el]; omega)
    rw [el] at e1
    rw [decide_eq_true (show (i : Int) < (ks.length : Int) by omega), z4d hi, Int.toNat_natCast]
    rw [show (Tree.mk (0 : Int) ([] : List Int) ([] : List Tree) (0 : Int) (0 : Int)) = dT from rfl, zln hi hm]
    simp only [cond_true]
    rw [e1, Option.bind_some]
    dsimp only
    have e2 := zma (S := S ++ S' ++ zj (ks.getD i dT)) (Z := []) hN hR (by omega) hu hg
    rw [List.append_nil, List.append_nil, <- List.append_assoc] at e2
    rw [e2, Option.bind_some, z5e, mL, zxo, hu.len]
    have := zzu hN hm (x4 := x4) (self := self) hR k M (i + 1) (c + (zj (ks.getD i dT)).length) (S' ++ zj (ks.getD i dT)) (zmd S.length u (mT (ks.getD i dT) (S.length + c))) (by omega) (by omega) (hu.seq hg) (by rw [List.length_append, hc]) (fun x h => hk x (List.mem_cons_of_mem _ h)) (by omega)
    rw [<- List.append_assoc] at this
    refine this.trans ?_
    rw [<- List.append_assoc]

theorem zzv {N : Nat} (hN : 1300 < N) {ks : List Tree} (hm : ks.length <= maxLen) {self : BdT -> NodT.den -> Option (PrT × (BdT × Unit))} {x4 : PrT} {R S : List (List Int)} (hR : R.length = S.length) : ∀ (k N' i c : Nat) (S' : List (List Int)) (u : WrT), k < N' -> i + k = ks.length -> Gd S.length c u -> S'.length = c →
    (∀ x ∈ ks.drop i, zy2 self x /\ z24 x = true) -> S.length + c + (z5e (ks.drop i)).length <= 600 →
    iter (fun (v : (BdT × PrT × Int)) r => z2n N self x4 ks (ks.length : Int) v.1 v.2.1 v.2.2 (fun b whole x70 => (r (b, whole, x70))) (fun b2 whole1 => some (whole1, (b2, ())))) N' ((S ++ S', (R ++ u.1, ())), u.2, (i : Int))
      = some ((zxt (mL (ks.drop i)) S.length u).2, ((S ++ S' ++ z5e (ks.drop i), (R ++ (zxt (mL (ks.drop i)) S.length u).1, ())), ()))
  | 0, N', i, c, S', u, h1, h2, hu, hc, hk, hb => by
    obtain ⟨M, rfl⟩ : ∃ M, N' = M + 1 := ⟨N' - 1, by omega⟩
    rw [iter]
    dsimp only
    unfold z2n
    rw [decide_eq_false (show ¬ (i : Int) < (ks.length : Int) by omega), List.drop_eq_nil_of_le (by omega), mL, zxt, z5e, List.append_nil]
    rfl
  | k + 1, N', i, c, S', u, h1, h2, hu, hc, hk, hb => by
    obtain ⟨M, rfl⟩ : ∃ M, N' = M + 1 := ⟨N' - 1, by omega⟩
    have hi : i < ks.length := by omega
    have ed := zkb hi
    rw [ed] at hk hb
    have hx := hk _ (List.mem_cons_self ..)
    rw [z5e, List.length_append] at hb
    have hg := zdk _ hx.2 (S.length + c)
    rw [iter, ed]
    dsimp only
    unfold z2n
    have el : (S ++ S').length = S.length + c := by rw [List.length_append, hc]
    have e1 := hx.1 (S ++ S') (R ++ u.1) (by rw [el, List.length_append, hR, hu.len]) (by rw [el]; omega)
    rw [el] at e1
    rw [decide_eq_true (show (i : Int) < (ks.length : Int) by omega), z4d hi, Int.toNat_natCast]
    rw [show (Tree.mk (0 : Int) ([] : List Int) ([] : List Tree) (0 : Int) (0 : Int)) = dT from rfl, zln hi hm]
    simp only [cond_true]
    rw [e1, Option.bind_some]
    dsimp only
    rw [zzy (o := S.length) (e := c + (zj (ks.getD i dT)).length) hN (by omega) (Gd.up hu.fst (by omega)) (Gd.up hu.lst (by omega)) (Gd.up2 hg.fst) (Gd.up2 hg.lst), Option.bind_some, z5e, mL, zxt, hu.len]
    have := zzv hN hm (x4 := x4) (self := self) hR k M (i + 1) (c + (zj (ks.getD i dT)).length) (S' ++ zj (ks.getD i dT)) (u.1 ++ (mT (ks.getD i dT) (S.length + c)).1, z12y u.2 (mT (ks.getD i dT) (S.length + c)).2) (by omega) (by omega) (hu.alt hg) (by rw [List.length_append, hc]) (fun x h => hk x (List.mem_cons_of_mem _ h)) (by omega)
    rw [<- List.append_assoc] at this
    dsimp only at this ⊢
    rw [<- List.append_assoc] at this
    refine this.trans ?_
    rw [<- List.append_assoc]

end
end Go.Proofs.YtmeecjkimeiogaaDoorLg

set_option linter.all false
set_option maxRecDepth 100000
namespace Go.Proofs.YtmeecjkimeiogaaDoorLg
noncomputable section
open Go Go.Lift Go.Proofs.YtmeecjkimeiogaaDoorPx

def zg1 (f : Nat -> WrT) (c : Nat) : Nat -> Nat -> List (List Int)
  | _, 0 => []
  | o, n + 1 => (f o).1 ++ zg1 f c (o + c) n

theorem zoo (f : Nat -> WrT) (c : Nat) : ∀ (n o : Nat), zg1 f c o (n + 1) = zg1 f c o n ++ (f (o + n * c)).1
  | 0, o => by simp [zg1]
  | n + 1, o => by
    rw [zg1, zoo f c n (o + c), zg1, List.append_assoc, show o + c + n * c = o + (n + 1) * c by rw [Nat.add_mul]; omega]

theorem zml {f : Nat -> WrT} {c : Nat} (hf : GdF c f) : ∀ (n o : Nat), (zg1 f c o n).length = n * c
  | 0, o => by simp [zg1]
  | n + 1, o => by rw [zg1, List.length_append, zml hf n, (hf o).len, Nat.add_mul]; omega

theorem zwi (f : Nat -> WrT) (c : Nat) : ∀ (m o n : Nat), zg1 f c o (m + n) = zg1 f c o m ++ zg1 f c (o + m * c) n
  | 0, o, n => by simp [zg1]
  | m + 1, o, n => by
    rw [show m + 1 + n = (m + n) + 1 by omega, zg1, zwi f c m, zg1, List.append_assoc, show o + c + m * c = o + (m + 1) * c by rw [Nat.add_mul]; omega]

def zn5 (f : Nat -> WrT) (c o n : Nat) : List PrT := (List.range n).map fun i => (f (o + i * c)).2

theorem zht (f : Nat -> WrT) (c o n : Nat) : (zn5 f c o n).length = n := by simp [zn5]
theorem zys (f : Nat -> WrT) (c o n : Nat) : zn5 f c o (n + 1) = zn5 f c o n ++ [(f (o + n * c)).2] := by simp [zn5, List.range_succ]
theorem zvv (f : Nat -> WrT) (c o n i : Nat) (h : i < n) (d : PrT) : (zn5 f c o n).getD i d = (f (o + i * c)).2 := by
  unfold zn5
  rw [List.getD_eq_getElem?_getD, List.getElem?_map, List.getElem?_range h]
  rfl
theorem z11d (f : Nat -> WrT) (c o n m : Nat) (h : m <= n) : cut (zn5 f c o n) 0 m = zn5 f c o m := by
  unfold zn5 cut
  rw [<- List.map_take, List.take_range, Nat.min_eq_left h, List.drop_zero]

def z3c (s : List (List Int)) (n : Nat) : List (List Int) := (List.replicate n s).flatten
theorem zla (s : List (List Int)) (n : Nat) : z3c s (n + 1) = z3c s n ++ s := by
  unfold z3c
  rw [List.replicate_succ', List.flatten_append]
  simp

theorem zo4 {N : Nat} {k : Int} {st : List Int} {ks : List Tree} {lo hi : Int} (h : z9l lo hi = true) : z8x N (k, (st, (ks, (lo, (hi, ()))))) = some ((zft lo hi : Nat) : Int) := by
  unfold z9l at h
  have h := of_decide_eq_true h
  unfold z8x zft
  dsimp only
  by_cases e : hi = -1
  . rw [beq_iff_eq.2 e, if_pos e, z4c (x := lo + 1) (by unfold I64; omega), cond_true]
    congr 1; omega
  . rw [beq_eq_false_iff_ne.2 e, if_neg e, cond_false]
    congr 1; omega

theorem zsu {lo hi : Int} (h : z9l lo hi = true) : lo.toNat <= zft lo hi /\ zft lo hi <= 17 /\ 0 < zft lo hi := by
  unfold z9l at h
  have h := of_decide_eq_true h
  unfold zft
  split <;> omega

theorem rep1 {N : Nat} {k : Int} {st : List Int} {kid : Tree} {lo hi : Int} (ht : z9l lo hi = true) {self : BdT -> NodT.den -> Option (PrT × (BdT × Unit))} (hself : zy2 self kid) (hr : z24 kid = true) {x4 : PrT} {S R : List (List Int)} (hR : R.length = S.length)
    (hb : S.length + zft lo hi * (zj kid).length <= 600) (K : BdT -> List PrT -> Option (PrT × (BdT × Unit))) : ∀ (m N' j : Nat), m < N' -> j + m = zft lo hi →
    iter (fun (v : (BdT × (List PrT))) r => z2v N self (k, (st, ([kid], (lo, (hi, ()))))) x4 v.1 v.2 (fun b parts => (r (b, parts))) K) N' ((S ++ z3c (zj kid) j, (R ++ zg1 (mT kid) (zj kid).length S.length j, ())), zn5 (mT kid) (zj kid).length S.length j)
      = K (S ++ z3c (zj kid) (zft lo hi), (R ++ zg1 (mT kid) (zj kid).length S.length (zft lo hi), ())) (zn5 (mT kid) (zj kid).length S.length (zft lo hi))
  | 0, N', j, h1, h2 => by
    obtain ⟨M, rfl⟩ : ∃ M, N' = M + 1 := ⟨N' - 1, by omega⟩
    rw [iter]
    dsimp only
    unfold z2v
    rw [zo4 ht, Option.bind_some, zht, decide_eq_false (by omega), cond_false, show j = zft lo hi by omega]
  | m + 1, N', j, h1, h2 => by
    obtain ⟨M, rfl⟩ : ∃ M, N' = M + 1 := ⟨N' - 1, by omega⟩
    have ei : inR (0 : Int) [kid].length = true := zk8 (Int.le_refl _) (by simp)
    have ek : [kid].getD 0 (Tree.mk (0 : Int) ([] : List Int) ([] : List Tree) (0 : Int) (0 : Int)) = kid := rfl
    have hj : (j + 1) * (zj kid).length <= zft lo hi * (zj kid).length := Nat.mul_le_mul_right _ (by omega)
    rw [Nat.add_mul, Nat.one_mul] at hj
    have el : (S ++ z3c (zj kid) j).length = S.length + j * (zj kid).length := by
      rw [List.length_append]; unfold z3c; rw [zar]
    have e1 := hself (S ++ z3c (zj kid) j) (R ++ zg1 (mT kid) (zj kid).length S.length j) (by rw [el, List.length_append, hR, zml (zdk kid hr)]) (by rw [el]; omega)
    rw [el] at e1
    have := (zsu ht).2.1
    have step : ∀ rec, z2v N self (k, (st, ([kid], (lo, (hi, ()))))) x4 (S ++ z3c (zj kid) j, (R ++ zg1 (mT kid) (zj kid).length S.length j, ())) (zn5 (mT kid) (zj kid).length S.length j) rec K = rec (S ++ z3c (zj kid) (j + 1), (R ++ zg1 (mT kid) (zj kid).length S.length (j + 1), ())) (zn5 (mT kid) (zj kid).length S.length (j + 1)) := by
      intro rec
      unfold z2v
      rw [zo4 ht, Option.bind_some, zht, decide_eq_true (show ((j : Nat) : Int) < ((zft lo hi : Nat) : Int) by omega), cond_true]
      dsimp only
      rw [ei, ek, cond_true, e1, Option.bind_some, decide_eq_true (show (j + 1) * 56 <= 70368744177664 by omega), cond_true]
      rw [zla, zoo, zys, <- List.append_assoc, <- List.append_assoc]
    rw [iter]
    dsimp only
    rw [step]
    exact rep1 ht hself hr hR hb K m M (j + 1) (by omega) (by omega) (N := N) (k := k) (st := st) (x4 := x4)

theorem rep2 {N : Nat} (hN : 1300 < N) {f : Nat -> WrT} {c : Nat} (hf : GdF c f) {self : BdT -> NodT.den -> Option (PrT × (BdT × Unit))} {x4 : PrT} {n : NodT.den} {lo k o : Nat} (hlo : n.2.2.2.1 = (lo : Int)) {S A : List (List Int)} (hA : A.length = o + lo * c) (hk : k <= 17)
    (K : BdT -> PrT -> Option (PrT × (BdT × Unit))) : ∀ (m N' t : Nat), m < N' -> lo + m <= k -> o + (lo + m + t) * c <= 600 →
    iter (fun (v : (BdT × PrT × Int)) r => z2u N self n x4 (zn5 f c o k) v.1 v.2.1 v.2.2 (fun b tail i => (r (b, tail, i))) K) N' ((S, (A ++ (zg1 f c (o + lo * c) m ++ (zc6 f (o + (lo + m) * c) t).1), ())), (zc6 f (o + (lo + m) * c) t).2, ((lo + m : Nat) : Int) - 1)
      = K (S, (A ++ (zc6 f (o + lo * c) (m + t)).1, ())) (zc6 f (o + lo * c) (m + t)).2
  | 0, N', t, h1, h2, h3 => by
    obtain ⟨M, rfl⟩ : ∃ M, N' = M + 1 := ⟨N' - 1, by omega⟩
    rw [iter]
    dsimp only
    unfold z2u
    rw [hlo, decide_eq_false (by omega), cond_false, zg1, List.nil_append, Nat.add_zero, Nat.zero_add]
  | m + 1, N', t, h1, h2, h3 => by
    obtain ⟨M, rfl⟩ : ∃ M, N' = M + 1 := ⟨N' - 1, by omega⟩
    have e0 : ((lo + (m + 1) : Nat) : Int) - 1 = ((lo + m : Nat) : Int) := by omega
    have e2 : o + (lo + (m + 1)) * c = o + (lo + m) * c + c := by rw [show lo + (m + 1) = lo + m + 1 by omega, Nat.add_mul]; omega
    have e3 : o + lo * c + m * c = o + (lo + m) * c := by rw [Nat.add_mul]; omega
    rw [show (lo + (m + 1) + t) * c = (lo + m) * c + (c + t * c) by rw [show lo + (m + 1) + t = (lo + m) + (1 + t) by omega, Nat.add_mul, Nat.add_mul 1, Nat.one_mul]] at h3
    have h4 := zma (S := S) (Z := []) (R := A ++ zg1 f c (o + lo * c) m) hN (by rw [List.length_append, hA, zml hf, e3]) (by omega) (hf (o + (lo + m) * c)) (Gd.tail hf t (o + (lo + m) * c + c))
    rw [List.append_nil, List.append_nil, List.append_assoc, <- List.append_assoc (zg1 f c (o + lo * c) m)] at h4
    have step : ∀ rec, z2u N self n x4 (zn5 f c o k) (S, (A ++ (zg1 f c (o + lo * c) (m + 1) ++ (zc6 f (o + (lo + (m + 1)) * c) t).1), ())) (zc6 f (o + (lo + (m + 1)) * c) t).2 (((lo + (m + 1) : Nat) : Int) - 1) rec K = rec (S, (A ++ (zg1 f c (o + lo * c) m ++ (zc6 f (o + (lo + m) * c) (t + 1)).1), ())) (zc6 f (o + (lo + m) * c) (t + 1)).2 (((lo + m : Nat) : Int) - 1) := by
      intro rec
      unfold z2u
      rw [e0, hlo, decide_eq_true (show (lo : Int) <= ((lo + m : Nat) : Int) by omega), zht, z4d (show lo + m < k by omega), Int.toNat_natCast, decide_eq_true (show lo + m < k by omega), zvv f c o k (lo + m) (by omega), zoo, e2, e3, z4c (x := ((lo + m : Nat) : Int) - 1) (by unfold I64; omega)]
      simp only [cond_true]
      rw [h4, Option.bind_some, zc6, (hf (o + (lo + m) * c)).len, List.append_assoc]
      rfl
    rw [iter]
    dsimp only
    rw [step, show m + 1 + t = m + (t + 1) by omega]
    exact rep2 hN hf (self := self) (x4 := x4) (S := S) hlo hA hk K m M (t + 1) (by omega) (by omega) (by
      rw [show (lo + m + (t + 1)) * c = (lo + m) * c + (c + t * c) by rw [show lo + m + (t + 1) = (lo + m) + (1 + t) by omega, Nat.add_mul, Nat.add_mul 1, Nat.one_mul]]; exact h3)

theorem z113 (f : Nat -> WrT) (o : Nat) : zc6 f o 1 = ((f o).1, (true, (f o).2.2)) := by
  rw [zc6, zc6]
  unfold zmd zqc z9k
  dsimp only
  rw [zzc, List.append_nil, zw4, zw4, if_pos rfl, ite_self]

theorem rep4 {N : Nat} (hN : 1300 < N) {f : Nat -> WrT} {c : Nat} (hf : GdF c f) {self : BdT -> NodT.den -> Option (PrT × (BdT × Unit))} {x4 tail : PrT} {lo : Nat} (hlo : lo <= 17) {o : Nat} {S R Z : List (List Int)} (hR : R.length = o) (hb : o + lo * c <= 600)
    (K : BdT -> PrT -> Option (PrT × (BdT × Unit))) : ∀ (m N' j : Nat) (u : WrT), m < N' -> j + m = lo -> Gd o (j * c) u →
    iter (fun (v : (BdT × PrT × Int)) r => z2t N self x4 tail (zn5 f c o lo) ((lo : Nat) : Int) v.1 v.2.1 v.2.2 (fun b whole x79 => (r (b, whole, x79))) K) N' ((S, (R ++ (u.1 ++ (zg1 f c (o + j * c) m ++ Z)), ())), u.2, (j : Int))
      = K (S, (R ++ ((zm4 f o m u).1 ++ Z), ())) (zm4 f o m u).2
  | 0, N', j, u, h1, h2, hu => by
    obtain ⟨M, rfl⟩ : ∃ M, N' = M + 1 := ⟨N' - 1, by omega⟩
    rw [iter]
    dsimp only
    unfold z2t
    rw [decide_eq_false (by omega), cond_false, zg1, List.nil_append, zm4]
  | m + 1, N', j, u, h1, h2, hu => by
    obtain ⟨M, rfl⟩ : ∃ M, N' = M + 1 := ⟨N' - 1, by omega⟩
    have hj : (j + 1) * c <= lo * c := Nat.mul_le_mul_right _ (by omega)
    rw [Nat.add_mul, Nat.one_mul] at hj
    have h4 := zma (S := S) (Z := zg1 f c (o + j * c + c) m ++ Z) hN hR (by omega) hu (hf (o + j * c))
    have hu2 := hu.seq (hf (o + j * c))
    rw [show j * c + c = (j + 1) * c by rw [Nat.add_mul, Nat.one_mul]] at hu2
    have step : ∀ rec, z2t N self x4 tail (zn5 f c o lo) ((lo : Nat) : Int) (S, (R ++ (u.1 ++ (zg1 f c (o + j * c) (m + 1) ++ Z)), ())) u.2 (j : Int) rec K = rec (S, (R ++ ((zmd o u (f (o + j * c))).1 ++ (zg1 f c (o + (j + 1) * c) m ++ Z)), ())) (zmd o u (f (o + j * c))).2 ((j + 1 : Nat) : Int) := by
      intro rec
      unfold z2t
      rw [decide_eq_true (show (j : Int) < (lo : Int) by omega), zht, z4d (show j < lo by omega), Int.toNat_natCast, zvv f c o lo j (by omega), z4c (x := (j : Int) + 1) (by unfold I64; omega)]
      simp only [cond_true]
      rw [zg1, List.append_assoc, <- List.append_assoc u.1, h4, Option.bind_some, show o + (j + 1) * c = o + j * c + c by rw [Nat.add_mul]; omega]
      rfl
    rw [iter]
    dsimp only
    rw [step, zm4, hu.len]
    exact rep4 hN hf (self := self) (x4 := x4) (tail := tail) (S := S) (Z := Z) hlo hR hb K m M (j + 1) (zmd o u (f (o + j * c))) (by omega) (by omega) hu2

theorem z193 {N : Nat} (hN : 1300 < N) {k : Int} {st : List Int} {kid : Tree} {lo hi : Int} (ht : z9l lo hi = true) {self : BdT -> NodT.den -> Option (PrT × (BdT × Unit))} (hself : zy2 self kid) (hr : z24 kid = true) {S R : List (List Int)} (hR : S.length = R.length)
    (hb : S.length + zft lo hi * (zj kid).length <= 600) :
    z57 N self (S, (R, ())) (k, (st, ([kid], (lo, (hi, ()))))) = some ((if (mT kid S.length).1.length = 0 then (([], z9k) : WrT) else z14h (mT kid) lo hi S.length).2, ((S ++ z3c (zj kid) (zft lo hi), (R ++ (if (mT kid S.length).1.length = 0 then (([], z9k) : WrT) else z14h (mT kid) lo hi S.length).1, ())), ())) := by
  have hf := zdk kid hr
  have hl := (hf S.length).len
  have hc := zsu ht
  have ht' := ht
  unfold z9l at ht'
  have ht' := of_decide_eq_true ht'
  unfold z57
  dsimp only
  have ei : inR (0 : Int) [kid].length = true := zk8 (Int.le_refl _) (by simp)
  have ek : [kid].getD 0 (Tree.mk (0 : Int) ([] : List Int) ([] : List Tree) (0 : Int) (0 : Int)) = kid := rfl
  have hc1 : 1 * (zj kid).length <= zft lo hi * (zj kid).length := Nat.mul_le_mul_right _ (by omega)
  rw [ei, ek, cond_true, hself S R hR (by omega), Option.bind_some, hl]
  dsimp only
  rw [List.length_append]
  by_cases e : (zj kid).length = 0
  . rw [beq_iff_eq.2 (show (((S.length + (zj kid).length) : Nat) : Int) = ((S.length : Nat) : Int) by omega), cond_true, if_pos e]
    have e1 : (mT kid S.length).1 = [] := List.eq_nil_of_length_eq_zero (by omega)
    have e2 : zj kid = [] := List.eq_nil_of_length_eq_zero e
    rw [e1, e2]
    unfold z3c
    rw [List.flatten_replicate_nil]
    rfl
  . rw [beq_eq_false_iff_ne.2 (show ¬ (((S.length + (zj kid).length) : Nat) : Int) = ((S.length : Nat) : Int) by omega), cond_false, if_neg e]
    unfold zbh
    have hlo : lo = ((lo.toNat : Nat) : Int) := by omega
    have h1 := rep1 (N := N) (k := k) (st := st) (x4 := (false, (([] : List Int), (([] : List Int), ())))) ht hself hr hR.symm hb (fun b1 parts => z7l N self b1 (k, (st, ([kid], (lo, (hi, ()))))) (false, (([] : List Int), (([] : List Int), ()))) parts (true, (([] : List Int), (([] : List Int), ()))) (IntKind.wrap IntKind.i64 ((((List.length parts) : Nat) : Int) - (1 : Int)))
        (fun b2 tail => z3p N self b2 (k, (st, ([kid], (lo, (hi, ()))))) (false, (([] : List Int), (([] : List Int), ()))) parts tail
          (fun b3 => cond (decide (((0 : Int) <= lo) /\ (lo <= (((List.length parts) : Nat) : Int))))
            (z3o N self b3 (false, (([] : List Int), (([] : List Int), ()))) tail (true, (([] : List Int), (([] : List Int), ()))) (cut parts 0 (Int.toNat lo)) (((List.length (cut parts 0 (Int.toNat lo))) : Nat) : Int) (0 : Int)
              (fun b4 whole => (z13 N b4 whole tail).bind fun y1 =>
                some (y1.1, (y1.2.1, ()))))
            (none)))) (zft lo hi - 1) N 1 (by omega) (by omega)
    have s1 : z3c (zj kid) 1 = zj kid := by simp [z3c]
    have s2 : zg1 (mT kid) (zj kid).length S.length 1 = (mT kid S.length).1 := by simp [zg1]
    have s3 : zn5 (mT kid) (zj kid).length S.length 1 = [(mT kid S.length).2] := by simp [zn5]
    rw [s1, s2, s3] at h1
    refine h1.trans ?_
    generalize hkk : zft lo hi = kk at hc hb hc1 ⊢
    generalize hll : lo.toNat = ll at hlo hc ⊢
    subst hlo
    obtain ⟨n, rfl⟩ : ∃ n, kk = ll + n := ⟨kk - ll, by omega⟩
    have hA : (R ++ zg1 (mT kid) (zj kid).length S.length ll).length = S.length + ll * (zj kid).length := by rw [List.length_append, zml hf, hR]
    rw [zht, z4c (x := ((ll + n : Nat) : Int) - 1) (by unfold I64; omega), decide_eq_true (show (0 : Int) <= (ll : Int) /\ (ll : Int) <= ((ll + n : Nat) : Int) by omega), z11d _ _ _ _ _ (show ll <= ll + n by omega), zht]
    unfold z7l
    have hbs : (ll + n) * (zj kid).length = ll * (zj kid).length + n * (zj kid).length := Nat.add_mul _ _ _
    rw [hbs] at hb
    have h2 := rep2 hN hf (self := self) (x4 := (false, (([] : List Int), (([] : List Int), ())))) (n := (k, (st, ([kid], (((ll : Nat) : Int), (hi, ())))))) (k := ll + n) (S := S ++ z3c (zj kid) (ll + n)) rfl hA (by omega)
      (fun b2 tail => z3p N self b2 (k, (st, ([kid], (((ll : Nat) : Int), (hi, ()))))) (false, (([] : List Int), (([] : List Int), ()))) (zn5 (mT kid) (zj kid).length S.length (ll + n)) tail
          (fun b3 => cond true
            (z3o N self b3 (false, (([] : List Int), (([] : List Int), ()))) tail (true, (([] : List Int), (([] : List Int), ()))) (zn5 (mT kid) (zj kid).length S.length ll) ((ll : Nat) : Int) (0 : Int)
              (fun b4 whole => (z13 N b4 whole tail).bind fun y1 =>
                some (y1.1, (y1.2.1, ()))))
            (none))) n N 0 (by omega) (by omega) (by rw [Nat.add_zero, hbs]; exact hb)
    have r1 : R ++ zg1 (mT kid) (zj kid).length S.length (ll + n) = R ++ zg1 (mT kid) (zj kid).length S.length ll ++ (zg1 (mT kid) (zj kid).length (S.length + ll * (zj kid).length) n ++ (zc6 (mT kid) (S.length + (ll + n) * (zj kid).length) 0).1) := by
      rw [zwi, zc6, List.append_nil, List.append_assoc]
    rw [r1]
    refine h2.trans ?_
    rw [Nat.add_zero]
    -- the tail, az the model has it
    have h3 : ∀ (T : WrT) (ho : Gd (S.length + ll * (zj kid).length) (n * (zj kid).length) T), 
        z3o N self (S ++ z3c (zj kid) (ll + n), (R ++ zg1 (mT kid) (zj kid).length S.length ll ++ T.1, ())) (false, (([] : List Int), (([] : List Int), ()))) T.2 (true, (([] : List Int), (([] : List Int), ()))) (zn5 (mT kid) (zj kid).length S.length ll) ((ll : Nat) : Int) (0 : Int)
              (fun b4 whole => (z13 N b4 whole T.2).bind fun y1 =>
                some (y1.1, (y1.2.1, ()))) = some ((zmd S.length (zm4 (mT kid) S.length ll ([], z9k)) T).2, ((S ++ z3c (zj kid) (ll + n), (R ++ (zmd S.length (zm4 (mT kid) S.length ll ([], z9k)) T).1, ())), ())) := by
      intro T ho
      unfold z3o
      have h4 := rep4 hN hf (self := self) (x4 := (false, (([] : List Int), (([] : List Int), ())))) (tail := T.2) (lo := ll) (by omega) (S := S ++ z3c (zj kid) (ll + n)) (Z := T.1) hR.symm (by omega) (fun b4 whole => (z13 N b4 whole T.2).bind fun y1 =>
                some (y1.1, (y1.2.1, ()))) ll N 0 ([], z9k) (by omega) (by omega) (by rw [Nat.zero_mul]; exact Gd.zero _ true)
      rw [Nat.zero_mul, Nat.add_zero, List.nil_append, <- List.append_assoc] at h4
      refine h4.trans ?_
      have hq := Gd.req hf S.length ll 0 (Gd.zero S.length true)
      rw [Nat.zero_add] at hq
      have h5 := zma (S := S ++ z3c (zj kid) (ll + n)) (Z := []) hN hR.symm (by omega) hq ho
      rw [List.append_nil, List.append_nil] at h5
      have h6 := congrArg (fun z => z.bind fun (y1 : PrT × (BdT × Unit)) => some (y1.1, (y1.2.1, ()))) h5
      exact h6
    have hq := Gd.req hf S.length ll 0 (Gd.zero S.length true)
    rw [Nat.zero_add] at hq
    have hq2 : (zm4 (mT kid) S.length ll ([], z9k)).1.length = ll * (zj kid).length := hq.len
    unfold z3p z14h
    dsimp only
    rw [Int.toNat_natCast, hq2]
    by_cases e1 : hi = -1
    . have en : n = 1 := by
        unfold zft at hkk; rw [if_pos e1] at hkk; omega
      subst en
      rw [beq_iff_eq.2 e1, cond_true, if_pos e1, z113]
      have hg := hf (S.length + ll * (zj kid).length)
      have h7 := zvw (S := S ++ z3c (zj kid) (ll + 1)) (Z := []) hN hA (w := (mT kid (S.length + ll * (zj kid).length)).1) (A := (mT kid (S.length + ll * (zj kid).length)).2.2.2.1) (B := (mT kid (S.length + ll * (zj kid).length)).2.2.1) (by rw [hg.len]; omega) (by rw [hg.len]; exact hg.lst) (by rw [hg.len]; exact hg.fst) (by rw [hg.len]; exact hg.rows)
      rw [List.append_nil, List.append_nil] at h7
      rw [h7, Option.bind_some, cond_true]
      have hgl := Gd.loop hf (S.length + ll * (zj kid).length)
      exact h3 (z11o (mT kid) (S.length + ll * (zj kid).length)) (by rw [Nat.one_mul]; exact hgl)
    . have en : n = (hi - (ll : Int)).toNat := by
        unfold zft at hkk; rw [if_neg e1] at hkk; omega
      rw [beq_eq_false_iff_ne.2 e1, cond_false, if_neg e1, cond_true, <- en]
      exact h3 (zc6 (mT kid) (S.length + ll * (zj kid).length) n) (Gd.tail hf n _)

theorem zw8 (kid : Tree) : zxg (mL [kid]) = mT kid := by
  funext o; rw [mL, zxg]

theorem zsk : ∀ (N : Nat) (x : Tree), z3j x + 1300 < N -> WfN x -> z24 x = true -> zy2 (z16 N) x
  | 0, x, h, _, _ => by omega
  | N + 1, .mk k st ks lo hi, h, hw, hr => by
    intro S R hR hb
    rw [z3j] at h
    rw [WfN] at hw
    rw [z24, Bool.and_eq_true] at hr
    have hlen := z9j ks
    have hm := hw.2.2.1.1
    have kidOk : ∀ x ∈ ks, zy2 (z16 N) x /\ z24 x = true := by
      intro x hx
      have h1 := z79 hx
      have h2 : z24 x = true := by
        have : ∀ l : List Tree, zbi l = true -> ∀ y ∈ l, z24 y = true := by
          intro l
          induction l with
          | nil => intro _ y hy; cases hy
          | cons z zs ih =>
            intro hl y hy
            rw [zbi, Bool.and_eq_true] at hl
            rcases List.mem_cons.1 hy with rfl | hy
            . exact hl.1
            . exact ih hl.2 y hy
        exact this ks hr.2 x hx
      exact ⟨zsk N x (by omega) ((zcg ks).1 hw.2.2.1.2 x hx) h2, h2⟩
    show z48 (N + 1) (z16 N) (S, (R, ())) (k, (st, (ks, (lo, (hi, ()))))) = _
    unfold z48
    dsimp only
    rw [mT]
    rw [zj] at hb ⊢
    dsimp only
    by_cases h1 : k = 1
    . rw [beq_iff_eq.2 h1, cond_true, if_pos h1, if_pos h1]
      rw [if_pos h1] at hb
      rw [decide_eq_true (show (S.length + 1) * 32 <= 70368744177664 by simp at hb; omega), decide_eq_true (show (R.length + 1) * 24 <= 70368744177664 by simp at hb; omega)]
      rfl
    . rw [beq_eq_false_iff_ne.2 h1, cond_false, if_neg h1, if_neg h1]
      rw [if_neg h1] at hb
      by_cases h2 : k = 2
      . rw [beq_iff_eq.2 h2, cond_true, if_pos h2, if_neg (show ¬ k = 4 by omega)]
        rw [if_neg (show ¬ k = 4 by omega)] at hb
        unfold z9q
        have := zzu (N := N + 1) (by omega) hm (self := z16 N) (x4 := (false, (([] : List Int), (([] : List Int), ())))) hR.symm ks.length (N + 1) 0 0 [] ([], z9k) (by omega) (by omega) (Gd.zero _ true) rfl kidOk (by rw [List.drop_zero]; omega)
        rw [List.drop_zero, List.append_nil, List.append_nil] at this
        exact this
      . rw [beq_eq_false_iff_ne.2 h2, cond_false, if_neg h2]
        by_cases h3 : k = 3
        . rw [beq_iff_eq.2 h3, cond_true, if_pos h3, if_neg (show ¬ k = 4 by omega)]
          rw [if_neg (show ¬ k = 4 by omega)] at hb
          unfold z9p
          have := zzv (N := N + 1) (by omega) hm (self := z16 N) (x4 := (false, (([] : List Int), (([] : List Int), ())))) hR.symm ks.length (N + 1) 0 0 [] ([], z16w) (by omega) (by omega) (Gd.zero _ false) rfl kidOk (by rw [List.drop_zero]; omega)
          rw [List.drop_zero, List.append_nil, List.append_nil] at this
          exact this
        . rw [beq_eq_false_iff_ne.2 h3, cond_false, if_neg h3]
          have hs := hr.1
          unfold shT at hs
          rw [if_neg h1, if_neg h2, if_neg h3] at hs
          by_cases h4 : k = 4
          . rw [if_pos h4, Bool.and_eq_true, Bool.and_eq_true] at hs
            rw [if_pos h4] at hb ⊢
            obtain ⟨kid, rfl⟩ : ∃ kid, ks = [kid] := by
              cases ks with
              | nil => exact absurd hs.2.1 (by simp)
              | cons a az => cases az with
                | nil => exact ⟨a, rfl⟩
                | cons b bs => exact absurd hs.2.1 (by simp)
            have hk := kidOk kid (by simp)
            rw [z5e, z5e, List.append_nil] at hb ⊢
            rw [zar] at hb
            rw [z193 (N := N + 1) (by omega) hs.2.2 hk.1 hk.2 hR hb, Option.bind_some, zw8]
            rfl
          . rw [if_neg h4] at hs
            exact absurd hs (by decide)

end
end Go.Proofs.YtmeecjkimeiogaaDoorLg

set_option linter.all false
set_option maxRecDepth 100000
namespace Go.Proofs.YtmeecjkimeiogaaDoorLg
noncomputable section
open Go Go.Lift Go.Proofs.YtmeecjkimeiogaaDoorPx

abbrev WdT := (List (List Int)) × ((List (List Int)) × ((List Int) × ((List Int) × (Bool × Unit))))
def wrD (S R : List (List Int)) (p : PrT) : WdT := (S, (R, (p.2.1, (p.2.2.1, (p.1, ())))))

theorem zq2 {N : Nat} (hN : 1300 < N) (next : List (List Int)) (a b : List Int) (hn : next.length <= 600) (ha : a.length <= 600) (hb : Ris (next.length : Int) 0 b) (hr : ∀ i : Nat, i < next.length -> inL a (i : Int) = true -> Ris (next.length : Int) 0 (next.getD i [])) : ∀ (k N' i : Nat) (out : List (List Int)), k < N' -> i + k = next.length -> out.length = i →
    iter (fun (v : ((List (List Int)) × Int)) r => z32 N next a b v.1 v.2 (fun out i => (r (out, i))) (fun out => some out)) N' (out, (i : Int)) = some (out ++ lnk a b i (next.drop i))
  | 0, N', i, out, h1, h2, h3 => by
    obtain ⟨M, rfl⟩ : ∃ M, N' = M + 1 := ⟨N' - 1, by omega⟩
    rw [iter]
    dsimp only
    unfold z32
    rw [decide_eq_false (show ¬ (i : Int) < (next.length : Int) by omega), List.drop_eq_nil_of_le (by omega), lnk, List.append_nil]
    rfl
  | k + 1, N', i, out, h1, h2, h3 => by
    obtain ⟨M, rfl⟩ : ∃ M, N' = M + 1 := ⟨N' - 1, by omega⟩
    have hi : i < next.length := by omega
    have ed : next.drop i = next.getD i [] :: next.drop (i + 1) := by
      rw [List.drop_eq_getElem_cons hi, List.getD_eq_getElem?_getD, List.getElem?_eq_getElem hi]; rfl
    have step : ∀ rec, z32 N next a b out (i : Int) rec (fun out => some out) = rec (out ++ [if inL a (i : Int) then mg (next.getD i []) b else next.getD i []]) ((i + 1 : Nat) : Int) := by
      intro rec
      unfold z32 z8o
      rw [decide_eq_true (show (i : Int) < (next.length : Int) by omega), z16u a _ (by omega) (by omega), z4d hi, Int.toNat_natCast, decide_eq_true (show (out.length + 1) * 24 <= 70368744177664 by omega), z4c (x := (i : Int) + 1) (by unfold I64; omega)]
      simp only [Option.bind_some, cond_true]
      cases hc : inL a (i : Int) with
      | false => rfl
      | true =>
        have h5 := hr i hi hc
        have h6 := h5.len (by omega)
        have h7 := hb.len (by omega)
        rw [zsc _ _ _ (by omega) (by omega) (by omega) (by omega), zw5 (lo := 0) (lo' := 0) h5 hb]
        rfl
    rw [iter]
    dsimp only
    rw [step, ed, lnk]
    have := zq2 hN next a b hn ha hb hr k M (i + 1) (out ++ [if inL a (i : Int) then mg (next.getD i []) b else next.getD i []]) (by omega) (by omega) (by rw [List.length_append, h3]; rfl)
    refine this.trans ?_
    rw [List.append_assoc]
    rfl

theorem zwe {N o : Nat} {R w : List (List Int)} {A B : List Int} (hN : 1300 < N) (hR : R.length = o) (hw : o + w.length <= 600) (hA : Ris ((o + w.length : Nat) : Int) o A) (hB : Ris ((o + w.length : Nat) : Int) o B) (hrow : ∀ r ∈ w, Ris ((o + w.length : Nat) : Int) o r) :
    z3n N (R ++ w) A B = some (R ++ lnk A B o w) := by
  have el : (R ++ w).length = o + w.length := by rw [List.length_append, hR]
  have key := zq2 hN (R ++ w) A B (by omega) (z3b hA hw) (by rw [el]; exact hB.mono (Int.le_refl _) (by omega)) (by
    intro i hi hin
    have hx : (i : Int) ∈ A := by
      unfold inL at hin
      rw [List.any_eq_true] at hin
      obtain ⟨x, hx, he⟩ := hin
      rw [beq_iff_eq.1 he] at hx; exact hx
    have h := hA.mem hx
    have e : (R ++ w).getD i [] = w.getD (i - o) [] := by
      rw [List.getD_eq_getElem?_getD, List.getElem?_append_right (by omega), hR, <- List.getD_eq_getElem?_getD]
    rw [e, el]
    have hm : w.getD (i - o) [] ∈ w := by
      rw [List.getD_eq_getElem?_getD, List.getElem?_eq_getElem (by omega)]; exact List.getElem_mem _
    exact (hrow _ hm).mono (Int.le_refl _) (by omega)) (R ++ w).length N 0 [] (by omega) (by omega) rfl
  unfold z3n zdb
  rw [show ((0 : Int)) = ((0 : Nat) : Int) from rfl, key, List.nil_append, List.drop_zero, zhv, Nat.zero_add, hR, znp A B 0 R (fun x hx => by have := hA.mem hx; omega)]

theorem zmk {N o e m : Nat} {a b : List Int} (hN : 1300 < N) (hm : m = o + e) (he : o + e <= 600) (ha : Ris ((o + e : Nat) : Int) o a) (hb : Ris ((o + e : Nat) : Int) o b) : z2a N a b (m : Int) = some (mg a b) := by
  have h1 := z3b ha he
  have h2 := z3b hb he
  subst hm
  rw [zsc _ _ _ (by omega) (by omega) (by omega) (by omega), zw5 (lo := o) (lo' := o) ha hb]

theorem zf2 {N o c d : Nat} {S0 R0 S R : List (List Int)} {u v : WrT} (hN : 1300 < N) (hR : R.length = o) (hS : S.length = o + (c + d)) (hw : o + (c + d) <= 600) (hu : Gd o c u) (hv : Gd (o + c) d v) :
    z1l N (wrD S0 R0 u.2) (wrD S (R ++ (u.1 ++ v.1)) v.2) = some (wrD S (R ++ (zmd o u v).1) (zmd o u v).2) := by
  have el : (u.1 ++ v.1).length = c + d := by rw [List.length_append, hu.len, hv.len]
  have x1 := Gd.up hu.fst (Nat.le_add_right c d)
  have x2 := Gd.up hu.lst (Nat.le_add_right c d)
  have y1 := Gd.up2 hv.fst
  have y2 := Gd.up2 hv.lst
  unfold z1l z6z z6y
  have hl := zwe (R := R) (w := u.1 ++ v.1) (A := u.2.2.2.1) (B := v.2.2.1) hN hR (by rw [el]; exact hw) (by rw [el]; exact x2) (by rw [el]; exact y1) (by
    rw [el]
    intro r hr
    rcases List.mem_append.1 hr with h | h
    . exact Gd.up (hu.rows r h) (Nat.le_add_right c d)
    . exact Gd.up2 (hv.rows r h))
  unfold wrD
  dsimp only
  rw [hl, Option.bind_some, zmk hN hS hw x1 y1, zmk hN hS hw x2 y2]
  unfold zmd zqc
  dsimp only
  cases u.2.1 <;> cases v.2.1 <;> rfl

def z182 (self : NodT.den -> WdT -> Option WdT) (x : Tree) : Prop :=
 ∀ (S R : List (List Int)) (p : PrT), S.length = R.length -> S.length + (zj x).length <= 600 -> self (unN x) (wrD S R p) = some (wrD (S ++ zj x) (R ++ (mT x S.length).1) (mT x S.length).2)

theorem zxj (s : List (List Int)) (n : Nat) : z3c s (n + 1) = s ++ z3c s n := by
  unfold z3c
  rw [List.replicate_succ, List.flatten_cons]

theorem zyo {self : NodT.den -> WdT -> Option WdT} {kid : Tree} (hself : z182 self kid) (hr : z24 kid = true) : ∀ (n N : Nat) (S R : List (List Int)) (p : PrT), 1301 + n < N -> S.length = R.length -> S.length + n * (zj kid).length <= 600 -> n <= 100 →
    z29 N self (unN kid) (wrD S R p) (n : Int) = some (wrD (S ++ z3c (zj kid) n) (R ++ (zc6 (mT kid) S.length n).1) (zc6 (mT kid) S.length n).2)
  | 0, N, S, R, p, h1, h2, h3, h4 => by
    obtain ⟨M, rfl⟩ : ∃ M, N = M + 1 := ⟨N - 1, by omega⟩
    rw [z29]
    unfold z6g
    rw [decide_eq_true (by omega), cond_true, zc6]
    unfold z3c wrD z9k
    simp
  | n + 1, N, S, R, p, h1, h2, h3, h4 => by
    obtain ⟨M, rfl⟩ : ∃ M, N = M + 1 := ⟨N - 1, by omega⟩
    have hf := zdk kid hr
    rw [Nat.add_mul, Nat.one_mul] at h3
    rw [z29]
    unfold z6g
    rw [decide_eq_false (by omega), cond_false, hself S R p h2 (by omega), Option.bind_some, z4c (x := ((n + 1 : Nat) : Int) - 1) (by unfold I64; omega), show ((n + 1 : Nat) : Int) - 1 = (n : Int) by omega]
    have el : (S ++ zj kid).length = S.length + (zj kid).length := List.length_append
    have ih := zyo hself hr n M (S ++ zj kid) (R ++ (mT kid S.length).1) (mT kid S.length).2 (by omega) (by rw [el, List.length_append, (hf S.length).len, h2]) (by rw [el]; omega) (by omega)
    rw [el] at ih
    rw [ih, Option.bind_some]
    have hs := zf2 (N := M + 1) (S0 := S ++ zj kid) (R0 := R ++ (mT kid S.length).1) (S := S ++ zj kid ++ z3c (zj kid) n) (R := R) (by omega) h2.symm (by rw [List.length_append, el]; unfold z3c; rw [zar]; omega) (by omega) (hf S.length) (Gd.tail hf n (S.length + (zj kid).length))
    rw [<- List.append_assoc] at hs
    rw [hs, Option.bind_some, zxj, zc6, (hf S.length).len, List.append_assoc]
    rfl

theorem zy8 {N : Nat} (hN : 1300 < N) {k : Int} {st : List Int} {kid : Tree} {hi : Int} {lo : Nat} (hlo : lo <= 17) {self : NodT.den -> WdT -> Option WdT} (hself : z182 self kid) (hr : z24 kid = true) {x4 : WdT} {S R : List (List Int)} (hR : S.length = R.length)
    (hb : S.length + lo * (zj kid).length <= 600) (K : WdT -> Option WdT) : ∀ (m N' j : Nat) (u : WrT), m < N' -> j + m = lo -> Gd S.length (j * (zj kid).length) u →
    iter (fun (v : (WdT × Int)) r => z2w N self (k, (st, ([kid], (((lo : Nat) : Int), (hi, ()))))) x4 v.1 v.2 (fun out i => (r (out, i))) K) N' (wrD (S ++ z3c (zj kid) j) (R ++ u.1) u.2, (j : Int))
      = K (wrD (S ++ z3c (zj kid) lo) (R ++ (zm4 (mT kid) S.length m u).1) (zm4 (mT kid) S.length m u).2)
  | 0, N', j, u, h1, h2, hu => by
    obtain ⟨M, rfl⟩ : ∃ M, N' = M + 1 := ⟨N' - 1, by omega⟩
    rw [iter]
    dsimp only
    unfold z2w
    dsimp only
    rw [decide_eq_false (by omega), cond_false, zm4, show j = lo by omega]
  | m + 1, N', j, u, h1, h2, hu => by
    obtain ⟨M, rfl⟩ : ∃ M, N' = M + 1 := ⟨N' - 1, by omega⟩
    have hf := zdk kid hr
    have hj : (j + 1) * (zj kid).length <= lo * (zj kid).length := Nat.mul_le_mul_right _ (by omega)
    rw [Nat.add_mul, Nat.one_mul] at hj
    have el : (S ++ z3c (zj kid) j).length = S.length + j * (zj kid).length := by
      rw [List.length_append]; unfold z3c; rw [zar]
    have e1 := hself (S ++ z3c (zj kid) j) (R ++ u.1) u.2 (by rw [el, List.length_append, hu.len, hR]) (by rw [el]; omega)
    rw [el] at e1
    have hu2 := hu.seq (hf (S.length + j * (zj kid).length))
    rw [show j * (zj kid).length + (zj kid).length = (j + 1) * (zj kid).length by rw [Nat.add_mul, Nat.one_mul]] at hu2
    have hs := zf2 (N := N) (S0 := S ++ z3c (zj kid) j) (R0 := R ++ u.1) (S := S ++ z3c (zj kid) j ++ zj kid) (R := R) hN hR.symm (by rw [List.length_append, el]; omega) (by omega) hu (hf (S.length + j * (zj kid).length))
    rw [<- List.append_assoc] at hs
    have step : ∀ rec, z2w N self (k, (st, ([kid], (((lo : Nat) : Int), (hi, ()))))) x4 (wrD (S ++ z3c (zj kid) j) (R ++ u.1) u.2) (j : Int) rec K = rec (wrD (S ++ z3c (zj kid) (j + 1)) (R ++ (zmd S.length u (mT kid (S.length + j * (zj kid).length))).1) (zmd S.length u (mT kid (S.length + j * (zj kid).length))).2) ((j + 1 : Nat) : Int) := by
      intro rec
      unfold z2w
      dsimp only
      rw [decide_eq_true (show (j : Int) < (lo : Int) by omega), show inR (0 : Int) [kid].length = true from zk8 (Int.le_refl _) (by simp), z4c (x := (j : Int) + 1) (by unfold I64; omega)]
      simp only [cond_true]
      rw [show [kid].getD 0 (Tree.mk (0 : Int) ([] : List Int) ([] : List Tree) (0 : Int) (0 : Int)) = kid from rfl, e1, Option.bind_some, hs, Option.bind_some, zla, List.append_assoc]
      rfl
    rw [iter]
    dsimp only
    rw [step, zm4, hu.len]
    exact zy8 hN hlo hself hr hR hb K m M (j + 1) (zmd S.length u (mT kid (S.length + j * (zj kid).length))) (by omega) (by omega) hu2

theorem z12i {N : Nat} (hN : 1300 < N) {st : List Int} {lo hi : Int} {ks : List Tree} (hm : ks.length <= maxLen) {self : NodT.den -> WdT -> Option WdT} {x4 : WdT} {S R : List (List Int)} (hR : S.length = R.length) : ∀ (k N' i c : Nat) (S' : List (List Int)) (u : WrT), k < N' -> i + k = ks.length -> Gd S.length c u -> S'.length = c →
    (∀ x ∈ ks.drop i, z182 self x /\ z24 x = true) -> S.length + c + (z5e (ks.drop i)).length <= 600 →
    iter (fun (v : (WdT × Int)) r => z1d N self (2, (st, (ks, (lo, (hi, ()))))) x4 v.1 v.2 (fun out i => (r (out, i))) (fun out1 => some out1)) N' (wrD (S ++ S') (R ++ u.1) u.2, (i : Int))
      = some (wrD (S ++ S' ++ z5e (ks.drop i)) (R ++ (zxo (mL (ks.drop i)) S.length u).1) (zxo (mL (ks.drop i)) S.length u).2)
  | 0, N', i, c, S', u, h1, h2, hu, hc, hk, hb => by
    obtain ⟨M, rfl⟩ : ∃ M, N' = M + 1 := ⟨N' - 1, by omega⟩
    rw [iter]
    dsimp only
    unfold z1d
    dsimp only
    rw [decide_eq_false (show ¬ (i : Int) < (ks.length : Int) by omega), List.drop_eq_nil_of_le (by omega), mL, zxo, z5e, List.append_nil]
    rfl
  | k + 1, N', i, c, S', u, h1, h2, hu, hc, hk, hb => by
    obtain ⟨M, rfl⟩ : ∃ M, N' = M + 1 := ⟨N' - 1, by omega⟩
    have hi' : i < ks.length := by omega
    have ed := zkb hi'
    rw [ed] at hk hb
    have hx := hk _ (List.mem_cons_self ..)
    rw [z5e, List.length_append] at hb
    have hg := zdk _ hx.2 (S.length + c)
    have el : (S ++ S').length = S.length + c := by rw [List.length_append, hc]
    have e1 := hx.1 (S ++ S') (R ++ u.1) u.2 (by rw [el, List.length_append, hR, hu.len]) (by rw [el]; omega)
    rw [el] at e1
    have hs := zf2 (N := N) (S0 := S ++ S') (R0 := R ++ u.1) (S := S ++ S' ++ zj (ks.getD i dT)) (R := R) hN hR.symm (by rw [List.length_append, el]; omega) (by omega) hu hg
    rw [<- List.append_assoc] at hs
    have step : ∀ rec, z1d N self (2, (st, (ks, (lo, (hi, ()))))) x4 (wrD (S ++ S') (R ++ u.1) u.2) (i : Int) rec (fun out1 => some out1) = rec (wrD (S ++ S' ++ zj (ks.getD i dT)) (R ++ (zmd S.length u (mT (ks.getD i dT) (S.length + c))).1) (zmd S.length u (mT (ks.getD i dT) (S.length + c))).2) ((i + 1 : Nat) : Int) := by
      intro rec
      unfold z1d z54
      dsimp only
      rw [decide_eq_true (show (i : Int) < (ks.length : Int) by omega), z4d hi', Int.toNat_natCast, show (Tree.mk (0 : Int) ([] : List Int) ([] : List Tree) (0 : Int) (0 : Int)) = dT from rfl, zln hi' hm, e1, Option.bind_some, hs, Option.bind_some]
      rfl
    rw [iter, ed]
    dsimp only
    rw [step, z5e, mL, zxo, hu.len]
    have := z12i hN hm (x4 := x4) (self := self) (st := st) (lo := lo) (hi := hi) hR k M (i + 1) (c + (zj (ks.getD i dT)).length) (S' ++ zj (ks.getD i dT)) (zmd S.length u (mT (ks.getD i dT) (S.length + c))) (by omega) (by omega) (hu.seq hg) (by rw [List.length_append, hc]) (fun x h => hk x (List.mem_cons_of_mem _ h)) (by omega)
    rw [<- List.append_assoc] at this
    refine this.trans ?_
    rw [<- List.append_assoc]

theorem z12j {N : Nat} (hN : 1300 < N) {st : List Int} {lo hi : Int} {ks : List Tree} (hm : ks.length <= maxLen) {self : NodT.den -> WdT -> Option WdT} {x4 : WdT} {S R : List (List Int)} (hR : S.length = R.length) : ∀ (k N' i c : Nat) (S' : List (List Int)) (u : WrT), k < N' -> i + k = ks.length -> Gd S.length c u -> S'.length = c →
    (∀ x ∈ ks.drop i, z182 self x /\ z24 x = true) -> S.length + c + (z5e (ks.drop i)).length <= 600 →
    iter (fun (v : (WdT × Int)) r => z1d N self (3, (st, (ks, (lo, (hi, ()))))) x4 v.1 v.2 (fun out i => (r (out, i))) (fun out1 => some out1)) N' (wrD (S ++ S') (R ++ u.1) u.2, (i : Int))
      = some (wrD (S ++ S' ++ z5e (ks.drop i)) (R ++ (zxt (mL (ks.drop i)) S.length u).1) (zxt (mL (ks.drop i)) S.length u).2)
  | 0, N', i, c, S', u, h1, h2, hu, hc, hk, hb => by
    obtain ⟨M, rfl⟩ : ∃ M, N' = M + 1 := ⟨N' - 1, by omega⟩
    rw [iter]
    dsimp only
    unfold z1d
    dsimp only
    rw [decide_eq_false (show ¬ (i : Int) < (ks.length : Int) by omega), List.drop_eq_nil_of_le (by omega), mL, zxt, z5e, List.append_nil]
    rfl
  | k + 1, N', i, c, S', u, h1, h2, hu, hc, hk, hb => by
    obtain ⟨M, rfl⟩ : ∃ M, N' = M + 1 := ⟨N' - 1, by omega⟩
    have hi' : i < ks.length := by omega
    have ed := zkb hi'
    rw [ed] at hk hb
    have hx := hk _ (List.mem_cons_self ..)
    rw [z5e, List.length_append] at hb
    have hg := zdk _ hx.2 (S.length + c)
    have el : (S ++ S').length = S.length + c := by rw [List.length_append, hc]
    have e1 := hx.1 (S ++ S') (R ++ u.1) u.2 (by rw [el, List.length_append, hR, hu.len]) (by rw [el]; omega)
    rw [el] at e1
    have hS : (S ++ S' ++ zj (ks.getD i dT)).length = S.length + (c + (zj (ks.getD i dT)).length) := by rw [List.length_append, el]; omega
    have step : ∀ rec, z1d N self (3, (st, (ks, (lo, (hi, ()))))) x4 (wrD (S ++ S') (R ++ u.1) u.2) (i : Int) rec (fun out1 => some out1) = rec (wrD (S ++ S' ++ zj (ks.getD i dT)) (R ++ (u.1 ++ (mT (ks.getD i dT) (S.length + c)).1)) (z12y u.2 (mT (ks.getD i dT) (S.length + c)).2)) ((i + 1 : Nat) : Int) := by
      intro rec
      unfold z1d z54
      dsimp only
      rw [decide_eq_true (show (i : Int) < (ks.length : Int) by omega), z4d hi', Int.toNat_natCast, show (Tree.mk (0 : Int) ([] : List Int) ([] : List Tree) (0 : Int) (0 : Int)) = dT from rfl, zln hi' hm, e1, Option.bind_some]
      unfold wrD
      dsimp only
      rw [zmk hN hS (by omega) (Gd.up hu.fst (by omega)) (Gd.up2 hg.fst), zmk hN hS (by omega) (Gd.up hu.lst (by omega)) (Gd.up2 hg.lst)]
      unfold z12y
      rw [<- List.append_assoc]
      cases hq : u.2.1 <;> rfl
    rw [iter, ed]
    dsimp only
    rw [step, z5e, mL, zxt, hu.len]
    have := z12j hN hm (x4 := x4) (self := self) (st := st) (lo := lo) (hi := hi) hR k M (i + 1) (c + (zj (ks.getD i dT)).length) (S' ++ zj (ks.getD i dT)) (u.1 ++ (mT (ks.getD i dT) (S.length + c)).1, z12y u.2 (mT (ks.getD i dT) (S.length + c)).2) (by omega) (by omega) (hu.alt hg) (by rw [List.length_append, hc]) (fun x h => hk x (List.mem_cons_of_mem _ h)) (by omega)
    rw [<- List.append_assoc] at this
    refine this.trans ?_
    rw [<- List.append_assoc]

def zgc (x : Tree) : Nat := min 513 (zj x).length
def zq3 : List Tree -> Nat
  | [] => 0
  | x :: xs => zgc x + zq3 xs

theorem zfu : ∀ ks : List Tree, min 513 (zq3 ks) = min 513 (z5e ks).length
  | [] => rfl
  | x :: xs => by
    have := zfu xs
    rw [zq3, z5e, List.length_append]
    unfold zgc
    omega

theorem z105 : ∀ ks : List Tree, zq3 ks <= 513 * ks.length
  | [] => Nat.le_refl _
  | x :: xs => by
    have := z105 xs
    rw [zq3, List.length_cons]
    unfold zgc
    omega

theorem zz7 {a b c : Nat} (h : min 513 a = min 513 b) (hc : 0 < c) : min 513 (a * c) = min 513 (b * c) := by
  by_cases e : a <= 512
  . have : a = b := by omega
    rw [this]
  . have h1 : a <= a * c := Nat.le_mul_of_pos_right a hc
    have h2 : b <= b * c := Nat.le_mul_of_pos_right b hc
    omega

theorem zsw {ks : List Tree} {i : Nat} (h : i < ks.length) : zq3 (ks.drop i) = zgc (ks.getD i dT) + zq3 (ks.drop (i + 1)) := by
  rw [zkb h, zq3]

theorem zo2 {N : Nat} {k : Int} {st : List Int} {ks : List Tree} {lo hi : Int} (hm : ks.length <= maxLen) (hB : ks.length <= 200000000000000) {self : NodT.den -> Option Int} (hs : ∀ x ∈ ks, self (unN x) = some ((zgc x : Nat) : Int)) (K : Int -> Option Int) : ∀ (n N' i a : Nat), n < N' -> i + n = ks.length -> a + zq3 (ks.drop i) <= 513 * ks.length →
    iter (fun (v : (Int × Int)) r => z2x N self (k, (st, (ks, (lo, (hi, ()))))) v.1 v.2 (fun all i => (r (all, i))) K) N' ((a : Int), (i : Int)) = K ((a + zq3 (ks.drop i) : Nat) : Int)
  | 0, N', i, a, h1, h2, h3 => by
    obtain ⟨M, rfl⟩ : ∃ M, N' = M + 1 := ⟨N' - 1, by omega⟩
    rw [iter]
    dsimp only
    unfold z2x
    dsimp only
    rw [decide_eq_false (show ¬ (i : Int) < (ks.length : Int) by omega), cond_false, List.drop_eq_nil_of_le (by omega), zq3, Nat.add_zero]
  | n + 1, N', i, a, h1, h2, h3 => by
    obtain ⟨M, rfl⟩ : ∃ M, N' = M + 1 := ⟨N' - 1, by omega⟩
    have hi' : i < ks.length := by omega
    rw [zsw hi', <- Nat.add_assoc] at h3 ⊢
    have step : ∀ rec, z2x N self (k, (st, (ks, (lo, (hi, ()))))) (a : Int) (i : Int) rec K = rec ((a + zgc (ks.getD i dT) : Nat) : Int) ((i + 1 : Nat) : Int) := by
      intro rec
      unfold z2x
      dsimp only
      rw [decide_eq_true (show (i : Int) < (ks.length : Int) by omega), z4d hi', Int.toNat_natCast, show (Tree.mk (0 : Int) ([] : List Int) ([] : List Tree) (0 : Int) (0 : Int)) = dT from rfl, zln hi' hm, hs _ (zk9 hi'), Option.bind_some, z4c (x := (a : Int) + ((zgc (ks.getD i dT) : Nat) : Int)) (by unfold I64; omega)]
      simp only [cond_true]
      rw [<- Int.natCast_add]
    rw [iter]
    dsimp only
    rw [step]
    exact zo2 hm hB hs K n M (i + 1) _ (by omega) (by omega) h3

theorem zn8 {N : Nat} {n : NodT.den} {ks : List Tree} (hm : ks.length <= maxLen) {self : NodT.den -> Option Int} (hs : ∀ x ∈ ks, self (unN x) = some ((zgc x : Nat) : Int)) (K : Int -> Option Int) : ∀ (m N' i a : Nat), m < N' -> i + m = ks.length -> a <= 513 →
    iter (fun (v : (Int × Int)) r => z61 N self n ks (ks.length : Int) v.1 v.2 (fun total x12 => (r (total, x12))) K) N' ((a : Int), (i : Int)) = K ((min 513 (a + zq3 (ks.drop i)) : Nat) : Int)
  | 0, N', i, a, h1, h2, h3 => by
    obtain ⟨M, rfl⟩ : ∃ M, N' = M + 1 := ⟨N' - 1, by omega⟩
    rw [iter]
    dsimp only
    unfold z61
    rw [decide_eq_false (show ¬ (i : Int) < (ks.length : Int) by omega), cond_false, List.drop_eq_nil_of_le (by omega), zq3, Nat.add_zero, Nat.min_eq_right h3]
  | m + 1, N', i, a, h1, h2, h3 => by
    obtain ⟨M, rfl⟩ : ∃ M, N' = M + 1 := ⟨N' - 1, by omega⟩
    have hi' : i < ks.length := by omega
    have hc : zgc (ks.getD i dT) <= 513 := by unfold zgc; omega
    rw [zsw hi', <- Nat.add_assoc]
    have step : ∀ rec, z61 N self n ks (ks.length : Int) (a : Int) (i : Int) rec K = rec ((min 513 (a + zgc (ks.getD i dT)) : Nat) : Int) ((i + 1 : Nat) : Int) := by
      intro rec
      unfold z61
      rw [decide_eq_true (show (i : Int) < (ks.length : Int) by omega), z4d hi', Int.toNat_natCast, show (Tree.mk (0 : Int) ([] : List Int) ([] : List Tree) (0 : Int) (0 : Int)) = dT from rfl, zln hi' hm, hs _ (zk9 hi'), Option.bind_some, z4c (x := (a : Int) + ((zgc (ks.getD i dT) : Nat) : Int)) (by unfold I64; omega)]
      simp only [cond_true]
      congr 1
      split <;> omega
    rw [iter]
    dsimp only
    rw [step]
    have := zn8 (N := N) (n := n) hm hs K m M (i + 1) (min 513 (a + zgc (ks.getD i dT))) (by omega) (by omega) (by omega)
    refine this.trans ?_
    congr 2
    omega

end
end Go.Proofs.YtmeecjkimeiogaaDoorLg
