import Derived.Test.YtaackaafmidjkaaDoorLgW
import Derived.Test.YtaackaafmidjkaaDoorChecked
import Derived.KernelRfl
import Derived.WalkKit
import Derived.Tactics
import Derived.Tactics2
import Derived.Defers
import Derived.Lib.Hide
import Derived.Below
import Derived.Recover
import Derived.Orders
import Derived.WalkSmall
import Derived.LoopN
set_option linter.all false
set_option maxRecDepth 100000
namespace Go.Proofs.YtaackaafmidjkaaDoorLg
noncomputable section
open Go Go.Lift

def ty3 : TyI := ⟨(Go.TypeDesc.int Go.IntKind.i64), 1, 8, (.int .i64), (0 : Int), false⟩

theorem z18p : TyOk Go.Proofs.Tryd.prog 3 ty3 := TyOk.of (by kernel_rfl) (by kernel_rfl) (by kernel_rfl) (by kernel_rfl)

def ty4 : TyI := ⟨Go.TypeDesc.bool, 1, 1, .bool, false, false⟩

theorem z18o : TyOk Go.Proofs.Tryd.prog 4 ty4 := TyOk.of (by kernel_rfl) (by kernel_rfl) (by kernel_rfl) (by kernel_rfl)

def ty5 : TyI := ⟨(Go.TypeDesc.int Go.IntKind.u8), 1, 1, (.int .u8), (0 : Int), false⟩

theorem z18n : TyOk Go.Proofs.Tryd.prog 5 ty5 := TyOk.of (by kernel_rfl) (by kernel_rfl) (by kernel_rfl) (by kernel_rfl)

def ty9 : TyI := ⟨Go.TypeDesc.string, 1, 16, .str, ([] : List UInt8), false⟩

theorem z18m : TyOk Go.Proofs.Tryd.prog 9 ty9 := TyOk.of (by kernel_rfl) (by kernel_rfl) (by kernel_rfl) (by kernel_rfl)

def ty20 : TyI := ⟨(Go.TypeDesc.interface (List.toArray ([] : List (String × Nat)))), 1, 16, .opq, Go.Value.nilIface, false⟩

theorem z17f : TyOk Go.Proofs.Tryd.prog 20 ty20 := TyOk.of (by kernel_rfl) (by kernel_rfl) (by kernel_rfl) (by kernel_rfl)

def ty22 : TyI := ⟨(Go.TypeDesc.slice 61), 1, 24, (.sl (.pair .str (.pair .str .unit))), ([] : List ((List UInt8) × ((List UInt8) × Unit))), false⟩

theorem z17e : TyOk Go.Proofs.Tryd.prog 22 ty22 := TyOk.of (by kernel_rfl) (by kernel_rfl) (by kernel_rfl) (by kernel_rfl)

def ty24 : TyI := ⟨(Go.TypeDesc.struct (List.toArray ([(Go.Field.mk "ID" 9 0 false "" "" 0), (Go.Field.mk "Links" 22 1 false "" "" 16), (Go.Field.mk "Tag" 9 2 false "" "" 40)] : List Go.Field))), 3, 56, (.pair .str (.pair (.sl (.pair .str (.pair .str .unit))) (.pair .str .unit))), (([] : List UInt8), ([] : List ((List UInt8) × ((List UInt8) × Unit))), ([] : List UInt8), ()), true⟩

theorem z17d : TyOk Go.Proofs.Tryd.prog 24 ty24 := TyOk.of (by kernel_rfl) (by kernel_rfl) (by kernel_rfl) (by kernel_rfl)

def ty25 : TyI := ⟨(Go.TypeDesc.slice 24), 1, 24, (.sl (.pair .str (.pair (.sl (.pair .str (.pair .str .unit))) (.pair .str .unit)))), ([] : List ((List UInt8) × ((List ((List UInt8) × ((List UInt8) × Unit))) × ((List UInt8) × Unit)))), false⟩

theorem z17c : TyOk Go.Proofs.Tryd.prog 25 ty25 := TyOk.of (by kernel_rfl) (by kernel_rfl) (by kernel_rfl) (by kernel_rfl)

def ty27 : TyI := ⟨(Go.TypeDesc.struct (List.toArray ([(Go.Field.mk "Token" 24 0 false "" "" 0), (Go.Field.mk "More" 25 3 false "" "" 56)] : List Go.Field))), 4, 80, (.pair (.pair .str (.pair (.sl (.pair .str (.pair .str .unit))) (.pair .str .unit))) (.pair (.sl (.pair .str (.pair (.sl (.pair .str (.pair .str .unit))) (.pair .str .unit)))) .unit)), ((([] : List UInt8), ([] : List ((List UInt8) × ((List UInt8) × Unit))), ([] : List UInt8), ()), ([] : List ((List UInt8) × ((List ((List UInt8) × ((List UInt8) × Unit))) × ((List UInt8) × Unit)))), ()), true⟩

theorem z17b : TyOk Go.Proofs.Tryd.prog 27 ty27 := TyOk.of (by kernel_rfl) (by kernel_rfl) (by kernel_rfl) (by kernel_rfl)

def ty30 : TyI := ⟨(Go.TypeDesc.int Go.IntKind.i64), 1, 8, (.int .i64), (0 : Int), false⟩

theorem z17a : TyOk Go.Proofs.Tryd.prog 30 ty30 := TyOk.of (by kernel_rfl) (by kernel_rfl) (by kernel_rfl) (by kernel_rfl)

def ty45 : TyI := ⟨(Go.TypeDesc.int Go.IntKind.u64), 1, 8, (.int .u64), (0 : Int), false⟩

theorem z179 : TyOk Go.Proofs.Tryd.prog 45 ty45 := TyOk.of (by kernel_rfl) (by kernel_rfl) (by kernel_rfl) (by kernel_rfl)

def ty47 : TyI := ⟨(Go.TypeDesc.pointer 77), 1, 8, .opq, (Go.Value.pointer none), false⟩

theorem z178 : TyOk Go.Proofs.Tryd.prog 47 ty47 := TyOk.of (by kernel_rfl) (by kernel_rfl) (by kernel_rfl) (by kernel_rfl)

def ty53 : TyI := ⟨(Go.TypeDesc.struct (List.toArray ([(Go.Field.mk "S" 9 0 false "" "" 0), (Go.Field.mk "E" 30 1 false "" "" 16)] : List Go.Field))), 2, 24, (.pair .str (.pair (.int .i64) .unit)), (([] : List UInt8), (0 : Int), ()), true⟩

theorem z177 : TyOk Go.Proofs.Tryd.prog 53 ty53 := TyOk.of (by kernel_rfl) (by kernel_rfl) (by kernel_rfl) (by kernel_rfl)

def ty61 : TyI := ⟨(Go.TypeDesc.struct (List.toArray ([(Go.Field.mk "Text" 9 0 false "" "" 0), (Go.Field.mk "Seal" 9 1 false "" "" 16)] : List Go.Field))), 2, 32, (.pair .str (.pair .str .unit)), (([] : List UInt8), ([] : List UInt8), ()), true⟩

theorem z176 : TyOk Go.Proofs.Tryd.prog 61 ty61 := TyOk.of (by kernel_rfl) (by kernel_rfl) (by kernel_rfl) (by kernel_rfl)

def ty65 : TyI := ⟨(Go.TypeDesc.pointer 68), 1, 8, .opq, (Go.Value.pointer none), false⟩

theorem z175 : TyOk Go.Proofs.Tryd.prog 65 ty65 := TyOk.of (by kernel_rfl) (by kernel_rfl) (by kernel_rfl) (by kernel_rfl)

def ty66 : TyI := ⟨(Go.TypeDesc.slice 5), 1, 24, (.sl (.int .u8)), ([] : List Int), false⟩

theorem z174 : TyOk Go.Proofs.Tryd.prog 66 ty66 := TyOk.of (by kernel_rfl) (by kernel_rfl) (by kernel_rfl) (by kernel_rfl)

def ty68 : TyI := ⟨(Go.TypeDesc.struct (List.toArray ([(Go.Field.mk "addr" 65 0 false "" "strings" 0), (Go.Field.mk "buf" 66 1 false "" "strings" 8)] : List Go.Field))), 2, 32, (.pair .opq (.pair (.sl (.int .u8)) .unit)), ((Go.Value.pointer none), ([] : List Int), ()), true⟩

theorem z173 : TyOk Go.Proofs.Tryd.prog 68 ty68 := TyOk.of (by kernel_rfl) (by kernel_rfl) (by kernel_rfl) (by kernel_rfl)

def ty70 : TyI := ⟨(Go.TypeDesc.interface (List.toArray ([("Error", 73)] : List (String × Nat)))), 1, 16, .opq, Go.Value.nilIface, false⟩

theorem z172 : TyOk Go.Proofs.Tryd.prog 70 ty70 := TyOk.of (by kernel_rfl) (by kernel_rfl) (by kernel_rfl) (by kernel_rfl)

def ty77 : TyI := ⟨(Go.TypeDesc.struct (List.toArray ([(Go.Field.mk "made" 4 0 false "" "porter/field" 0), (Go.Field.mk "rest" 9 1 false "" "porter/field" 8), (Go.Field.mk "err" 30 2 false "" "porter/field" 24)] : List Go.Field))), 3, 32, (.pair .bool (.pair .str (.pair (.int .i64) .unit))), (false, ([] : List UInt8), (0 : Int), ()), true⟩

theorem z171 : TyOk Go.Proofs.Tryd.prog 77 ty77 := TyOk.of (by kernel_rfl) (by kernel_rfl) (by kernel_rfl) (by kernel_rfl)

def ty95 : TyI := ⟨(Go.TypeDesc.int Go.IntKind.u64), 1, 8, (.int .u64), (0 : Int), false⟩

theorem z170 : TyOk Go.Proofs.Tryd.prog 95 ty95 := TyOk.of (by kernel_rfl) (by kernel_rfl) (by kernel_rfl) (by kernel_rfl)

def z18q : TyI := ⟨(Go.TypeDesc.struct (List.toArray ([(Go.Field.mk "code" 30 0 false "" "porter/token" 0)] : List Go.Field))), 1, 8, (.pair (.int .i64) .unit), ((0 : Int), ()), true⟩

theorem z149 : TyOk Go.Proofs.Tryd.prog 104 z18q := TyOk.of (by kernel_rfl) (by kernel_rfl) (by kernel_rfl) (by kernel_rfl)

def tys : List (Nat × TyI) := [(3, ty3), (4, ty4), (5, ty5), (9, ty9), (20, ty20), (22, ty22), (24, ty24), (25, ty25), (27, ty27), (30, ty30), (45, ty45), (47, ty47), (53, ty53), (61, ty61), (65, ty65), (66, ty66), (68, ty68), (70, ty70), (77, ty77), (95, ty95), (104, z18q)]

theorem z1z : TysOk Go.Proofs.Tryd.prog tys := TysOk.cons z18p (TysOk.cons z18o (TysOk.cons z18n (TysOk.cons z18m (TysOk.cons z17f (TysOk.cons z17e (TysOk.cons z17d (TysOk.cons z17c (TysOk.cons z17b (TysOk.cons z17a (TysOk.cons z179 (TysOk.cons z178 (TysOk.cons z177 (TysOk.cons z176 (TysOk.cons z175 (TysOk.cons z174 (TysOk.cons z173 (TysOk.cons z172 (TysOk.cons z171 (TysOk.cons z170 (TysOk.cons z149 (TysOk.nil)))))))))))))))))))))

theorem mixed : Go.Proofs.Tryd.prog.follows .mixedOrders = true := by kernel_rfl

def zlu : Code := (Go.Proofs.Tryd.f70.body).getD .skip

def zj4 : List (List Nat × List Nat) := [([0], [0, 1]), ([0, 0, 1], [8]), ([1, 0, 1], []), ([0, 0, 1, 0, 1], [4]), ([1, 0, 1, 0, 1], [4]), ([0, 1, 1], [4]), ([1, 1, 1], [4])]

def zcc (N : Nat) : Env := z3q tys zi [] [] [] [] false [] []

theorem zni (N : Nat) : EnvOk Go.Proofs.Tryd.prog (zcc N) := zq mixed z1z (FnsOk.nil) (ItsOk.nil)

def z3j (N : Nat) (s : (List UInt8)) (most : Int) : Option Go.Value :=
 cond (decide (most < (((List.length s) : Nat) : Int)))
 (some (Go.Value.iface 104 (Go.Value.agg (List.toArray (([(Go.Value.int Go.IntKind.i64 (3 : Int))] : List Go.Value) ++ ([] : List Go.Value))))))
 (some Go.Value.nilIface)

def zj3 (N : Nat) : Tab Go.Value := []

theorem zlt (N : Nat) (x : z2d [(0, .v .str), (0, .v (.int .i64))]) : zc6 (zcc N) N (zj3 N) zj4 Go.Proofs.Tryd.f70 (mkS [(0, .v .str), (0, .v (.int .i64))] 0 x) (z6u (.v .opq) 2) = z3j N x.1 x.2.1 := by kernel_rfl

def z8z (N : Nat) : List A -> Res := z1t [(0, .v .str), (0, .v (.int .i64))] (fun x => z3j N x.1 x.2.1) (zev (.v .opq) 2)

theorem zg6 (N : Nat) : Contract Go.Proofs.Tryd.prog zi 70 (z8z N) :=
  Contract.of (E := zcc N) (H := zj3 N) (L := zj4) (N := N) (body := zlu) (K := (z6u (.v .opq) 2)) (zni N) Go.Proofs.Tryd.func70 (by kernel_rfl) (by decide) (fun _ hb => TabOk.nil) (fun x y h => by rw [zlt]; exact h) (z1v (s := (.v .opq)) (m := 2))

def zi5 : Code := (Go.Proofs.Tryd.f69.body).getD .skip

def zd6 : List (List Nat × List Nat) := [([0], [1]), ([0, 0, 1], [6, 1]), ([1, 0, 1], [1]), ([0, 0, 1, 0, 1], [2]), ([1, 0, 1, 0, 1], [2]), ([0, 0, 1, 1], [3, 1]), ([0, 1, 0, 1, 1], [14, 3, 1]), ([1, 1, 0, 1, 1], [1]), ([0, 0, 1, 1, 0, 1, 1], [2]), ([1, 0, 1, 1, 0, 1, 1], [2]), ([0, 1, 1, 1], [2]), ([1, 1, 1, 1], [2])]

def z7z (N : Nat) : Env := z3q tys zi [(70, z8z N)] [] [] [] false [] []

theorem zjg (N : Nat) : EnvOk Go.Proofs.Tryd.prog (z7z N) := zq mixed z1z (FnsOk.cons (zg6 N) (FnsOk.nil)) (ItsOk.nil)

def z4j (N : Nat) (l : ((List UInt8) × ((List UInt8) × Unit))) : Option Go.Value :=
 cond (l.2.1 == ([] : List UInt8))
 ((z3j N l.1 (2048 : Int)).bind fun y =>
 some y)
 ((z3j N l.1 (4144 : Int)).bind fun y1 =>
 cond (Go.Lift.isIfc y1)
 (cond (!(Go.Lift.isNilV y1))
 (some y1)
 ((z3j N l.2.1 (4144 : Int)).bind fun y2 =>
 some y2))
 (none))

def zd5 (N : Nat) : Tab Go.Value := []

theorem zi4 (N : Nat) (x : z2d [(0, .v (.pair .str (.pair .str .unit)))]) : zc6 (z7z N) N (zd5 N) zd6 Go.Proofs.Tryd.f69 (mkS [(0, .v (.pair .str (.pair .str .unit)))] 0 x) (z6u (.v .opq) 1) = z4j N x.1 := by kernel_rfl

def zaf (N : Nat) : List A -> Res := z1t [(0, .v (.pair .str (.pair .str .unit)))] (fun x => z4j N x.1) (zev (.v .opq) 1)

theorem zkk (N : Nat) : Contract Go.Proofs.Tryd.prog zi 69 (zaf N) :=
  Contract.of (E := z7z N) (H := zd5 N) (L := zd6) (N := N) (body := zi5) (K := (z6u (.v .opq) 1)) (zjg N) Go.Proofs.Tryd.func69 (by kernel_rfl) (by decide) (fun _ hb => TabOk.nil) (fun x y h => by rw [zi4]; exact h) (z1v (s := (.v .opq)) (m := 1))

def z55 : Code := (Go.Proofs.Tryd.f57.body).getD .skip

def z80 : List (List Nat × List Nat) := [([0], [1]), ([0, 0, 1], [9, 1]), ([1, 0, 1], [1]), ([0, 0, 1, 0, 1], [2]), ([1, 0, 1, 0, 1], [2]), ([0, 0, 1, 1], [15, 14, 13, 1]), ([0, 1, 0, 1, 1], [15, 14, 13, 1]), ([0, 0, 0, 1, 0, 1, 1], [16, 13, 15, 14, 1]), ([0, 1, 0, 0, 1, 0, 1, 1], [13, 15, 14, 1]), ([1, 0, 1, 0, 0, 1, 0, 1, 1], [1]), ([0, 0, 0, 1, 1, 0, 0, 1, 0, 1, 1], [4, 15, 14, 13, 1]), ([0, 1, 0, 0, 1, 1, 0, 0, 1, 0, 1, 1], [5, 15, 14, 13, 1]), ([0, 1, 1, 0, 0, 1, 1, 0, 0, 1, 0, 1, 1], [22, 5, 15, 14, 13, 1]), ([1, 1, 1, 0, 0, 1, 1, 0, 0, 1, 0, 1, 1], [15, 14, 13, 1]), ([0, 0, 1, 1, 1, 0, 0, 1, 1, 0, 0, 1, 0, 1, 1], [2]), ([1, 0, 1, 1, 1, 0, 0, 1, 1, 0, 0, 1, 0, 1, 1], [2]), ([0, 1, 1, 0, 0, 1, 0, 1, 1], [15, 14, 13, 1]), ([1, 1, 1, 0, 0, 1, 0, 1, 1], [15, 14, 13, 1]), ([1, 0, 1, 1], [1]), ([0, 1, 1, 1], [2]), ([1, 1, 1, 1], [2])]

def z4u (N : Nat) : Env := z3q tys zi [(69, zaf N), (70, z8z N)] [] [] [] false [] []

theorem zji (N : Nat) : EnvOk Go.Proofs.Tryd.prog (z4u N) := zq mixed z1z (FnsOk.cons (zkk N) (FnsOk.cons (zg6 N) (FnsOk.nil))) (ItsOk.nil)

def z6w (N : Nat) (t : ((List UInt8) × ((List ((List UInt8) × ((List UInt8) × Unit))) × ((List UInt8) × Unit)))) (x13 : (List ((List UInt8) × ((List UInt8) × Unit)))) (x14 : Int) (x15 : Int) (rec : Int -> Option Go.Value) (k0 : Go.Value -> Option Go.Value) (k1 : Option Go.Value) : Option Go.Value :=
 cond (decide (x15 < x14))
 (cond (Go.Lift.inR x15 (List.length x13))
 ((z4j N (List.getD x13 (Int.toNat x15) (([] : List UInt8), (([] : List UInt8), ())))).bind fun y =>
 cond (Go.Lift.isIfc y)
 (cond (!(Go.Lift.isNilV y))
 (k0 y)
 (rec (Go.IntKind.wrap Go.IntKind.i64 (x15 + (1 : Int)))))
 (none))
 (none))
 (k1)

def z6x (N : Nat) (t : ((List UInt8) × ((List ((List UInt8) × ((List UInt8) × Unit))) × ((List UInt8) × Unit)))) (x13 : (List ((List UInt8) × ((List UInt8) × Unit)))) (x14 : Int) (x15 : Int) (k0 : Go.Value -> Option Go.Value) (k1 : Option Go.Value) : Option Go.Value :=
 iter (fun (v : Int) r => z6w N t x13 x14 v (fun x15 => (r x15)) k0 k1) N x15

def zbx (N : Nat) (i : (((List UInt8) × ((List ((List UInt8) × ((List UInt8) × Unit))) × ((List UInt8) × Unit))) × (List ((List UInt8) × ((List UInt8) × Unit))) × Int)) (v : Int) (r : Int -> Option Go.Value) (K : Ex -> List A -> Option Go.Value) : Option Go.Value :=
 z6w N i.1 i.2.1 i.2.2 v (fun x15 => (r x15)) (fun a0 => (K .ret (mkS [(2, .v .opq)] 25 (a0, ())))) (K (.exit 0) (mkS [(1, .box (.pair .str (.pair (.sl (.pair .str (.pair .str .unit))) (.pair .str .unit))))] 26 (i.1, ())))

def zbw (N : Nat) : Hd Go.Value := fun st K => (unS [(1, .box (.pair .str (.pair (.sl (.pair .str (.pair .str .unit))) (.pair .str .unit)))), (11, .v (.sl (.pair .str (.pair .str .unit)))), (0, .v (.int .i64)), (0, .v (.int .i64))] 12 (restr [15, 14, 13, 1] 0 st)).bind fun x => iter (fun v r => zbx N ((fun x => (x.1, x.2.1, x.2.2.1)) x) v r K) N ((fun x => x.2.2.2.1) x)

def zkl (N : Nat) : Tab Go.Value := []

theorem zjh {N : Nat} {c : Ctx} (hb : Base Go.Proofs.Tryd.prog (z4u N) c) : z16 Go.Proofs.Tryd.prog c (zl z55 [0, 1, 0, 1, 1]) (zbw N) :=
  z88 (s := [(1, .box (.pair .str (.pair (.sl (.pair .str (.pair .str .unit))) (.pair .str .unit)))), (11, .v (.sl (.pair .str (.pair .str .unit)))), (0, .v (.int .i64)), (0, .v (.int .i64))]) (m := 12) (zbx N) [15, 14, 13, 1] N (fun x => (x.1, x.2.1, x.2.2.1)) (fun x => x.2.2.2.1) (fun i v => (i.1, i.2.1, i.2.2, v, ())) (fun _ => rfl) (zh hb N (zkl N) z80 z55 TabOk.nil [0, 0, 1, 0, 1, 1] _ rfl) (fun i v r K => by kernel_rfl)

def z35 (N : Nat) (t : ((List UInt8) × ((List ((List UInt8) × ((List UInt8) × Unit))) × ((List UInt8) × Unit)))) : Option Go.Value :=
 cond (decide ((64 : Int) < (((List.length t.2.1) : Nat) : Int)))
 (some (Go.Value.iface 104 (Go.Value.agg (List.toArray (([(Go.Value.int Go.IntKind.i64 (3 : Int))] : List Go.Value) ++ ([] : List Go.Value))))))
 (z6x N t t.2.1 (((List.length t.2.1) : Nat) : Int) (0 : Int)
 (fun x2 => some x2)
 ((z3j N t.1 (4144 : Int)).bind fun y =>
 some y))

def zd7 (N : Nat) : Tab Go.Value := [([0, 1, 0, 1, 1], zbw N)]

theorem zi6 (N : Nat) (x : z2d [(0, .v (.pair .str (.pair (.sl (.pair .str (.pair .str .unit))) (.pair .str .unit))))]) : zc6 (z4u N) N (zd7 N) z80 Go.Proofs.Tryd.f57 (mkS [(0, .v (.pair .str (.pair (.sl (.pair .str (.pair .str .unit))) (.pair .str .unit))))] 0 x) (z6u (.v .opq) 1) = z35 N x.1 := by kernel_rfl

def z63 (N : Nat) : List A -> Res := z1t [(0, .v (.pair .str (.pair (.sl (.pair .str (.pair .str .unit))) (.pair .str .unit))))] (fun x => z35 N x.1) (zev (.v .opq) 1)

theorem zby (N : Nat) : Contract Go.Proofs.Tryd.prog zi 57 (z63 N) :=
  Contract.of (E := z4u N) (H := zd7 N) (L := z80) (N := N) (body := z55) (K := (z6u (.v .opq) 1)) (zji N) Go.Proofs.Tryd.func57 (by kernel_rfl) (by decide) (fun _ hb => (TabOk.cons (zjh hb) TabOk.nil)) (fun x y h => by rw [zi6]; exact h) (z1v (s := (.v .opq)) (m := 1))

def znl : Code := (Go.Proofs.Tryd.f66.body).getD .skip

def zkj : List (List Nat × List Nat) := [([0], [1]), ([0, 0, 1], [3, 1]), ([0, 1, 0, 1], [7, 3, 1]), ([1, 1, 0, 1], [1]), ([0, 0, 1, 1, 0, 1], [2]), ([1, 0, 1, 1, 0, 1], [2]), ([0, 0, 1, 1], [12]), ([1, 0, 1, 1], []), ([0, 0, 1, 0, 1, 1], [2]), ([1, 0, 1, 0, 1, 1], [2]), ([0, 1, 1, 1], [2]), ([1, 1, 1, 1], [2])]

def zef (N : Nat) : Env := z3q tys zi [(57, z63 N)] [] [] [] false [] []

theorem zoa (N : Nat) : EnvOk Go.Proofs.Tryd.prog (zef N) := zq mixed z1z (FnsOk.cons (zby N) (FnsOk.nil)) (ItsOk.nil)

def zag (N : Nat) (t : ((List UInt8) × ((List ((List UInt8) × ((List UInt8) × Unit))) × ((List UInt8) × Unit)))) : Option Go.Value :=
 (z35 N t).bind fun y =>
 cond (Go.Lift.isIfc y)
 (cond (!(Go.Lift.isNilV y))
 (some y)
 (cond ((((List.length t.2.2.1) : Nat) : Int) != (32 : Int))
 (some (Go.Value.iface 104 (Go.Value.agg (List.toArray (([(Go.Value.int Go.IntKind.i64 (7 : Int))] : List Go.Value) ++ ([] : List Go.Value))))))
 (some Go.Value.nilIface)))
 (none)

def zki (N : Nat) : Tab Go.Value := []

theorem znk (N : Nat) (x : z2d [(0, .v (.pair .str (.pair (.sl (.pair .str (.pair .str .unit))) (.pair .str .unit))))]) : zc6 (zef N) N (zki N) zkj Go.Proofs.Tryd.f66 (mkS [(0, .v (.pair .str (.pair (.sl (.pair .str (.pair .str .unit))) (.pair .str .unit))))] 0 x) (z6u (.v .opq) 1) = zag N x.1 := by kernel_rfl

def zga (N : Nat) : List A -> Res := z1t [(0, .v (.pair .str (.pair (.sl (.pair .str (.pair .str .unit))) (.pair .str .unit))))] (fun x => zag N x.1) (zev (.v .opq) 1)

theorem zqf (N : Nat) : Contract Go.Proofs.Tryd.prog zi 66 (zga N) :=
  Contract.of (E := zef N) (H := zki N) (L := zkj) (N := N) (body := znl) (K := (z6u (.v .opq) 1)) (zoa N) Go.Proofs.Tryd.func66 (by kernel_rfl) (by decide) (fun _ hb => TabOk.nil) (fun x y h => by rw [znk]; exact h) (z1v (s := (.v .opq)) (m := 1))

def z8y : Code := (Go.Proofs.Tryd.f59.body).getD .skip

def zec : List (List Nat × List Nat) := [([0], [0]), ([0, 1], [0, 3]), ([0, 0, 1, 1], [0, 3]), ([0, 1, 0, 1, 1], [0, 3]), ([0, 0, 0, 0, 1, 0, 1, 1], [7, 3, 0]), ([1, 0, 0, 0, 1, 0, 1, 1], [3, 0]), ([1, 1, 0, 0, 0, 1, 0, 1, 1], [3]), ([0, 0, 1, 0, 0, 1, 0, 1, 1], [0, 3]), ([0, 1, 0, 0, 1, 0, 1, 1], [0, 3]), ([1, 1, 0, 0, 1, 0, 1, 1], [0, 3]), ([1, 0, 1, 1], [3]), ([0, 1, 1, 1], [2]), ([1, 1, 1, 1], [2])]

def z9y (N : Nat) : Env := z3q tys zi [] [] [] [] false [] []

theorem zo8 (N : Nat) : EnvOk Go.Proofs.Tryd.prog (z9y N) := zq mixed z1z (FnsOk.nil) (ItsOk.nil)

def zca (N : Nat) (n : Int) (size : Int) (rec : Int -> Int -> Option Int) (k0 : Int -> Option Int) : Option Int :=
 cond (n != (0 : Int))
 (rec (Go.Lift.shrI Go.IntKind.u64 n (7 : Int)) (Go.IntKind.wrap Go.IntKind.i64 (size + (1 : Int))))
 (k0 size)

def zj0 (N : Nat) (n : Int) (size : Int) (k0 : Int -> Option Int) : Option Int :=
 iter (fun (v : (Int × Int)) r => zca N v.1 v.2 (fun n size => (r (n, size))) k0) N (n, size)

def zj2 (N : Nat) (i : Unit) (v : (Int × Int)) (r : (Int × Int) -> Option Int) (K : Ex -> List A -> Option Int) : Option Int :=
 zca N v.1 v.2 (fun n size => (r (n, size))) (fun a0 => (K (.exit 0) (mkS [(3, .v (.int .i64))] 9 (a0, ()))))

def zj1 (N : Nat) : Hd Int := fun st K => (unS [(0, .v (.int .u64)), (2, .v (.int .i64))] 9 (restr [0, 3] 0 st)).bind fun x => iter (fun v r => zj2 N ((fun x => ()) x) v r K) N ((fun x => (x.1, x.2.1)) x)

def zqb (N : Nat) : Tab Int := []

theorem zo7 {N : Nat} {c : Ctx} (hb : Base Go.Proofs.Tryd.prog (z9y N) c) : z16 Go.Proofs.Tryd.prog c (zl z8y [0, 1, 0, 1, 1]) (zj1 N) :=
  z88 (s := [(0, .v (.int .u64)), (2, .v (.int .i64))]) (m := 9) (zj2 N) [0, 3] N (fun x => ()) (fun x => (x.1, x.2.1)) (fun i v => (v.1, v.2, ())) (fun _ => rfl) (zh hb N (zqb N) zec z8y TabOk.nil [0, 0, 1, 0, 1, 1] _ rfl) (fun i v r K => by kernel_rfl)

def zab (N : Nat) (n : Int) : Option Int :=
 zj0 N (Go.Lift.shrI Go.IntKind.u64 n (7 : Int)) (1 : Int)
 (fun size => some size)

def zka (N : Nat) : Tab Int := [([0, 1, 0, 1, 1], zj1 N)]

theorem znh (N : Nat) (x : z2d [(0, .v (.int .u64))]) : zc6 (z9y N) N (zka N) zec Go.Proofs.Tryd.f59 (mkS [(0, .v (.int .u64))] 0 x) (z6u (.v (.int .i64)) 1) = zab N x.1 := by kernel_rfl

def zfz (N : Nat) : List A -> Res := z1t [(0, .v (.int .u64))] (fun x => zab N x.1) (zev (.v (.int .i64)) 1)

theorem zqc (N : Nat) : Contract Go.Proofs.Tryd.prog zi 59 (zfz N) :=
  Contract.of (E := z9y N) (H := zka N) (L := zec) (N := N) (body := z8y) (K := (z6u (.v (.int .i64)) 1)) (zo8 N) Go.Proofs.Tryd.func59 (by kernel_rfl) (by decide) (fun _ hb => (TabOk.cons (zo7 hb) TabOk.nil)) (fun x y h => by rw [znh]; exact h) (z1v (s := (.v (.int .i64))) (m := 1))

def zac : Code := (Go.Proofs.Tryd.f37.body).getD .skip

def zg0 : List (List Nat × List Nat) := [([0], [0]), ([0, 1], [3, 0]), ([0, 1, 1], [3, 4, 0]), ([0, 0, 1, 1, 1], [11, 10, 4, 0, 3]), ([0, 1, 0, 1, 1, 1], [11, 10, 4, 0, 3]), ([0, 0, 0, 1, 0, 1, 1, 1], [12, 11, 4, 0, 10, 3]), ([0, 1, 0, 0, 1, 0, 1, 1, 1], [11, 4, 0, 10, 3]), ([1, 0, 1, 0, 0, 1, 0, 1, 1, 1], [4, 3]), ([0, 0, 0, 1, 1, 0, 0, 1, 0, 1, 1, 1], [4, 5, 0, 11, 10, 3]), ([0, 1, 0, 0, 1, 1, 0, 0, 1, 0, 1, 1, 1], [0, 11, 10, 4, 3]), ([1, 1, 0, 0, 1, 1, 0, 0, 1, 0, 1, 1, 1], [11, 10, 4, 0, 3]), ([0, 1, 1, 0, 0, 1, 0, 1, 1, 1], [11, 10, 4, 0, 3]), ([1, 1, 1, 0, 0, 1, 0, 1, 1, 1], [11, 10, 4, 0, 3]), ([1, 0, 1, 1, 1], [4, 3]), ([0, 1, 1, 1, 1], [4]), ([0, 1, 1, 1, 1, 1], [2]), ([1, 1, 1, 1, 1, 1], [2])]

def zbt (N : Nat) : Env := z3q tys zi [(59, zfz N)] [(4, (.int .u8))] [] [] false [] []

theorem zqe (N : Nat) : EnvOk Go.Proofs.Tryd.prog (zbt N) := zq mixed z1z (FnsOk.cons (zqc N) (FnsOk.nil)) (ItsOk.nil)

def zed (N : Nat) (size : Int) (x10 : Int) (n : Int) (out : (List Int)) (x11 : Int) (rec : Int -> (List Int) -> Int -> Option (List UInt8)) (k0 : (List Int) -> Option (List UInt8)) : Option (List UInt8) :=
 cond (decide (x11 < x10))
 (cond (Go.Lift.inR x11 (List.length out))
 (cond (decide ((Int.toNat x11) < (List.length out)))
 (rec (Go.Lift.shrI Go.IntKind.u64 n (7 : Int)) (List.set out (Int.toNat x11) (Go.Lift.bitsOp Go.BinOp.or Go.IntKind.u8 (Go.IntKind.wrap Go.IntKind.u8 n) (128 : Int))) (Go.IntKind.wrap Go.IntKind.i64 (x11 + (1 : Int))))
 (none))
 (none))
 (k0 out)

def zkb (N : Nat) (n : Int) (size : Int) (out : (List Int)) (x10 : Int) (x11 : Int) (k0 : (List Int) -> Option (List UInt8)) : Option (List UInt8) :=
 iter (fun (v : (Int × (List Int) × Int)) r => zed N size x10 v.1 v.2.1 v.2.2 (fun n out x11 => (r (n, out, x11))) k0) N (n, out, x11)

def zkd (N : Nat) (i : (Int × Int)) (v : (Int × (List Int) × Int)) (r : (Int × (List Int) × Int) -> Option (List UInt8)) (K : Ex -> List A -> Option (List UInt8)) : Option (List UInt8) :=
 zed N i.1 i.2 v.1 v.2.1 v.2.2 (fun n out x11 => (r (n, out, x11))) (fun a1 => (K (.exit 0) (mkS [(3, .v (.int .i64)), (0, .row (.int .u8))] 27 (i.1, a1, ()))))

def zkc (N : Nat) : Hd (List UInt8) := fun st K => (unS [(0, .v (.int .u64)), (2, .v (.int .i64)), (0, .row (.int .u8)), (5, .v (.int .i64)), (0, .v (.int .i64))] 20 (restr [11, 10, 4, 0, 3] 0 st)).bind fun x => iter (fun v r => zkd N ((fun x => (x.2.1, x.2.2.2.1)) x) v r K) N ((fun x => (x.1, x.2.2.1, x.2.2.2.2.1)) x)

def zs6 (N : Nat) : Tab (List UInt8) := []

theorem zqd {N : Nat} {c : Ctx} (hb : Base Go.Proofs.Tryd.prog (zbt N) c) : z16 Go.Proofs.Tryd.prog c (zl zac [0, 1, 0, 1, 1, 1]) (zkc N) :=
  z88 (s := [(0, .v (.int .u64)), (2, .v (.int .i64)), (0, .row (.int .u8)), (5, .v (.int .i64)), (0, .v (.int .i64))]) (m := 20) (zkd N) [11, 10, 4, 0, 3] N (fun x => (x.2.1, x.2.2.2.1)) (fun x => (x.1, x.2.2.1, x.2.2.2.2.1)) (fun i v => (v.1, i.1, v.2.1, i.2, v.2.2, ())) (fun _ => rfl) (zh hb N (zs6 N) zg0 zac TabOk.nil [0, 0, 1, 0, 1, 1, 1] _ rfl) (fun i v r K => by kernel_rfl)

def za5 (N : Nat) (n : Int) : Option (List UInt8) :=
 (zab N n).bind fun y =>
 cond (decide (((0 : Int) <= y) /\ ((y <= y) /\ (((y * (1 : Int)) <= (281474976710656 : Int)) /\ (y <= (9223372036854775807 : Int))))))
 (zkb N n y (List.replicate (Int.toNat y) (0 : Int)) y (0 : Int)
 (fun out => cond (Go.Lift.inR (Go.IntKind.wrap Go.IntKind.i64 (y - (1 : Int))) (List.length out))
 (cond (decide ((Int.toNat (Go.IntKind.wrap Go.IntKind.i64 (y - (1 : Int)))) < (List.length out)))
 (cond (Go.Lift.inR (Go.IntKind.wrap Go.IntKind.i64 (y - (1 : Int))) (List.length out))
 (cond (decide ((Int.toNat (Go.IntKind.wrap Go.IntKind.i64 (y - (1 : Int)))) < (List.length out)))
 (some (Go.Lift.toStr (List.set out (Int.toNat (Go.IntKind.wrap Go.IntKind.i64 (y - (1 : Int)))) (Go.Lift.bitsOp Go.BinOp.andNot Go.IntKind.u8 (List.getD out (Int.toNat (Go.IntKind.wrap Go.IntKind.i64 (y - (1 : Int)))) (0 : Int)) (128 : Int)))))
 (none))
 (none))
 (none))
 (none)))
 (none)

def zml (N : Nat) : Tab (List UInt8) := [([0, 1, 0, 1, 1, 1], zkc N)]

theorem zo9 (N : Nat) (x : z2d [(0, .v (.int .u64))]) : zc6 (zbt N) N (zml N) zg0 Go.Proofs.Tryd.f37 (mkS [(0, .v (.int .u64))] 0 x) (z6u (.v .str) 1) = za5 N x.1 := by kernel_rfl

def zcb (N : Nat) : List A -> Res := z1t [(0, .v (.int .u64))] (fun x => za5 N x.1) (zev (.v .str) 1)

theorem zke (N : Nat) : Contract Go.Proofs.Tryd.prog zi 37 (zcb N) :=
  Contract.of (E := zbt N) (H := zml N) (L := zg0) (N := N) (body := zac) (K := (z6u (.v .str) 1)) (zqe N) Go.Proofs.Tryd.func37 (by kernel_rfl) (by decide) (fun _ hb => (TabOk.cons (zqd hb) TabOk.nil)) (fun x y h => by rw [zo9]; exact h) (z1v (s := (.v .str)) (m := 1))

def zpi : Code := (Go.Proofs.Tryd.f52.body).getD .skip

def zn4 : List (List Nat × List Nat) := [([0], [0]), ([0, 1], [2]), ([1, 1], [2])]

def zhd (N : Nat) : Env := z3q tys zi [(37, zcb N)] [] [] [] false [] []

theorem zqr (N : Nat) : EnvOk Go.Proofs.Tryd.prog (zhd N) := zq mixed z1z (FnsOk.cons (zke N) (FnsOk.nil)) (ItsOk.nil)

def z48 (N : Nat) (s : (List UInt8)) : Option (List UInt8) :=
 (za5 N (Go.IntKind.wrap Go.IntKind.u64 (((List.length s) : Nat) : Int))).bind fun y =>
 cond (decide (((List.length y) + (List.length s)) <= 9223372036854775807))
 (some (y ++ s))
 (none)

def zn3 (N : Nat) : Tab (List UInt8) := []

theorem zph (N : Nat) (x : z2d [(0, .v .str)]) : zc6 (zhd N) N (zn3 N) zn4 Go.Proofs.Tryd.f52 (mkS [(0, .v .str)] 0 x) (z6u (.v .str) 1) = z48 N x.1 := by kernel_rfl

def zja (N : Nat) : List A -> Res := z1t [(0, .v .str)] (fun x => z48 N x.1) (zev (.v .str) 1)

theorem zl7 (N : Nat) : Contract Go.Proofs.Tryd.prog zi 52 (zja N) :=
  Contract.of (E := zhd N) (H := zn3 N) (L := zn4) (N := N) (body := zpi) (K := (z6u (.v .str) 1)) (zqr N) Go.Proofs.Tryd.func52 (by kernel_rfl) (by decide) (fun _ hb => TabOk.nil) (fun x y h => by rw [zph]; exact h) (z1v (s := (.v .str)) (m := 1))

def zqt : Code := (Go.Proofs.Tryd.f20.body).getD .skip

def zpk : List (List Nat × List Nat) := [([0], [0]), ([0, 1], [2]), ([1, 1], [2])]

def zk1 (N : Nat) : Env := z3q tys zi [(37, zcb N)] [] [] [] false [] []

theorem zt3 (N : Nat) : EnvOk Go.Proofs.Tryd.prog (zk1 N) := zq mixed z1z (FnsOk.cons (zke N) (FnsOk.nil)) (ItsOk.nil)

def z7n (N : Nat) (n : Int) : Option (List UInt8) :=
 (za5 N n).bind fun y =>
 some y

def zpj (N : Nat) : Tab (List UInt8) := []

theorem zqs (N : Nat) (x : z2d [(0, .v (.int .u64))]) : zc6 (zk1 N) N (zpj N) zpk Go.Proofs.Tryd.f20 (mkS [(0, .v (.int .u64))] 0 x) (z6u (.v .str) 1) = z7n N x.1 := by kernel_rfl

def za1 (N : Nat) : List A -> Res := z1t [(0, .v (.int .u64))] (fun x => z7n N x.1) (zev (.v .str) 1)

theorem zc5 (N : Nat) : Contract Go.Proofs.Tryd.prog zi 20 (za1 N) :=
  Contract.of (E := zk1 N) (H := zpj N) (L := zpk) (N := N) (body := zqt) (K := (z6u (.v .str) 1)) (zt3 N) Go.Proofs.Tryd.func20 (by kernel_rfl) (by decide) (fun _ hb => TabOk.nil) (fun x y h => by rw [zqs]; exact h) (z1v (s := (.v .str)) (m := 1))

def zah : Code := (Go.Proofs.Tryd.f58.body).getD .skip

def zgb : List (List Nat × List Nat) := [([0], [1]), ([0, 1], [1, 3]), ([0, 1, 1], [1, 3]), ([0, 1, 1, 1], [1, 3]), ([0, 0, 1, 1, 1, 1], [19, 18, 17, 3]), ([0, 1, 0, 1, 1, 1, 1], [19, 18, 17, 3]), ([0, 0, 0, 1, 0, 1, 1, 1, 1], [20, 17, 19, 3, 18]), ([0, 1, 0, 0, 1, 0, 1, 1, 1, 1], [17, 19, 3, 18]), ([1, 0, 1, 0, 0, 1, 0, 1, 1, 1, 1], [3]), ([0, 0, 0, 1, 1, 0, 0, 1, 0, 1, 1, 1, 1], [5, 3, 19, 18, 17]), ([0, 0, 1, 0, 0, 1, 1, 0, 0, 1, 0, 1, 1, 1, 1], [25, 3, 5, 19, 18, 17]), ([1, 0, 1, 0, 0, 1, 1, 0, 0, 1, 0, 1, 1, 1, 1], [3, 5, 19, 18, 17]), ([0, 0, 1, 0, 1, 0, 0, 1, 1, 0, 0, 1, 0, 1, 1, 1, 1], [5, 3, 19, 18, 17]), ([0, 1, 0, 1, 0, 1, 0, 0, 1, 1, 0, 0, 1, 0, 1, 1, 1, 1], [19, 18, 17, 3]), ([1, 1, 0, 1, 0, 1, 0, 0, 1, 1, 0, 0, 1, 0, 1, 1, 1, 1], [19, 18, 17, 3]), ([0, 1, 1, 0, 0, 1, 1, 0, 0, 1, 0, 1, 1, 1, 1], [5, 3, 19, 18, 17]), ([0, 1, 1, 1, 0, 0, 1, 1, 0, 0, 1, 0, 1, 1, 1, 1], [5, 3, 19, 18, 17]), ([1, 1, 1, 1, 0, 0, 1, 1, 0, 0, 1, 0, 1, 1, 1, 1], [19, 18, 17, 3]), ([0, 1, 1, 0, 0, 1, 0, 1, 1, 1, 1], [19, 18, 17, 3]), ([1, 1, 1, 0, 0, 1, 0, 1, 1, 1, 1], [19, 18, 17, 3]), ([1, 0, 1, 1, 1, 1], [3]), ([0, 1, 1, 1, 1, 1], [2]), ([1, 1, 1, 1, 1, 1], [2])]

def zs7 (N : Nat) : Tab (List UInt8) := []

def zqv : Code := (Go.Proofs.Tryd.f22.body).getD .skip

def zpm : List (List Nat × List Nat) := [([0], [0]), ([0, 1], [2]), ([1, 1], [2])]

def zk2 (N : Nat) : Env := z3q tys zi [] [] [] [] false [] []

theorem zt4 (N : Nat) : EnvOk Go.Proofs.Tryd.prog (zk2 N) := zq mixed z1z (FnsOk.nil) (ItsOk.nil)

def zux (N : Nat) (s : (List UInt8)) : Option (Bool × ((List UInt8) × (Int × Unit))) :=
 some (true, (s, ((0 : Int), ())))

def zpl (N : Nat) : Tab (Bool × ((List UInt8) × (Int × Unit))) := []

theorem zqu (N : Nat) (x : z2d [(0, .v .str)]) : zc6 (zk2 N) N (zpl N) zpm Go.Proofs.Tryd.f22 (mkS [(0, .v .str)] 0 x) (z6u (.box (.pair .bool (.pair .str (.pair (.int .i64) .unit)))) 1) = zux N x.1 := by kernel_rfl

def zfe (N : Nat) : List A -> Res := z1t [(0, .v .str)] (fun x => zux N x.1) (zev (.box (.pair .bool (.pair .str (.pair (.int .i64) .unit)))) 1)

theorem zn5 (N : Nat) : Contract Go.Proofs.Tryd.prog zi 22 (zfe N) :=
  Contract.of (E := zk2 N) (H := zpl N) (L := zpm) (N := N) (body := zqv) (K := (z6u (.box (.pair .bool (.pair .str (.pair (.int .i64) .unit)))) 1)) (zt4 N) Go.Proofs.Tryd.func22 (by kernel_rfl) (by decide) (fun _ hb => TabOk.nil) (fun x y h => by rw [zqu]; exact h) (z1v (s := (.box (.pair .bool (.pair .str (.pair (.int .i64) .unit))))) (m := 1))

def z34 : Code := (Go.Proofs.Tryd.f73.body).getD .skip

def z8f : List (List Nat × List Nat) := [([0], [1, 2, 0]), ([0, 0, 1], [22, 0, 1]), ([1, 0, 1], [0, 1]), ([0, 0, 1, 0, 1], [6, 7, 8]), ([1, 0, 1, 0, 1], [6, 7, 8]), ([0, 1, 1], [6, 7, 8]), ([1, 1, 1], [6, 7, 8])]

def z5m (N : Nat) : Env := z3q tys zi [] [] [] [] false [] []

theorem znf (N : Nat) : EnvOk Go.Proofs.Tryd.prog (z5m N) := zq mixed z1z (FnsOk.nil) (ItsOk.nil)

def za9 (N : Nat) (n : Int) (used : Int) (last : Int) (k0 : Bool -> Option (Int × Int × Int × Unit)) : Option (Int × Int × Int × Unit) :=
 cond (decide ((1 : Int) < used))
 (cond (last == (0 : Int))
 (k0 true)
 (cond (used == (10 : Int))
 (k0 (decide ((1 : Int) < last)))
 (k0 false)))
 (cond (used == (10 : Int))
 (k0 (decide ((1 : Int) < last)))
 (k0 false))

def zfx (N : Nat) (x : z2d [(0, .v (.int .u64)), (0, .v (.int .i64)), (0, .v (.int .u8))]) (K : Ex -> List A -> Option (Int × Int × Int × Unit)) : Option (Int × Int × Int × Unit) :=
 za9 N x.1 x.2.1 x.2.2.1 (fun a2 => (K .normal (mkS [(0, .v (.int .u64)), (0, .v (.int .i64)), (20, .v .bool)] 2 (x.1, x.2.1, a2, ()))))

def zfv (N : Nat) : Hd (Int × Int × Int × Unit) := fun st K => (unS [(0, .v (.int .u64)), (0, .v (.int .i64)), (0, .v (.int .u8))] 22 (restr [1, 2, 0] 0 st)).bind fun x => zfx N x K

def zo1 (N : Nat) : Tab (Int × Int × Int × Unit) := []

theorem znd {N : Nat} {c : Ctx} (hb : Base Go.Proofs.Tryd.prog (z5m N) c) : z16 Go.Proofs.Tryd.prog c (zl z34 [0, 0, 1]) (zfv N) :=
  z1n (s := [(0, .v (.int .u64)), (0, .v (.int .i64)), (0, .v (.int .u8))]) (m := 22) (g := zfx N) [1, 2, 0] (zh hb N (zo1 N) z8f z34 TabOk.nil [0, 0, 1] _ rfl) (fun x K => by kernel_rfl)

def zaa (N : Nat) (n : Int) (used : Int) (last : Int) (k0 : Int -> Int -> Int -> Option (Int × Int × Int × Unit)) (k1 : Option (Int × Int × Int × Unit)) : Option (Int × Int × Int × Unit) :=
 za9 N n used last
 (fun x22 => cond x22
 (k0 (0 : Int) (0 : Int) (2 : Int))
 (k1))

def zfy (N : Nat) (x : z2d [(0, .v (.int .u64)), (0, .v (.int .i64)), (0, .v (.int .u8))]) (K : Ex -> List A -> Option (Int × Int × Int × Unit)) : Option (Int × Int × Int × Unit) :=
 zaa N x.1 x.2.1 x.2.2.1 (fun a0 a1 a2 => (K .ret (mkS [(6, .v (.int .u64)), (0, .v (.int .i64)), (0, .v (.int .i64))] 16 (a0, a1, a2, ())))) (K .normal (mkS [(0, .v (.int .u64)), (0, .v (.int .i64))] 23 (x.1, x.2.1, ())))

def zfw (N : Nat) : Hd (Int × Int × Int × Unit) := fun st K => (unS [(0, .v (.int .u64)), (0, .v (.int .i64)), (0, .v (.int .u8))] 22 (restr [1, 2, 0] 0 st)).bind fun x => zfy N x K

def zo2 (N : Nat) : Tab (Int × Int × Int × Unit) := [([0, 0, 1], zfv N)]

theorem zne {N : Nat} {c : Ctx} (hb : Base Go.Proofs.Tryd.prog (z5m N) c) : z16 Go.Proofs.Tryd.prog c (zl z34 [0, 1]) (zfw N) :=
  z1n (s := [(0, .v (.int .u64)), (0, .v (.int .i64)), (0, .v (.int .u8))]) (m := 22) (g := zfy N) [1, 2, 0] (zh hb N (zo2 N) z8f z34 (TabOk.cons (znd hb) TabOk.nil) [0, 1] _ rfl) (fun x K => by kernel_rfl)

def z8i (N : Nat) (n : Int) (used : Int) (last : Int) : Option (Int × Int × Int × Unit) :=
 zaa N n used last
 (fun x6 x7 x8 => some (x6, (x7, (x8, ()))))
 (some (n, (used, ((0 : Int), ()))))

def ziw (N : Nat) : Tab (Int × Int × Int × Unit) := [([0, 1], zfw N)]

theorem zlr (N : Nat) (x : z2d [(0, .v (.int .u64)), (0, .v (.int .i64)), (0, .v (.int .u8))]) : zc6 (z5m N) N (ziw N) z8f Go.Proofs.Tryd.f73 (mkS [(0, .v (.int .u64)), (0, .v (.int .i64)), (0, .v (.int .u8))] 0 x) (z6u (.tup [(.int .u64), (.int .i64), (.int .i64)]) 3) = z8i N x.1 x.2.1 x.2.2.1 := by kernel_rfl

def zfj (N : Nat) : List A -> Res := z1t [(0, .v (.int .u64)), (0, .v (.int .i64)), (0, .v (.int .u8))] (fun x => z8i N x.1 x.2.1 x.2.2.1) (zev (.tup [(.int .u64), (.int .i64), (.int .i64)]) 3)

theorem zo3 (N : Nat) : Contract Go.Proofs.Tryd.prog zi 73 (zfj N) :=
  Contract.of (E := z5m N) (H := ziw N) (L := z8f) (N := N) (body := z34) (K := (z6u (.tup [(.int .u64), (.int .i64), (.int .i64)]) 3)) (znf N) Go.Proofs.Tryd.func73 (by kernel_rfl) (by decide) (fun _ hb => (TabOk.cons (zne hb) TabOk.nil)) (fun x y h => by rw [zlr]; exact h) (z1v (s := (.tup [(.int .u64), (.int .i64), (.int .i64)])) (m := 3))

def z8x : Code := (Go.Proofs.Tryd.f64.body).getD .skip

def zeb : List (List Nat × List Nat) := [([0], [0, 2]), ([0, 0, 1], [9, 8, 2, 0]), ([0, 1, 0, 1], [9, 8, 2, 0]), ([0, 0, 0, 1, 0, 1], [10, 9, 2, 0, 8]), ([0, 1, 0, 0, 1, 0, 1], [9, 2, 0, 8]), ([1, 0, 1, 0, 0, 1, 0, 1], [0]), ([0, 0, 0, 1, 1, 0, 0, 1, 0, 1], [2, 0, 5, 9, 8]), ([0, 1, 0, 0, 1, 1, 0, 0, 1, 0, 1], [0, 5, 2, 9, 8]), ([0, 1, 1, 0, 0, 1, 1, 0, 0, 1, 0, 1], [25, 2, 5, 0, 9, 8]), ([1, 1, 1, 0, 0, 1, 1, 0, 0, 1, 0, 1], [9, 8, 2, 0]), ([0, 0, 1, 1, 1, 0, 0, 1, 1, 0, 0, 1, 0, 1], [2, 3, 4]), ([1, 0, 1, 1, 1, 0, 0, 1, 1, 0, 0, 1, 0, 1], [2, 3, 4]), ([0, 1, 1, 0, 0, 1, 0, 1], [9, 8, 2, 0]), ([1, 1, 1, 0, 0, 1, 0, 1], [9, 8, 2, 0]), ([1, 0, 1], [0]), ([0, 0, 1, 1], [39]), ([1, 0, 1, 1], []), ([0, 0, 1, 0, 1, 1], [2, 3, 4]), ([1, 0, 1, 0, 1, 1], [2, 3, 4]), ([0, 1, 1, 1], [2, 3, 4]), ([1, 1, 1, 1], [2, 3, 4])]

def z9x (N : Nat) : Env := z3q tys zi [(73, zfj N)] [] [] [] false [] []

theorem zo6 (N : Nat) : EnvOk Go.Proofs.Tryd.prog (z9x N) := zq mixed z1z (FnsOk.cons (zo3 N) (FnsOk.nil)) (ItsOk.nil)

def zc9 (N : Nat) (s : (List UInt8)) (x8 : Int) (n : Int) (x9 : Int) (rec : Int -> Int -> Option (Int × Int × Int × Unit)) (k0 : Int -> Int -> Int -> Option (Int × Int × Int × Unit)) (k1 : Option (Int × Int × Int × Unit)) : Option (Int × Int × Int × Unit) :=
 cond (decide (x9 < x8))
 (cond (Go.Lift.inR x9 (List.length s))
 (cond (decide ((0 : Int) <= (Go.IntKind.wrap Go.IntKind.i64 ((7 : Int) * x9))))
 (cond (Go.Lift.inR x9 (List.length s))
 (cond (decide ((((UInt8.toNat (List.getD s (Int.toNat x9) (0 : UInt8))) : Nat) : Int) < (128 : Int)))
 (cond (Go.Lift.inR x9 (List.length s))
 ((z8i N (Go.Lift.bitsOp Go.BinOp.or Go.IntKind.u64 n (Go.Lift.shlI Go.IntKind.u64 (Go.IntKind.wrap Go.IntKind.u64 (Go.Lift.bitsOp Go.BinOp.andNot Go.IntKind.u8 (((UInt8.toNat (List.getD s (Int.toNat x9) (0 : UInt8))) : Nat) : Int) (128 : Int))) (Go.IntKind.wrap Go.IntKind.i64 ((7 : Int) * x9)))) (Go.IntKind.wrap Go.IntKind.i64 (x9 + (1 : Int))) (((UInt8.toNat (List.getD s (Int.toNat x9) (0 : UInt8))) : Nat) : Int)).bind fun y =>
 k0 y.1 y.2.1 y.2.2.1)
 (none))
 (rec (Go.Lift.bitsOp Go.BinOp.or Go.IntKind.u64 n (Go.Lift.shlI Go.IntKind.u64 (Go.IntKind.wrap Go.IntKind.u64 (Go.Lift.bitsOp Go.BinOp.andNot Go.IntKind.u8 (((UInt8.toNat (List.getD s (Int.toNat x9) (0 : UInt8))) : Nat) : Int) (128 : Int))) (Go.IntKind.wrap Go.IntKind.i64 ((7 : Int) * x9)))) (Go.IntKind.wrap Go.IntKind.i64 (x9 + (1 : Int)))))
 (none))
 (none))
 (none))
 (k1)

def zix (N : Nat) (s : (List UInt8)) (n : Int) (x8 : Int) (x9 : Int) (k0 : Int -> Int -> Int -> Option (Int × Int × Int × Unit)) (k1 : Option (Int × Int × Int × Unit)) : Option (Int × Int × Int × Unit) :=
 iter (fun (v : (Int × Int)) r => zc9 N s x8 v.1 v.2 (fun n x9 => (r (n, x9))) k0 k1) N (n, x9)

def ziz (N : Nat) (i : ((List UInt8) × Int)) (v : (Int × Int)) (r : (Int × Int) -> Option (Int × Int × Int × Unit)) (K : Ex -> List A -> Option (Int × Int × Int × Unit)) : Option (Int × Int × Int × Unit) :=
 zc9 N i.1 i.2 v.1 v.2 (fun n x9 => (r (n, x9))) (fun a0 a1 a2 => (K .ret (mkS [(2, .v (.int .u64)), (0, .v (.int .i64)), (0, .v (.int .i64))] 35 (a0, a1, a2, ())))) (K (.exit 0) (mkS [(0, .v .str)] 39 (i.1, ())))

def ziy (N : Nat) : Hd (Int × Int × Int × Unit) := fun st K => (unS [(0, .v .str), (1, .v (.int .u64)), (5, .v (.int .i64)), (0, .v (.int .i64))] 30 (restr [9, 8, 2, 0] 0 st)).bind fun x => iter (fun v r => ziz N ((fun x => (x.1, x.2.2.1)) x) v r K) N ((fun x => (x.2.1, x.2.2.2.1)) x)

def zq9 (N : Nat) : Tab (Int × Int × Int × Unit) := []

theorem zo5 {N : Nat} {c : Ctx} (hb : Base Go.Proofs.Tryd.prog (z9x N) c) : z16 Go.Proofs.Tryd.prog c (zl z8x [0, 1, 0, 1]) (ziy N) :=
  z88 (s := [(0, .v .str), (1, .v (.int .u64)), (5, .v (.int .i64)), (0, .v (.int .i64))]) (m := 30) (ziz N) [9, 8, 2, 0] N (fun x => (x.1, x.2.2.1)) (fun x => (x.2.1, x.2.2.2.1)) (fun i v => (i.1, v.1, i.2, v.2, ())) (fun _ => rfl) (zh hb N (zq9 N) zeb z8x TabOk.nil [0, 0, 1, 0, 1] _ rfl) (fun i v r K => by kernel_rfl)

def z2a (N : Nat) (s : (List UInt8)) : Option (Int × Int × Int × Unit) :=
 zix N s (0 : Int) (if ((10 : Int) < (((List.length s) : Nat) : Int)) then (10 : Int) else (((List.length s) : Nat) : Int)) (0 : Int)
 (fun n used e => some (n, (used, (e, ()))))
 (cond (decide ((10 : Int) <= (((List.length s) : Nat) : Int)))
 (some ((0 : Int), ((0 : Int), ((2 : Int), ()))))
 (some ((0 : Int), ((0 : Int), ((1 : Int), ())))))

def zk9 (N : Nat) : Tab (Int × Int × Int × Unit) := [([0, 1, 0, 1], ziy N)]

theorem zng (N : Nat) (x : z2d [(0, .v .str)]) : zc6 (z9x N) N (zk9 N) zeb Go.Proofs.Tryd.f64 (mkS [(0, .v .str)] 0 x) (z6u (.tup [(.int .u64), (.int .i64), (.int .i64)]) 1) = z2a N x.1 := by kernel_rfl

def zo4 (N : Nat) : List A -> Res := z1t [(0, .v .str)] (fun x => z2a N x.1) (zev (.tup [(.int .u64), (.int .i64), (.int .i64)]) 1)

theorem zqa (N : Nat) : Contract Go.Proofs.Tryd.prog zi 64 (zo4 N) :=
  Contract.of (E := z9x N) (H := zk9 N) (L := zeb) (N := N) (body := z8x) (K := (z6u (.tup [(.int .u64), (.int .i64), (.int .i64)]) 1)) (zo6 N) Go.Proofs.Tryd.func64 (by kernel_rfl) (by decide) (fun _ hb => (TabOk.cons (zo5 hb) TabOk.nil)) (fun x y h => by rw [zng]; exact h) (z1v (s := (.tup [(.int .u64), (.int .i64), (.int .i64)])) (m := 1))

def zf7 : Code := (Go.Proofs.Tryd.f43.body).getD .skip

def z9o : List (List Nat × List Nat) := [([0], [0]), ([0, 1], [2, 0]), ([1, 1], [2, 0])]

def z5g (N : Nat) : Env := z3q tys zi [] [] [] [0] false [] []

theorem zfp (N : Nat) : EnvOk Go.Proofs.Tryd.prog (z5g N) := zq mixed z1z (FnsOk.nil) (ItsOk.nil)

def z1g (N : Nat) (r_ : (Bool × ((List UInt8) × (Int × Unit)))) : Option (Bool × ((Bool × ((List UInt8) × (Int × Unit))) × Unit)) :=
 cond r_.1
 (some ((r_.2.2.1 == (0 : Int)), (r_, ())))
 (some (false, (r_, ())))

def z9n (N : Nat) : Tab (Bool × ((Bool × ((List UInt8) × (Int × Unit))) × Unit)) := []

theorem zf6 (N : Nat) (x : z2d [(0, .box (.pair .bool (.pair .str (.pair (.int .i64) .unit))))]) : zc6 (z5g N) N (z9n N) z9o Go.Proofs.Tryd.f43 (mkS [(0, .box (.pair .bool (.pair .str (.pair (.int .i64) .unit))))] 0 x) (zdq (.v .bool) [(0, .box (.pair .bool (.pair .str (.pair (.int .i64) .unit))))] 0) = z1g N x.1 := by kernel_rfl

def z7w (N : Nat) : List A -> Res := z1t [(0, .box (.pair .bool (.pair .str (.pair (.int .i64) .unit))))] (fun x => z1g N x.1) (zh7 (.v .bool) [(0, .box (.pair .bool (.pair .str (.pair (.int .i64) .unit))))] 0)

theorem z8s (N : Nat) : Contract Go.Proofs.Tryd.prog zi 43 (z7w N) :=
  Contract.of (E := z5g N) (H := z9n N) (L := z9o) (N := N) (body := zf7) (K := (zdq (.v .bool) [(0, .box (.pair .bool (.pair .str (.pair (.int .i64) .unit))))] 0)) (zfp N) Go.Proofs.Tryd.func43 (by kernel_rfl) (by decide) (fun _ hb => TabOk.nil) (fun x y h => by rw [zf6]; exact h) (za0 (s := (.v .bool)) (os := [(0, .box (.pair .bool (.pair .str (.pair (.int .i64) .unit))))]) (m := 0))

def zax : Code := (Go.Proofs.Tryd.f43.body).getD .skip

def z6o : List (List Nat × List Nat) := [([0], [0]), ([0, 1], [2]), ([1, 1], [2])]

def z3c (N : Nat) : Env := z3q tys zi [] [] [] [] false [] []

theorem zbp (N : Nat) : EnvOk Go.Proofs.Tryd.prog (z3c N) := zq mixed z1z (FnsOk.nil) (ItsOk.nil)

def z4c (N : Nat) : Option Bool :=
 some false

def z6n (N : Nat) : Tab Bool := []

theorem zaw (N : Nat) (x : z2d [(0, .nilp)]) : zc6 (z3c N) N (z6n N) z6o Go.Proofs.Tryd.f43 (mkS [(0, .nilp)] 0 x) (z6u (.v .bool) 1) = z4c N := by kernel_rfl

def zbo (N : Nat) : List A -> Res := z1t [(0, .nilp)] (fun x => z4c N) (zev (.v .bool) 1)

theorem z5y (N : Nat) : Contract Go.Proofs.Tryd.prog zi 43 (zbo N) :=
  Contract.of (E := z3c N) (H := z6n N) (L := z6o) (N := N) (body := zax) (K := (z6u (.v .bool) 1)) (zbp N) Go.Proofs.Tryd.func43 (by kernel_rfl) (by decide) (fun _ hb => TabOk.nil) (fun x y h => by rw [zaw]; exact h) (z1v (s := (.v .bool)) (m := 1))

def z2o (N : Nat) : List A -> Res := zmw [(0, .nilp)] (fun x => z4c N) (zev (.v .bool) 1) (z7w N)

theorem z4f (N : Nat) : Contract Go.Proofs.Tryd.prog zi 43 (z2o N) := Contract.alt (z5y N) (z8s N)

def z4d : Code := (Go.Proofs.Tryd.f40.body).getD .skip

def z67 : List (List Nat × List Nat) := [([0], [9, 0, 1]), ([1], [0]), ([0, 1], [0])]

def z3u (N : Nat) : Env := z3q tys zi [(43, z2o N)] [] [] [0] false [] []

theorem zhg (N : Nat) : EnvOk Go.Proofs.Tryd.prog (z3u N) := zq mixed z1z (FnsOk.cons (z4f N) (FnsOk.nil)) (ItsOk.nil)

def z1y (N : Nat) (r_ : (Bool × ((List UInt8) × (Int × Unit)))) (e : Int) (k0 : (Bool × ((List UInt8) × (Int × Unit))) -> Bool -> Option ((Unit) × ((Bool × ((List UInt8) × (Int × Unit))) × Unit))) : Option ((Unit) × ((Bool × ((List UInt8) × (Int × Unit))) × Unit)) :=
 (z1g N r_).bind fun y =>
 cond y.1
 (k0 y.2.1 (e != (0 : Int)))
 (k0 y.2.1 false)

def z9r (N : Nat) (x : z2d [(0, .box (.pair .bool (.pair .str (.pair (.int .i64) .unit)))), (0, .v (.int .i64))]) (K : Ex -> List A -> Option ((Unit) × ((Bool × ((List UInt8) × (Int × Unit))) × Unit))) : Option ((Unit) × ((Bool × ((List UInt8) × (Int × Unit))) × Unit)) :=
 z1y N x.1 x.2.1 (fun a0 a2 => (K .normal (mkS [(0, .box (.pair .bool (.pair .str (.pair (.int .i64) .unit)))), (0, .v (.int .i64)), (7, .v .bool)] 7 (a0, x.2.1, a2, ()))))

def z9q (N : Nat) : Hd ((Unit) × ((Bool × ((List UInt8) × (Int × Unit))) × Unit)) := fun st K => (unS [(0, .box (.pair .bool (.pair .str (.pair (.int .i64) .unit)))), (0, .v (.int .i64))] 15 (restr [0, 1] 0 st)).bind fun x => z9r N x K

def zin (N : Nat) : Tab ((Unit) × ((Bool × ((List UInt8) × (Int × Unit))) × Unit)) := []

theorem zhf {N : Nat} {c : Ctx} (hb : Base Go.Proofs.Tryd.prog (z3u N) c) : z16 Go.Proofs.Tryd.prog c (zl z4d [0]) (z9q N) :=
  z1n (s := [(0, .box (.pair .bool (.pair .str (.pair (.int .i64) .unit)))), (0, .v (.int .i64))]) (m := 15) (g := z9r N) [0, 1] (zh hb N (zin N) z67 z4d TabOk.nil [0] _ rfl) (fun x K => by kernel_rfl)

def zk (N : Nat) (r_ : (Bool × ((List UInt8) × (Int × Unit)))) (e : Int) : Option ((Unit) × ((Bool × ((List UInt8) × (Int × Unit))) × Unit)) :=
 z1y N r_ e
 (fun r_1 x9 => cond x9
 (some ((), ((r_1.1, (([] : List UInt8), (e, r_1.2.2.2))), ())))
 (some ((), (r_1, ()))))

def zb1 (N : Nat) : Tab ((Unit) × ((Bool × ((List UInt8) × (Int × Unit))) × Unit)) := [([0], z9q N)]

theorem zfs (N : Nat) (x : z2d [(0, .box (.pair .bool (.pair .str (.pair (.int .i64) .unit)))), (0, .v (.int .i64))]) : zc6 (z3u N) N (zb1 N) z67 Go.Proofs.Tryd.f40 (mkS [(0, .box (.pair .bool (.pair .str (.pair (.int .i64) .unit)))), (0, .v (.int .i64))] 0 x) (zdq (.tup []) [(0, .box (.pair .bool (.pair .str (.pair (.int .i64) .unit))))] 1) = zk N x.1 x.2.1 := by kernel_rfl

def z8u (N : Nat) : List A -> Res := z1t [(0, .box (.pair .bool (.pair .str (.pair (.int .i64) .unit)))), (0, .v (.int .i64))] (fun x => zk N x.1 x.2.1) (zh7 (.tup []) [(0, .box (.pair .bool (.pair .str (.pair (.int .i64) .unit))))] 1)

theorem z9s (N : Nat) : Contract Go.Proofs.Tryd.prog zi 40 (z8u N) :=
  Contract.of (E := z3u N) (H := zb1 N) (L := z67) (N := N) (body := z4d) (K := (zdq (.tup []) [(0, .box (.pair .bool (.pair .str (.pair (.int .i64) .unit))))] 1)) (zhg N) Go.Proofs.Tryd.func40 (by kernel_rfl) (by decide) (fun _ hb => (TabOk.cons (zhf hb) TabOk.nil)) (fun x y h => by rw [zfs]; exact h) (za0 (s := (.tup [])) (os := [(0, .box (.pair .bool (.pair .str (.pair (.int .i64) .unit))))]) (m := 1))

def z2p : Code := (Go.Proofs.Tryd.f40.body).getD .skip

def z3t : List (List Nat × List Nat) := [([0], [9, 0, 1]), ([1], []), ([0, 1], [])]

def z2f (N : Nat) : Env := z3q tys zi [(43, z2o N)] [] [] [] false [] []

theorem zcv (N : Nat) : EnvOk Go.Proofs.Tryd.prog (z2f N) := zq mixed z1z (FnsOk.cons (z4f N) (FnsOk.nil)) (ItsOk.nil)

def z6p (N : Nat) (e : Int) (k0 : Bool -> Option (Unit)) : Option (Unit) :=
 k0 false

def z6r (N : Nat) (x : z2d [(0, .nilp), (0, .v (.int .i64))]) (K : Ex -> List A -> Option (Unit)) : Option (Unit) :=
 z6p N x.2.1 (fun a1 => (K .normal (mkS [(0, .nilp), (0, .v (.int .i64)), (7, .v .bool)] 7 ((), x.2.1, a1, ()))))

def z6q (N : Nat) : Hd (Unit) := fun st K => (unS [(0, .nilp), (0, .v (.int .i64))] 15 (restr [0, 1] 0 st)).bind fun x => z6r N x K

def zdx (N : Nat) : Tab (Unit) := []

theorem zcu {N : Nat} {c : Ctx} (hb : Base Go.Proofs.Tryd.prog (z2f N) c) : z16 Go.Proofs.Tryd.prog c (zl z2p [0]) (z6q N) :=
  z1n (s := [(0, .nilp), (0, .v (.int .i64))]) (m := 15) (g := z6r N) [0, 1] (zh hb N (zdx N) z3t z2p TabOk.nil [0] _ rfl) (fun x K => by kernel_rfl)

def z4q (N : Nat) (e : Int) : Option (Unit) :=
 z6p N e
 (fun x9 => cond x9
 (none)
 (some ()))

def z7c (N : Nat) : Tab (Unit) := [([0], z6q N)]

theorem zbs (N : Nat) (x : z2d [(0, .nilp), (0, .v (.int .i64))]) : zc6 (z2f N) N (z7c N) z3t Go.Proofs.Tryd.f40 (mkS [(0, .nilp), (0, .v (.int .i64))] 0 x) (z6u (.tup []) 2) = z4q N x.2.1 := by kernel_rfl

def zct (N : Nat) : List A -> Res := z1t [(0, .nilp), (0, .v (.int .i64))] (fun x => z4q N x.2.1) (zev (.tup []) 2)

theorem zdy (N : Nat) : Contract Go.Proofs.Tryd.prog zi 40 (zct N) :=
  Contract.of (E := z2f N) (H := z7c N) (L := z3t) (N := N) (body := z2p) (K := (z6u (.tup []) 2)) (zcv N) Go.Proofs.Tryd.func40 (by kernel_rfl) (by decide) (fun _ hb => (TabOk.cons (zcu hb) TabOk.nil)) (fun x y h => by rw [zbs]; exact h) (z1v (s := (.tup [])) (m := 2))

def z1k (N : Nat) : List A -> Res := zmw [(0, .nilp), (0, .v (.int .i64))] (fun x => z4q N x.2.1) (zev (.tup []) 2) (z8u N)

theorem z1w (N : Nat) : Contract Go.Proofs.Tryd.prog zi 40 (z1k N) := Contract.alt (zdy N) (z9s N)

abbrev RdrT : T := .pair .bool (.pair .str (.pair (.int .i64) .unit))

def Rdr (w : World) (S : Hp) (b : Nat) (x : RdrT.den) : Prop := Sub S (hp w) /\ S b = none /\ ∃ E fr, w.heap[b]? = some (.cells #[.bool x.1, .string ⟨⟨x.2.1⟩⟩, .int .i64 x.2.2.1] E fr) /\ Free #[Value.bool x.1, .string ⟨⟨x.2.1⟩⟩, .int .i64 x.2.2.1] fr

def Fine (w : World) (S : Hp) (b : Nat) (x : RdrT.den) (w' : World) : Prop :=
 ∃ S', WF w (fun k => k = b) w' /\ Sub S S' /\ (∀ k, S' k ≠ none -> S k ≠ none \/ w.heap.size <= k) /\ Rdr w' S' b x

theorem zsm {h S : Hp} {tv : Nat -> Value} {x : RdrT.den} {v : Value} {o : List Nat} (hx : ARel h S tv (.box RdrT x) v o) :
    ∃ b E fr, o = [b] /\ v = .pointer (some ⟨b, 0, none⟩) /\ h b = some (.cells #[.bool x.1, .string ⟨⟨x.2.1⟩⟩, .int .i64 x.2.2.1] E fr) /\ Free #[Value.bool x.1, .string ⟨⟨x.2.1⟩⟩, .int .i64 x.2.2.1] fr := by
  obtain ⟨b, cs, E, fr, bs, e, e', hb, hf, hr⟩ := hx
  obtain ⟨e1, c1, c2, hc, h1, c3, c4, hc', h2, c5, c6, hc'', h3, h4⟩ := RdO.rd RdrT x _ _ rfl hr
  have k1 : c1 = [.bool x.1] := h1
  have k2 : c3 = [.string ⟨⟨x.2.1⟩⟩] := h2
  have k3 : c5 = [.int .i64 x.2.2.1] := h3
  have k4 : c6 = [] := h4
  have hcs : cs = #[.bool x.1, .string ⟨⟨x.2.1⟩⟩, .int .i64 x.2.2.1] := by
    apply Array.toList_inj.1
    rw [hc, hc', hc'', k1, k2, k3, k4]
    rfl
  subst hcs
  subst e1
  exact ⟨b, E, fr, e, e', hb, hf⟩

theorem zxz {h S : Hp} {tv : Nat -> Value} {x : RdrT.den} {b E : Nat} {fr : Nat × Nat} (hb : h b = some (.cells #[.bool x.1, .string ⟨⟨x.2.1⟩⟩, .int .i64 x.2.2.1] E fr)) (hf : Free #[Value.bool x.1, .string ⟨⟨x.2.1⟩⟩, .int .i64 x.2.2.1] fr) :
    ARel h S tv (.box RdrT x) (.pointer (some ⟨b, 0, none⟩)) [b] := by
  refine ⟨b, _, E, fr, [], rfl, rfl, hb, hf, RdO.of_rd RdrT x _ ?_⟩
  exact ⟨[.bool x.1], _, rfl, rfl, [.string ⟨⟨x.2.1⟩⟩], _, rfl, rfl, [.int .i64 x.2.2.1], [], rfl, rfl, rfl⟩

theorem z12z {w w' : World} {S : Hp} {b : Nat} {x x' : RdrT.den} {args : List A} {vals : List Value} {ob : Nat -> List Nat} {r : A} {outs : List A} {e : Ending}
    (h0 : args[0]? = some (.box RdrT x)) (h1 : vals[0]? = some (.pointer (some ⟨b, 0, none⟩))) (h2 : ∀ i k, k ∈ ob i -> k = b) (h3 : outs[0]? = some (.box RdrT x'))
    (h : Lift.Ends w S args vals ob r outs e w') : ∃ v o S', e = .returned v /\ ARel (hp w') S' (fun _ => undef) r v o /\ Fine w S b x' w' := by
  obtain ⟨v, S', o, ob', rfl, hwf, hSS, hSw, hnew, ⟨hr, _⟩, _, _, houts, hob, _⟩ := h
  obtain ⟨x1, v1, e1, e2, _, hA⟩ := houts 0 _ h0 rfl
  rw [h3] at e1
  rw [h1] at e2
  cases e1
  cases e2
  obtain ⟨b', E, fr, hb', hv', hcell, hfree⟩ := zsm hA
  cases hv'
  have hnone : S' b = none := (hob 0 b (by rw [hb']; exact List.mem_singleton.2 rfl)).2.1
  refine ⟨v, o, S', rfl, hr, S', ⟨hwf.size, fun k hk hn => hwf.same k hk (fun ⟨i, hi⟩ => hn (h2 i k hi)), hwf.tape, hwf.os, hwf.output⟩, hSS, fun k hk => ?_, hSw, hnone, E, fr, hcell, hfree⟩
  rcases hnew k hk with h | ⟨i, hi⟩ | h
  . exact .inl h
  . rw [h2 i k hi] at hk
    exact absurd hnone hk
  . exact .inr h

def obR (b : Nat) : Nat -> List Nat := fun i => if i = 0 then [b] else []

theorem zw6 {b : Nat} : ∀ i k, k ∈ obR b i -> k = b := by
  intro i k h
  unfold obR at h
  split at h
  . exact List.mem_singleton.1 h
  . cases h

theorem zy0 {w : World} {S : Hp} {b : Nat} {x : RdrT.den} (h : Rdr w S b x) (l : List (A × Value)) (hl : ∀ p ∈ l, ARel (hp w) S (fun _ => undef) p.1 p.2 [] /\ p.1.refs = []) :
    ArgsRel (hp w) S (.box RdrT x :: l.map (·.1)) (.pointer (some ⟨b, 0, none⟩) :: l.map (·.2)) (obR b) := by
  obtain ⟨hS, hn, E, fr, hc, hf⟩ := h
  refine ⟨by simp, fun i y hy => ?_, fun i hi => ?_, fun i j k hi hj => ?_, fun i => ?_, fun i k hk => ?_⟩
  . match i with
    | 0 =>
      simp at hy
      subst hy
      exact ⟨⟨_, rfl, zxz hc hf⟩, rfl⟩
    | i + 1 =>
      simp only [List.getElem?_cons_succ, List.getElem?_map] at hy ⊢
      cases hp : l[i]? with
      | none => rw [hp] at hy; cases hy
      | some p =>
        rw [hp] at hy
        cases hy
        have := hl p (List.mem_of_getElem? hp)
        exact ⟨⟨p.2, rfl, this.1⟩, this.2⟩
  . have : i ≠ 0 := by
      intro h0
      subst h0
      simp at hi
    unfold obR
    rw [if_neg this]
  . unfold obR at hi hj
    split at hi
    . split at hj
      . omega
      . cases hj
    . cases hi
  . unfold obR
    split
    . exact List.nodup_cons.2 ⟨by simp, List.nodup_nil⟩
    . exact List.nodup_nil
  . rw [zw6 i k hk]
    exact hn

theorem z8r (S : Hp) : GlobOk zi S := fun g d h => by cases h

theorem z46 (N : Nat) {w : World} {S : Hp} {b : Nat} {x : RdrT.den} (h : Rdr w S b x) :
    Calls Tryd.prog 43 #[.pointer (some ⟨b, 0, none⟩)] w fun r w' => r = .returned (.bool (x.1 && (x.2.2.1 == 0))) /\ Fine w S b x w' := by
  have hy : z1g N x = some (x.1 && (x.2.2.1 == 0), (x, ())) := by
    unfold z1g
    cases x.1 <;> rfl
  have hc := (z8s N).2 w S _ _ _ (zy0 h [] (fun _ hp => by cases hp)) h.1 (z8r S) _ hy
  refine hc.mono ?_
  intro e w' he
  obtain ⟨v, o, S', rfl, hr, hf⟩ := z12z rfl rfl zw6 rfl he
  exact ⟨by rw [VR.bool_inv hr.1], hf⟩

def zpn (x : RdrT.den) (e : Int) : RdrT.den := cond (x.1 && (x.2.2.1 == 0) && (e != 0)) (x.1, [], e, ()) x

theorem zl8 (N : Nat) {w : World} {S : Hp} {b : Nat} {x : RdrT.den} (h : Rdr w S b x) (e : Int) :
    Calls Tryd.prog 40 #[.pointer (some ⟨b, 0, none⟩), .int .i64 e] w fun r w' => (∃ v, r = .returned v) /\ Fine w S b (zpn x e) w' := by
  have hy : zk N x e = some ((), (zpn x e, ())) := by
    have hr : z1g N x = some (x.1 && (x.2.2.1 == 0), (x, ())) := by
      unfold z1g
      cases x.1 <;> rfl
    unfold zk z1y zpn
    rw [hr, Option.bind_some]
    cases (x.1 && (x.2.2.1 == 0)) <;> cases (e != 0) <;> rfl
  have hc := (z9s N).2 w S _ _ _ (zy0 h [(.v (.int .i64) e, .int .i64 e)] (fun p hp => by
    rw [List.mem_singleton.1 hp]; exact ⟨⟨VR.int, rfl⟩, rfl⟩)) h.1 (z8r S) _ hy
  refine hc.mono ?_
  intro r w' he
  obtain ⟨v, o, S', rfl, hr, hf⟩ := z12z rfl rfl zw6 rfl he
  exact ⟨⟨v, rfl⟩, hf⟩

theorem zvn {S : Hp} {d : Dat} {l : List Dat} {vs : List Value} (h : TupRel S (d :: l) vs) : ∃ v w, vs = v :: w /\ VR S d.1 d.2 v /\ TupRel S l w := by
  cases h with
  | cons a b => exact ⟨_, _, rfl, a, b⟩

theorem zoi (N : Nat) {w : World} {S : Hp} (hS : Sub S (hp w)) {s : List UInt8} {y : Int × Int × Int × Unit} (hy : z2a N s = some y) :
    Calls Tryd.prog 64 #[.string ⟨⟨s⟩⟩] w fun r w' => r = .returned (.tuple #[.int .u64 y.1, .int .i64 y.2.1, .int .i64 y.2.2.1]) ∧
      ∃ S', WF w (fun _ => False) w' /\ Sub S S' /\ Sub S' (hp w') /\ ∀ k, S' k ≠ none -> S k ≠ none \/ w.heap.size <= k := by
  have h := (zqa N).2 w S (mkS [(0, .v .str)] 0 (s, ())) [.string ⟨⟨s⟩⟩] (fun _ => []) ⟨rfl, fun i x hx => ?_, fun _ _ => rfl, (fun i j b hb => by cases hb), fun _ => .nil, (fun i b hb => by cases hb)⟩ hS (z8r S) y hy
  . refine h.mono ?_
    rintro r w' ⟨v, S', o, ob', rfl, hwf, h3, h4, h5, ⟨⟨_, ⟨vs⟩, rfl, ht⟩, _⟩, _⟩
    refine ⟨?_, S', ⟨hwf.size, fun k hk _ => hwf.same k hk (by rintro ⟨i, hi⟩; cases hi), hwf.tape, hwf.os, hwf.output⟩, h3, h4, fun b hb => ?_⟩
    . obtain ⟨n, u, e, _⟩ := y
      have ht : TupRel S' [⟨.int .u64, n⟩, ⟨.int .i64, u⟩, ⟨.int .i64, e⟩] vs := ht
      obtain ⟨v1, w1, rfl, q1, ht⟩ := zvn ht
      obtain ⟨v2, w2, rfl, q2, ht⟩ := zvn ht
      obtain ⟨v3, w3, rfl, q3, ht⟩ := zvn ht
      have e0 : w3 = [] := by cases ht; rfl
      subst e0
      rw [VR.int_inv q1, VR.int_inv q2, VR.int_inv q3]
    . rcases h5 b hb with h | ⟨i, hi⟩ | h
      . exact .inl h
      . cases hi
      . exact .inr h
  . match i with
    | 0 => simp [mkS, zbc, AS.mk] at hx; subst hx; exact ⟨⟨_, rfl, VR.str, rfl⟩, rfl⟩
    | i + 1 => simp [mkS, zbc] at hx

theorem zvq (s : List UInt8) (i j : Nat) : (⟨⟨s⟩⟩ : ByteArray).extract i j = ⟨⟨(s.drop i).take (j - i)⟩⟩ := by
  apply ByteArray.ext
  rw [ByteArray.data_extract]
  apply Array.toList_inj.1
  rw [Array.toList_extract]

theorem ztu {w : World} {b : Nat} {s : List UInt8} {n : Int} (c1 : w.cell? ⟨b, 1, none⟩ = some (.string ⟨⟨s⟩⟩)) (z1 : w.frozen? ⟨b, 1, none⟩ = false) (hn : 0 <= n) (hle : n <= Go.IntKind.wrap .u64 s.length) (hl : n <= s.length) :
    Calls Tryd.prog 63 #[.pointer (some ⟨b, 0, none⟩), .int .u64 n] w fun r w' => r = .returned (.string ⟨⟨s.take n.toNat⟩⟩) /\ w' = w.setCell ⟨b, 1, none⟩ (.string ⟨⟨s.drop n.toNat⟩⟩) := by
  go_enter Tryd.func63, Tryd.ntmps63
  go_wp2
  go_ret
  rw [zvq, zvq]
  refine ⟨?_, ?_⟩
  . simp
  . rw [List.take_of_length_le (by rw [List.length_drop]; omega)]

theorem ztv {w : World} {b : Nat} {s : List UInt8} {n : Int} (c1 : w.cell? ⟨b, 1, none⟩ = some (.string ⟨⟨s⟩⟩)) (z1 : w.frozen? ⟨b, 1, none⟩ = false) (hle : ¬ n <= Go.IntKind.wrap .u64 s.length) :
    Calls Tryd.prog 63 #[.pointer (some ⟨b, 0, none⟩), .int .u64 n] w fun r w' => r = .panicked [{ v := .iface 30 (.int .i64 1), recovered := false }] /\ w' = w := by
  go_enter Tryd.func63, Tryd.ntmps63
  go_wp2
  exact ⟨rfl, rfl, rfl⟩

theorem zw7 {w : World} {b : Nat} {s : List UInt8} {most n u e : Int} {R : World -> Prop} (c1 : w.cell? ⟨b, 1, none⟩ = some (.string ⟨⟨s⟩⟩))
    (hc : Calls Tryd.prog 64 #[.string ⟨⟨s⟩⟩] w fun r w1 => r = .returned (.tuple #[.int .u64 n, .int .i64 u, .int .i64 e]) /\ R w1)
    (hR : ∀ w1, R w1 -> w1.cell? ⟨b, 1, none⟩ = some (.string ⟨⟨s⟩⟩) /\ w1.frozen? ⟨b, 1, none⟩ = false)
    (he : e = 0) (hm : n <= most) (hu : 0 <= u) (hl : u <= s.length) :
    Calls Tryd.prog 44 #[.pointer (some ⟨b, 0, none⟩), .int .u64 most] w fun r w' => r = .returned (.int .u64 n) /\ ∃ w1, R w1 /\ w' = w1.setCell ⟨b, 1, none⟩ (.string ⟨⟨s.drop u.toNat⟩⟩) := by
  subst he
  go_enter Tryd.func44, Tryd.ntmps44
  go_wp2_with (go_at_call 64; refine hc.mono ?_; rintro r w1 ⟨rfl, hr1⟩; obtain ⟨d1, z1⟩ := hR w1 hr1; clear hc hR)
  go_ret
  rw [zvq]
  refine ⟨rfl, w1, hr1, ?_⟩
  rw [List.take_of_length_le (by rw [List.length_drop]; omega)]

theorem zw8 {w : World} {b : Nat} {s : List UInt8} {most n u e : Int} {R : World -> Prop} (c1 : w.cell? ⟨b, 1, none⟩ = some (.string ⟨⟨s⟩⟩))
    (hc : Calls Tryd.prog 64 #[.string ⟨⟨s⟩⟩] w fun r w1 => r = .returned (.tuple #[.int .u64 n, .int .i64 u, .int .i64 e]) /\ R w1) (he : e ≠ 0) :
    Calls Tryd.prog 44 #[.pointer (some ⟨b, 0, none⟩), .int .u64 most] w fun r w' => r = .panicked [{ v := .iface 30 (.int .i64 e), recovered := false }] /\ R w' := by
  go_enter Tryd.func44, Tryd.ntmps44
  go_wp2_with (go_at_call 64; refine hc.mono ?_; rintro r w1 ⟨rfl, hr1⟩; clear hc)
  exact ⟨rfl, rfl, hr1⟩

theorem zw9 {w : World} {b : Nat} {s : List UInt8} {most n u e : Int} {R : World -> Prop} (c1 : w.cell? ⟨b, 1, none⟩ = some (.string ⟨⟨s⟩⟩))
    (hc : Calls Tryd.prog 64 #[.string ⟨⟨s⟩⟩] w fun r w1 => r = .returned (.tuple #[.int .u64 n, .int .i64 u, .int .i64 e]) /\ R w1) (he : e = 0) (hm : ¬ n <= most) :
    Calls Tryd.prog 44 #[.pointer (some ⟨b, 0, none⟩), .int .u64 most] w fun r w' => r = .panicked [{ v := .iface 30 (.int .i64 3), recovered := false }] /\ R w' := by
  subst he
  go_enter Tryd.func44, Tryd.ntmps44
  go_wp2_with (go_at_call 64; refine hc.mono ?_; rintro r w1 ⟨rfl, hr1⟩; clear hc)
  exact ⟨rfl, rfl, hr1⟩

theorem caught_idle {w : World} {p : Value} :
    Calls Tryd.prog 42 #[p, .nilIface] w fun r w' => (∃ v, r = .returned v) /\ w' = w := by
  have ha : ∀ W : World, (Instr.typeAssert .nilIface 20 30 true).run Tryd.prog W = .ok (.tuple #[.int .i64 0, .bool false]) W := fun W => by kernel_rfl
  go_enter Tryd.func42, Tryd.ntmps42
  go_wp2
  go_end0
  exact ⟨⟨_, rfl⟩, rfl⟩

theorem zmj {w : World} {p : Value} {e : Int} {R : World -> Prop}
    (hc : Calls Tryd.prog 40 #[p, .int .i64 e] w fun r w1 => (∃ v, r = .returned v) /\ R w1) :
    Calls Tryd.prog 42 #[p, .iface 30 (.int .i64 e)] w fun r w' => (∃ v, r = .returned v) /\ R w' := by
  have ha : ∀ W : World, (Instr.typeAssert (.iface 30 (.int .i64 e)) 20 30 true).run Tryd.prog W = .ok (.tuple #[.int .i64 e, .bool true]) W := fun W => by kernel_rfl
  go_enter Tryd.func42, Tryd.ntmps42
  go_wp2_with (go_at_call 40; refine hc.mono ?_; rintro r w1 ⟨⟨v, rfl⟩, hr1⟩; clear hc)
  go_end0
  exact ⟨⟨_, rfl⟩, hr1⟩

theorem z33 {P : Program} {Q : Exit -> Act -> List Frame -> World -> Prop} {a : Act} {cs : List Frame} {w : World} {id : Nat} {ops : Array Oper}
    (h : ∀ t, wpOpsS P ops Q (Region.schedule (P.follows .mixedOrders) ops t) a cs { w with drawn := w.drawn + 1 }) : (Code.region id ops true).wpS P Q a cs w :=
  fun b k hb hr => let ⟨e, a', cs', w', q, r⟩ := wp_opsS _ a cs _ (h _) b k hb hr; ⟨e, a', cs', w', q, .of_steps (.one step_region_draw) r⟩

def zcg : Array Oper := match Tryd.f72.body with
  | some (.region _ ops _) => ops
  | _ => #[]

theorem zug (t : Nat) : Region.schedule true zcg t = [0, 1, 2] \/ Region.schedule true zcg t = [1, 0, 2] := by
  have h0 : Region.schedule true zcg t = (match ([0, 1] : List Nat)[t % 2]? with | some i => Region.linearise.go .any zcg 2 (t / 2) ((Array.replicate 3 false).setIfInBounds i true) [i] | none => []) := by kernel_rfl
  have h1 : ∀ u, Region.linearise.go .any zcg 2 u #[true, false, false] [0] = (match ([1] : List Nat)[u % 1]? with | some i => Region.linearise.go .any zcg 1 (u / 1) (#[true, false, false].setIfInBounds i true) [i, 0] | none => [0]) := fun u => by kernel_rfl
  have h2 : ∀ u, Region.linearise.go .any zcg 1 u #[true, true, false] [1, 0] = (match ([2] : List Nat)[u % 1]? with | some i => [0, 1, i] | none => [0, 1]) := fun u => by kernel_rfl
  have h3 : ∀ u, Region.linearise.go .any zcg 2 u #[false, true, false] [1] = (match ([0] : List Nat)[u % 1]? with | some i => Region.linearise.go .any zcg 1 (u / 1) (#[false, true, false].setIfInBounds i true) [i, 1] | none => [1]) := fun u => by kernel_rfl
  have h4 : ∀ u, Region.linearise.go .any zcg 1 u #[true, true, false] [0, 1] = (match ([2] : List Nat)[u % 1]? with | some i => [1, 0, i] | none => [1, 0]) := fun u => by kernel_rfl
  rcases Nat.mod_two_eq_zero_or_one t with h | h
  . left
    rw [h0, h]
    have e1 := h1 (t / 2)
    rw [Nat.mod_one] at e1
    have e2 := h2 (t / 2 / 1)
    rw [Nat.mod_one] at e2
    exact e1.trans e2
  . right
    rw [h0, h]
    have e1 := h3 (t / 2)
    rw [Nat.mod_one] at e1
    have e2 := h4 (t / 2 / 1)
    rw [Nat.mod_one] at e2
    exact e1.trans e2

theorem zy2 {w : World} {n : Nat} {p : Value} (hc : w.cell? ⟨n, 0, none⟩ = some p) :
    CallsD Tryd.prog 72 #[.pointer (some ⟨n, 0, none⟩)] .returning w fun e u w' => (∃ v, e = .returned v) /\ u = .returning /\ w' = w.drew := by
  refine callsD_of_wpS Tryd.func72 rfl fun c₀ cs hu => ?_
  apply z33
  intro t
  have hm : Tryd.prog.follows .mixedOrders = true := mixed
  rw [hm]
  generalize hl : Region.schedule true _ t = l
  have hl2 : l = [0, 1, 2] \/ l = [1, 0, 2] := by rw [<- hl]; exact zug t
  clear hl
  simp only [Tryd.ntmps72, List.size_toArray, List.length_cons, List.length_nil, Nat.reduceAdd, Nat.reduceSub, Array.replicate_succ,
     Array.replicate_zero, List.push_toArray, List.append_toArray, List.nil_append, List.cons_append]
  rcases hl2 with rfl | rfl
  . simp [wpOpsS, go_sem, recoverD, hu, hc, Exit.thenS]
    refine caught_idle.mono ?_
    rintro r w' ⟨⟨v, rfl⟩, rfl⟩
    cases c₀
    simp_all [bodyPostS, results, Tryd.results72]
  . simp [wpOpsS, go_sem, recoverD, hu, hc, Exit.thenS]
    refine caught_idle.mono ?_
    rintro r w' ⟨⟨v, rfl⟩, rfl⟩
    cases c₀
    simp_all [bodyPostS, results, Tryd.results72]

theorem zzh {w : World} {n : Nat} {p : Value} {e : Int} {R : World -> Prop} (hc : w.cell? ⟨n, 0, none⟩ = some p)
    (hf : Calls Tryd.prog 40 #[p, .int .i64 e] w.drew fun r w1 => (∃ v, r = .returned v) /\ R w1) :
    CallsD Tryd.prog 72 #[.pointer (some ⟨n, 0, none⟩)] (.panicking [{ v := .iface 30 (.int .i64 e), recovered := false }]) w fun r u w' =>
      (∃ v, r = .returned v) /\ u = .panicking [{ v := .iface 30 (.int .i64 e), recovered := true }] /\ R w' := by
  refine callsD_of_wpS Tryd.func72 rfl fun c₀ cs hu => ?_
  apply z33
  intro t
  have hm : Tryd.prog.follows .mixedOrders = true := mixed
  rw [hm]
  generalize hl : Region.schedule true _ t = l
  have hl2 : l = [0, 1, 2] \/ l = [1, 0, 2] := by rw [<- hl]; exact zug t
  clear hl
  simp only [Tryd.ntmps72, List.size_toArray, List.length_cons, List.length_nil, Nat.reduceAdd, Nat.reduceSub, Array.replicate_succ,
     Array.replicate_zero, List.push_toArray, List.append_toArray, List.nil_append, List.cons_append]
  have hk := zmj hf
  rcases hl2 with rfl | rfl
  . simp [wpOpsS, go_sem, recoverD, hu, hc, Exit.thenS]
    refine hk.mono ?_
    rintro r w' ⟨⟨v, rfl⟩, hr⟩
    cases c₀
    simp_all [bodyPostS, results, Tryd.results72]
  . simp [wpOpsS, go_sem, recoverD, hu, hc, Exit.thenS]
    refine hk.mono ?_
    rintro r w' ⟨⟨v, rfl⟩, hr⟩
    cases c₀
    simp_all [bodyPostS, results, Tryd.results72]

def zcf : Array Oper := match Tryd.f41.body with
  | some (.region _ ops _) => ops
  | _ => #[]

theorem zuf (t : Nat) : Region.schedule true zcf t = [0, 1, 2] \/ Region.schedule true zcf t = [1, 0, 2] := by
  have h0 : Region.schedule true zcf t = (match ([0, 1] : List Nat)[t % 2]? with | some i => Region.linearise.go .any zcf 2 (t / 2) ((Array.replicate 3 false).setIfInBounds i true) [i] | none => []) := by kernel_rfl
  have h1 : ∀ u, Region.linearise.go .any zcf 2 u #[true, false, false] [0] = (match ([1] : List Nat)[u % 1]? with | some i => Region.linearise.go .any zcf 1 (u / 1) (#[true, false, false].setIfInBounds i true) [i, 0] | none => [0]) := fun u => by kernel_rfl
  have h2 : ∀ u, Region.linearise.go .any zcf 1 u #[true, true, false] [1, 0] = (match ([2] : List Nat)[u % 1]? with | some i => [0, 1, i] | none => [0, 1]) := fun u => by kernel_rfl
  have h3 : ∀ u, Region.linearise.go .any zcf 2 u #[false, true, false] [1] = (match ([0] : List Nat)[u % 1]? with | some i => Region.linearise.go .any zcf 1 (u / 1) (#[false, true, false].setIfInBounds i true) [i, 1] | none => [1]) := fun u => by kernel_rfl
  have h4 : ∀ u, Region.linearise.go .any zcf 1 u #[true, true, false] [0, 1] = (match ([2] : List Nat)[u % 1]? with | some i => [1, 0, i] | none => [1, 0]) := fun u => by kernel_rfl
  rcases Nat.mod_two_eq_zero_or_one t with h | h
  . left
    rw [h0, h]
    have e1 := h1 (t / 2)
    rw [Nat.mod_one] at e1
    have e2 := h2 (t / 2 / 1)
    rw [Nat.mod_one] at e2
    exact e1.trans e2
  . right
    rw [h0, h]
    have e1 := h3 (t / 2)
    rw [Nat.mod_one] at e1
    have e2 := h4 (t / 2 / 1)
    rw [Nat.mod_one] at e2
    exact e1.trans e2

theorem zso {w : World} {n : Nat} {p : Value} (hc : w.cell? ⟨n, 0, none⟩ = some p) :
    CallsD Tryd.prog 41 #[.pointer (some ⟨n, 0, none⟩)] .returning w fun e u w' => (∃ v, e = .returned v) /\ u = .returning /\ w' = w.drew := by
  refine callsD_of_wpS Tryd.func41 rfl fun c₀ cs hu => ?_
  apply z33
  intro t
  have hm : Tryd.prog.follows .mixedOrders = true := mixed
  rw [hm]
  generalize hl : Region.schedule true _ t = l
  have hl2 : l = [0, 1, 2] \/ l = [1, 0, 2] := by rw [<- hl]; exact zuf t
  clear hl
  simp only [Tryd.ntmps41, List.size_toArray, List.length_cons, List.length_nil, Nat.reduceAdd, Nat.reduceSub, Array.replicate_succ,
     Array.replicate_zero, List.push_toArray, List.append_toArray, List.nil_append, List.cons_append]
  rcases hl2 with rfl | rfl
  . simp [wpOpsS, go_sem, recoverD, hu, hc, Exit.thenS]
    refine caught_idle.mono ?_
    rintro r w' ⟨⟨v, rfl⟩, rfl⟩
    cases c₀
    simp_all [bodyPostS, results, Tryd.results41]
  . simp [wpOpsS, go_sem, recoverD, hu, hc, Exit.thenS]
    refine caught_idle.mono ?_
    rintro r w' ⟨⟨v, rfl⟩, rfl⟩
    cases c₀
    simp_all [bodyPostS, results, Tryd.results41]

theorem zzg {w : World} {n : Nat} {p : Value} {e : Int} {R : World -> Prop} (hc : w.cell? ⟨n, 0, none⟩ = some p)
    (hf : Calls Tryd.prog 40 #[p, .int .i64 e] w.drew fun r w1 => (∃ v, r = .returned v) /\ R w1) :
    CallsD Tryd.prog 41 #[.pointer (some ⟨n, 0, none⟩)] (.panicking [{ v := .iface 30 (.int .i64 e), recovered := false }]) w fun r u w' =>
      (∃ v, r = .returned v) /\ u = .panicking [{ v := .iface 30 (.int .i64 e), recovered := true }] /\ R w' := by
  refine callsD_of_wpS Tryd.func41 rfl fun c₀ cs hu => ?_
  apply z33
  intro t
  have hm : Tryd.prog.follows .mixedOrders = true := mixed
  rw [hm]
  generalize hl : Region.schedule true _ t = l
  have hl2 : l = [0, 1, 2] \/ l = [1, 0, 2] := by rw [<- hl]; exact zuf t
  clear hl
  simp only [Tryd.ntmps41, List.size_toArray, List.length_cons, List.length_nil, Nat.reduceAdd, Nat.reduceSub, Array.replicate_succ,
     Array.replicate_zero, List.push_toArray, List.append_toArray, List.nil_append, List.cons_append]
  have hk := zmj hf
  rcases hl2 with rfl | rfl
  . simp [wpOpsS, go_sem, recoverD, hu, hc, Exit.thenS]
    refine hk.mono ?_
    rintro r w' ⟨⟨v, rfl⟩, hr⟩
    cases c₀
    simp_all [bodyPostS, results, Tryd.results41]
  . simp [wpOpsS, go_sem, recoverD, hu, hc, Exit.thenS]
    refine hk.mono ?_
    rintro r w' ⟨⟨v, rfl⟩, hr⟩
    cases c₀
    simp_all [bodyPostS, results, Tryd.results41]

def zce : Array Oper := match Tryd.f62.body with
  | some (.region _ ops _) => ops
  | _ => #[]

theorem zue (t : Nat) : Region.schedule true zce t = [0, 1, 2] \/ Region.schedule true zce t = [1, 0, 2] := by
  have h0 : Region.schedule true zce t = (match ([0, 1] : List Nat)[t % 2]? with | some i => Region.linearise.go .any zce 2 (t / 2) ((Array.replicate 3 false).setIfInBounds i true) [i] | none => []) := by kernel_rfl
  have h1 : ∀ u, Region.linearise.go .any zce 2 u #[true, false, false] [0] = (match ([1] : List Nat)[u % 1]? with | some i => Region.linearise.go .any zce 1 (u / 1) (#[true, false, false].setIfInBounds i true) [i, 0] | none => [0]) := fun u => by kernel_rfl
  have h2 : ∀ u, Region.linearise.go .any zce 1 u #[true, true, false] [1, 0] = (match ([2] : List Nat)[u % 1]? with | some i => [0, 1, i] | none => [0, 1]) := fun u => by kernel_rfl
  have h3 : ∀ u, Region.linearise.go .any zce 2 u #[false, true, false] [1] = (match ([0] : List Nat)[u % 1]? with | some i => Region.linearise.go .any zce 1 (u / 1) (#[false, true, false].setIfInBounds i true) [i, 1] | none => [1]) := fun u => by kernel_rfl
  have h4 : ∀ u, Region.linearise.go .any zce 1 u #[true, true, false] [0, 1] = (match ([2] : List Nat)[u % 1]? with | some i => [1, 0, i] | none => [1, 0]) := fun u => by kernel_rfl
  rcases Nat.mod_two_eq_zero_or_one t with h | h
  . left
    rw [h0, h]
    have e1 := h1 (t / 2)
    rw [Nat.mod_one] at e1
    have e2 := h2 (t / 2 / 1)
    rw [Nat.mod_one] at e2
    exact e1.trans e2
  . right
    rw [h0, h]
    have e1 := h3 (t / 2)
    rw [Nat.mod_one] at e1
    have e2 := h4 (t / 2 / 1)
    rw [Nat.mod_one] at e2
    exact e1.trans e2

theorem zy1 {w : World} {n : Nat} {p : Value} (hc : w.cell? ⟨n, 0, none⟩ = some p) :
    CallsD Tryd.prog 62 #[.pointer (some ⟨n, 0, none⟩)] .returning w fun e u w' => (∃ v, e = .returned v) /\ u = .returning /\ w' = w.drew := by
  refine callsD_of_wpS Tryd.func62 rfl fun c₀ cs hu => ?_
  apply z33
  intro t
  have hm : Tryd.prog.follows .mixedOrders = true := mixed
  rw [hm]
  generalize hl : Region.schedule true _ t = l
  have hl2 : l = [0, 1, 2] \/ l = [1, 0, 2] := by rw [<- hl]; exact zue t
  clear hl
  simp only [Tryd.ntmps62, List.size_toArray, List.length_cons, List.length_nil, Nat.reduceAdd, Nat.reduceSub, Array.replicate_succ,
     Array.replicate_zero, List.push_toArray, List.append_toArray, List.nil_append, List.cons_append]
  rcases hl2 with rfl | rfl
  . simp [wpOpsS, go_sem, recoverD, hu, hc, Exit.thenS]
    refine caught_idle.mono ?_
    rintro r w' ⟨⟨v, rfl⟩, rfl⟩
    cases c₀
    simp_all [bodyPostS, results, Tryd.results62]
  . simp [wpOpsS, go_sem, recoverD, hu, hc, Exit.thenS]
    refine caught_idle.mono ?_
    rintro r w' ⟨⟨v, rfl⟩, rfl⟩
    cases c₀
    simp_all [bodyPostS, results, Tryd.results62]

theorem zrd {w : World} {n : Nat} {p : Value} {e : Int} {R : World -> Prop} (hc : w.cell? ⟨n, 0, none⟩ = some p)
    (hf : Calls Tryd.prog 40 #[p, .int .i64 e] w.drew fun r w1 => (∃ v, r = .returned v) /\ R w1) :
    CallsD Tryd.prog 62 #[.pointer (some ⟨n, 0, none⟩)] (.panicking [{ v := .iface 30 (.int .i64 e), recovered := false }]) w fun r u w' =>
      (∃ v, r = .returned v) /\ u = .panicking [{ v := .iface 30 (.int .i64 e), recovered := true }] /\ R w' := by
  refine callsD_of_wpS Tryd.func62 rfl fun c₀ cs hu => ?_
  apply z33
  intro t
  have hm : Tryd.prog.follows .mixedOrders = true := mixed
  rw [hm]
  generalize hl : Region.schedule true _ t = l
  have hl2 : l = [0, 1, 2] \/ l = [1, 0, 2] := by rw [<- hl]; exact zue t
  clear hl
  simp only [Tryd.ntmps62, List.size_toArray, List.length_cons, List.length_nil, Nat.reduceAdd, Nat.reduceSub, Array.replicate_succ,
     Array.replicate_zero, List.push_toArray, List.append_toArray, List.nil_append, List.cons_append]
  have hk := zmj hf
  rcases hl2 with rfl | rfl
  . simp [wpOpsS, go_sem, recoverD, hu, hc, Exit.thenS]
    refine hk.mono ?_
    rintro r w' ⟨⟨v, rfl⟩, hr⟩
    cases c₀
    simp_all [bodyPostS, results, Tryd.results62]
  . simp [wpOpsS, go_sem, recoverD, hu, hc, Exit.thenS]
    refine hk.mono ?_
    rintro r w' ⟨⟨v, rfl⟩, hr⟩
    cases c₀
    simp_all [bodyPostS, results, Tryd.results62]

theorem z8m {w : World} {S : Hp} {b : Nat} {x : RdrT.den} (h : Rdr w S b x) : w.cell? ⟨b, 1, none⟩ = some (.string ⟨⟨x.2.1⟩⟩) /\ w.frozen? ⟨b, 1, none⟩ = false := by
  obtain ⟨_, _, E, fr, hc, hf⟩ := h
  refine ⟨by simp [World.cell?, hc], ?_⟩
  have := hf.2 1 (by simp)
  simp [World.frozen?, hc]
  omega

theorem Fine.trans {w w1 w2 : World} {S S1 : Hp} {b : Nat} {x : RdrT.den} (h1 : WF w (fun k => k = b) w1) (h2 : Lift.Sub S S1) (h3 : ∀ k, S1 k ≠ none -> S k ≠ none \/ w.heap.size <= k) (h : Fine w1 S1 b x w2) : Fine w S b x w2 := by
  obtain ⟨S2, k1, k2, k3, k4⟩ := h
  refine ⟨S2, h1.trans k1 (fun k hk => .inl hk), h2.trans k2, fun k hk => ?_, k4⟩
  rcases k3 k hk with h | h
  . exact h3 k h
  . exact .inr (Nat.le_trans h1.size h)

theorem z12y {w : World} {S : Hp} {b : Nat} {x : RdrT.den} (h : Rdr w S b x) : Fine w S b x w :=
  ⟨S, WF.refl _ _, Lift.Sub.refl S, fun _ h => .inl h, h⟩

theorem zdg {w : World} {S : Hp} {b : Nat} {x : RdrT.den} (h : Rdr w S b x) : b < w.heap.size := by
  obtain ⟨_, _, E, fr, hc, _⟩ := h
  exact (Array.getElem?_eq_some_iff.1 hc).1

theorem z3b {w : World} {S : Hp} {b : Nat} {x : RdrT.den} (h : Rdr w S b x) : Fine w S b x w.drew :=
  ⟨S, ⟨Nat.le_refl _, fun _ _ _ => rfl, rfl, rfl, rfl⟩, Lift.Sub.refl S, fun _ h => .inl h, h⟩

theorem z47 {w : World} {S : Hp} {b : Nat} {x : RdrT.den} (h : Rdr w S b x) (cs : Array Value) (E : Nat) : Fine w S b x (w.alloc (.cells cs E)) := by
  have hlt := zdg h
  obtain ⟨hS, hn, E', fr, hc, hf⟩ := h
  have hh : (w.alloc (.cells cs E)).heap = w.heap.push (.cells cs E (0, 0)) := rfl
  have hk : ∀ k, k < w.heap.size -> (w.alloc (.cells cs E)).heap[k]? = w.heap[k]? := fun k hk => by
    rw [hh, Array.getElem?_push, if_neg (by omega)]
  refine ⟨S, ⟨?_, fun k h1 _ => hk k h1, rfl, rfl, rfl⟩, Lift.Sub.refl S, fun _ h => .inl h, fun k o ho => ?_, hn, E', fr, ?_, hf⟩
  . rw [hh, Array.size_push]; omega
  . have := hS k o ho
    simp only [hp] at this ⊢
    rw [hk k (Array.getElem?_eq_some_iff.1 this).1]
    exact this
  . rw [hk b hlt]; exact hc

theorem zt2 {w : World} {S : Hp} {b : Nat} {x : RdrT.den} (h : Rdr w S b x) (s : List UInt8) : Fine w S b (x.1, s, x.2.2.1, ()) (w.setCell ⟨b, 1, none⟩ (.string ⟨⟨s⟩⟩)) := by
  have hlt := zdg h
  obtain ⟨hS, hn, E, fr, hc, hf⟩ := h
  have e := zlx (w := w) (b := b) (off := 1) (.string ⟨⟨s⟩⟩) hc
  refine ⟨S, ⟨?_, fun k h1 h2 => ?_, ?_, ?_, ?_⟩, Lift.Sub.refl S, fun _ h => .inl h, fun k o ho => ?_, hn, E, fr, ?_, hf⟩
  . rw [e]; simp [z10]
  . have := ze (w := w) (o := .cells (#[.bool x.1, .string ⟨⟨x.2.1⟩⟩, .int .i64 x.2.2.1].setIfInBounds 1 (.string ⟨⟨s⟩⟩)) E fr) h2
    rw [e]
    exact this
  . rw [e]; rfl
  . rw [e]; rfl
  . rw [e]; rfl
  . have hne : k ≠ b := fun h => by rw [h, hn] at ho; cases ho
    have := ze (w := w) (o := .cells (#[.bool x.1, .string ⟨⟨x.2.1⟩⟩, .int .i64 x.2.2.1].setIfInBounds 1 (.string ⟨⟨s⟩⟩)) E fr) hne
    rw [e, this]
    exact hS k o ho
  . rw [e]
    exact z1r hc

theorem zau {w w' : World} {b n : Nat} {p : Value} (h : WF w (fun k => k = b) w') (hn : n ≠ b) (hc : w.cell? ⟨n, 0, none⟩ = some p) : w'.cell? ⟨n, 0, none⟩ = some p := by
  have hlt : n < w.heap.size := by
    cases hh : w.heap[n]? with
    | none => simp [World.cell?, hh] at hc
    | some o => exact (Array.getElem?_eq_some_iff.1 hh).1
  have := h.same n hlt hn
  simp only [World.cell?] at hc ⊢
  rw [this]
  exact hc

def z12 (N : Nat) (x : RdrT.den) : Option (Int × (RdrT.den × Unit)) :=
 cond (x.1 && (x.2.2.1 == 0))
 (cond (decide (1 <= Go.IntKind.wrap .u64 (x.2.1.length : Int)))
 (some (((x.2.1.getD 0 0).toNat : Int), ((x.1, x.2.1.drop 1, x.2.2.1, ()), ())))
 (some (0, ((x.1, [], 1, ()), ()))))
 (some (0, (x, ())))

theorem z2q (w : World) (v : Value) (E : Nat) : (w.alloc (.cells #[v] E)).cell? ⟨w.heap.size, 0, none⟩ = some v := by
  have hh : (w.alloc (.cells #[v] E)).heap = w.heap.push (.cells #[v] E (0, 0)) := rfl
  simp [World.cell?, hh]

theorem z15k (N : Nat) {w : World} {S : Hp} {b : Nat} {x : RdrT.den} (h : Rdr w S b x) (hr : (x.1 && (x.2.2.1 == 0)) = false) :
    Calls Tryd.prog 61 #[.pointer (some ⟨b, 0, none⟩)] w fun r w' => r = .returned (.int .u8 0) /\ Fine w S b x w' := by
  have hmf : ∀ (fn : Fn) (first cap : Array Value) (w : World), (Instr.makeFunc fn first cap).run Tryd.prog w = .ok (.func fn first cap) w := fun _ _ _ _ => rfl
  have hlt := zdg h
  have hA := z2q w (.pointer (some ⟨b, 0, none⟩)) 47
  obtain ⟨S1, f1, f2, f3, hR1⟩ := z47 h #[.pointer (some ⟨b, 0, none⟩)] 47
  have hcr := z46 N hR1
  rw [hr] at hcr
  go_enter_defers Tryd.func61, Tryd.ntmps61
  go_wp2_with (go_at_call 43; refine hcr.mono ?_; rintro r w2 ⟨rfl, hF2⟩; have HM := Go.Lib.hid hF2; clear hcr hF2)
  obtain ⟨S2, g1, g2, g3, hR2⟩ := HM.out
  have hc2 := zau g1 (Nat.ne_of_gt hlt) hA
  refine leaves_cons (f := 72) (args := #[.pointer (some ⟨w.heap.size, 0, none⟩)]) (by simp) (by simp [go_sem]) ?_
  refine (zy2 hc2).mono ?_
  rintro r u w3 ⟨⟨v, rfl⟩, rfl, rfl⟩
  refine ⟨_, ?_, rfl, Fine.trans f1 f2 f3 (Fine.trans g1 g2 g3 (z3b hR2))⟩
  simp [results, Tryd.results61, go_sem]

theorem z189 (N : Nat) {w : World} {S : Hp} {b : Nat} {m : Bool} {a : UInt8} {l : List UInt8} {e : Int} (h : Rdr w S b (m, a :: l, e, ())) (hr : (m && (e == 0)) = true) (hle : 1 <= Go.IntKind.wrap .u64 ((a :: l).length : Int)) :
    Calls Tryd.prog 61 #[.pointer (some ⟨b, 0, none⟩)] w fun r w' => r = .returned (.int .u8 (a.toNat : Int)) /\ Fine w S b (m, l, e, ()) w' := by
  have hmf : ∀ (fn : Fn) (first cap : Array Value) (w : World), (Instr.makeFunc fn first cap).run Tryd.prog w = .ok (.func fn first cap) w := fun _ _ _ _ => rfl
  have hlt := zdg h
  have hA := z2q w (.pointer (some ⟨b, 0, none⟩)) 47
  obtain ⟨S1, f1, f2, f3, hR1⟩ := z47 h #[.pointer (some ⟨b, 0, none⟩)] 47
  have hcr := z46 N hR1
  simp only [] at hcr
  rw [hr] at hcr
  have hT : ∀ w2 : World, Fine (w.alloc (.cells #[.pointer (some ⟨b, 0, none⟩)] 47)) S1 b (m, a :: l, e, ()) w2 →
      Calls Tryd.prog 63 #[.pointer (some ⟨b, 0, none⟩), .int .u64 1] w2 fun r w' => r = .returned (.string ⟨⟨[a]⟩⟩) /\ w' = w2.setCell ⟨b, 1, none⟩ (.string ⟨⟨l⟩⟩) := fun w2 hF => by
    obtain ⟨S2, g1, g2, g3, hR2⟩ := hF
    obtain ⟨c1, z1⟩ := z8m hR2
    exact ztu c1 z1 (n := 1) (by omega) hle (by simp only [List.length_cons]; omega)
  have hC : ∀ w2 : World, Fine (w.alloc (.cells #[.pointer (some ⟨b, 0, none⟩)] 47)) S1 b (m, a :: l, e, ()) w2 -> w2.cell? ⟨w.heap.size, 0, none⟩ = some (.pointer (some ⟨b, 0, none⟩)) := fun w2 hF => by
    obtain ⟨S2, g1, g2, g3, hR2⟩ := hF
    exact zau g1 (Nat.ne_of_gt hlt) hA
  go_enter_defers Tryd.func61, Tryd.ntmps61
  go_wp2_with (first
    | (go_at_call 43; refine hcr.mono ?_; rintro r w2 ⟨rfl, hF2⟩; have ht := hT w2 hF2; have hc2 := hC w2 hF2; have HM := Go.Lib.hid hF2; clear hcr hF2 hT hC)
    | (go_at_call 63; refine ht.mono ?_; rintro r w3 ⟨rfl, hw3⟩; clear ht))
  obtain ⟨S2, g1, g2, g3, hR2⟩ := HM.out
  obtain ⟨S3, k1, k2, k3, hR3⟩ := zt2 hR2 l
  have hc3 := zau k1 (Nat.ne_of_gt hlt) hc2
  refine leaves_cons (f := 72) (args := #[.pointer (some ⟨w.heap.size, 0, none⟩)]) (by simp) (by simp [go_sem]) ?_
  refine (zy2 hc3).mono ?_
  rintro r u w4 ⟨⟨v, rfl⟩, rfl, rfl⟩
  refine ⟨_, ?_, rfl, Fine.trans f1 f2 f3 (Fine.trans g1 g2 g3 (Fine.trans k1 k2 k3 (z3b hR3)))⟩
  simp [results, Tryd.results61, go_sem]
  rfl

theorem z15l (N : Nat) {w : World} {S : Hp} {b : Nat} {x : RdrT.den} (h : Rdr w S b x) (hr : (x.1 && (x.2.2.1 == 0)) = true) (hle : ¬ 1 <= Go.IntKind.wrap .u64 (x.2.1.length : Int)) :
    Calls Tryd.prog 61 #[.pointer (some ⟨b, 0, none⟩)] w fun r w' => r = .returned (.int .u8 0) /\ Fine w S b (zpn x 1) w' := by
  have hmf : ∀ (fn : Fn) (first cap : Array Value) (w : World), (Instr.makeFunc fn first cap).run Tryd.prog w = .ok (.func fn first cap) w := fun _ _ _ _ => rfl
  have hlt := zdg h
  have hA := z2q w (.pointer (some ⟨b, 0, none⟩)) 47
  obtain ⟨S1, f1, f2, f3, hR1⟩ := z47 h #[.pointer (some ⟨b, 0, none⟩)] 47
  have hcr := z46 N hR1
  rw [hr] at hcr
  have hT : ∀ w2 : World, Fine (w.alloc (.cells #[.pointer (some ⟨b, 0, none⟩)] 47)) S1 b x w2 →
      Calls Tryd.prog 63 #[.pointer (some ⟨b, 0, none⟩), .int .u64 1] w2 fun r w' => r = .panicked [{ v := .iface 30 (.int .i64 1), recovered := false }] /\ w' = w2 := fun w2 hF => by
    obtain ⟨S2, g1, g2, g3, hR2⟩ := hF
    obtain ⟨c1, z1⟩ := z8m hR2
    exact ztv c1 z1 (n := 1) hle
  have hC : ∀ w2 : World, Fine (w.alloc (.cells #[.pointer (some ⟨b, 0, none⟩)] 47)) S1 b x w2 -> w2.cell? ⟨w.heap.size, 0, none⟩ = some (.pointer (some ⟨b, 0, none⟩)) := fun w2 hF => by
    obtain ⟨S2, g1, g2, g3, hR2⟩ := hF
    exact zau g1 (Nat.ne_of_gt hlt) hA
  go_enter_defers Tryd.func61, Tryd.ntmps61
  go_wp2_with (first
    | (go_at_call 43; refine hcr.mono ?_; rintro r w2 ⟨rfl, hF2⟩; have ht := hT w2 hF2; have hc2 := hC w2 hF2; have HM := Go.Lib.hid hF2; clear hcr hF2 hT hC)
    | (go_at_call 63; refine ht.mono ?_; rintro r w3 ⟨rfl, rfl⟩; clear ht))
  obtain ⟨S2, g1, g2, g3, hR2⟩ := HM.out
  obtain ⟨S3, k1, k2, k3, hR3⟩ := z3b hR2
  refine leaves_cons (f := 72) (args := #[.pointer (some ⟨w.heap.size, 0, none⟩)]) (by simp) (by simp [go_sem]) ?_
  refine (zzh hc2 (zl8 N hR3 1)).mono ?_
  rintro r u w4 ⟨⟨v, rfl⟩, rfl, hF4⟩
  simp [Leaves, settle, results, Tryd.results61, go_sem]
  exact Fine.trans f1 f2 f3 (Fine.trans g1 g2 g3 (Fine.trans k1 k2 k3 hF4))

theorem zpg {w w1 : World} {S S1 : Hp} {b : Nat} {x : RdrT.den} (h : Rdr w S b x) (h1 : WF w (fun _ => False) w1) (h2 : Lift.Sub S S1) (h3 : Lift.Sub S1 (hp w1)) (h4 : ∀ k, S1 k ≠ none -> S k ≠ none \/ w.heap.size <= k) : Fine w S b x w1 := by
  have hlt := zdg h
  obtain ⟨hS, hn, E, fr, hc, hf⟩ := h
  refine ⟨S1, ⟨h1.size, fun k hk _ => h1.same k hk (fun h => h), h1.tape, h1.os, h1.output⟩, h2, h4, h3, ?_, E, fr, ?_, hf⟩
  . cases hs : S1 b with
    | none => rfl
    | some o =>
      rcases h4 b (by rw [hs]; simp) with h | h
      . exact absurd hn h
      . omega
  . rw [h1.same b hlt (fun h => h)]; exact hc

theorem zjp (N : Nat) {w : World} {S : Hp} {b : Nat} {x : RdrT.den} (h : Rdr w S b x) {most : Int} {y : Int × Int × Int × Unit} (hy : z2a N x.2.1 = some y)
    (he : y.2.2.1 = 0) (hm : y.1 <= most) (hu : 0 <= y.2.1) (hl : y.2.1 <= x.2.1.length) :
    Calls Tryd.prog 44 #[.pointer (some ⟨b, 0, none⟩), .int .u64 most] w fun r w' => r = .returned (.int .u64 y.1) /\ Fine w S b (x.1, x.2.1.drop y.2.1.toNat, x.2.2.1, ()) w' := by
  obtain ⟨c1, z1⟩ := z8m h
  have hF : ∀ w1, (∃ S', WF w (fun _ => False) w1 /\ Lift.Sub S S' /\ Lift.Sub S' (hp w1) /\ ∀ k, S' k ≠ none -> S k ≠ none \/ w.heap.size <= k) -> Fine w S b x w1 := fun w1 ⟨S', k1, k2, k3, k4⟩ => zpg h k1 k2 k3 k4
  refine (zw7 c1 (zoi N h.1 hy) (fun w1 hw1 => ?_) he hm hu hl).mono ?_
  . obtain ⟨S2, _, _, _, hR2⟩ := hF w1 hw1
    exact z8m hR2
  . rintro r w' ⟨rfl, w1, hw1, rfl⟩
    obtain ⟨S2, g1, g2, g3, hR2⟩ := hF w1 hw1
    exact ⟨rfl, Fine.trans g1 g2 g3 (zt2 hR2 _)⟩

theorem zrh (N : Nat) {w : World} {S : Hp} {b : Nat} {x : RdrT.den} (h : Rdr w S b x) {most : Int} {y : Int × Int × Int × Unit} (hy : z2a N x.2.1 = some y) (he : y.2.2.1 ≠ 0) :
    Calls Tryd.prog 44 #[.pointer (some ⟨b, 0, none⟩), .int .u64 most] w fun r w' => r = .panicked [{ v := .iface 30 (.int .i64 y.2.2.1), recovered := false }] /\ Fine w S b x w' := by
  obtain ⟨c1, z1⟩ := z8m h
  refine (zw8 c1 (zoi N h.1 hy) he).mono ?_
  rintro r w' ⟨rfl, S', k1, k2, k3, k4⟩
  exact ⟨rfl, zpg h k1 k2 k3 k4⟩

theorem zp4 (N : Nat) {w : World} {S : Hp} {b : Nat} {x : RdrT.den} (h : Rdr w S b x) {most : Int} {y : Int × Int × Int × Unit} (hy : z2a N x.2.1 = some y) (he : y.2.2.1 = 0) (hm : ¬ y.1 <= most) :
    Calls Tryd.prog 44 #[.pointer (some ⟨b, 0, none⟩), .int .u64 most] w fun r w' => r = .panicked [{ v := .iface 30 (.int .i64 3), recovered := false }] /\ Fine w S b x w' := by
  obtain ⟨c1, z1⟩ := z8m h
  refine (zw9 c1 (zoi N h.1 hy) he hm).mono ?_
  rintro r w' ⟨rfl, S', k1, k2, k3, k4⟩
  exact ⟨rfl, zpg h k1 k2 k3 k4⟩

theorem z42 {w w2 : World} {S S1 : Hp} {b : Nat} {x : RdrT.den} (hlt : b < w.heap.size) {E : Nat} (hF : Fine (w.alloc (.cells #[.pointer (some ⟨b, 0, none⟩)] E)) S1 b x w2) : w2.cell? ⟨w.heap.size, 0, none⟩ = some (.pointer (some ⟨b, 0, none⟩)) := by
  obtain ⟨S2, g1, g2, g3, hR2⟩ := hF
  exact zau g1 (Nat.ne_of_gt hlt) (z2q w _ _)

theorem z17t (N : Nat) {w : World} {S : Hp} {b : Nat} {x : RdrT.den} {most : Int} (h : Rdr w S b x) (hr : (x.1 && (x.2.2.1 == 0)) = false) :
    Calls Tryd.prog 24 #[.pointer (some ⟨b, 0, none⟩), .int .u64 most] w fun r w' => r = .returned (.int .u64 0) /\ Fine w S b x w' := by
  have hmf : ∀ (fn : Fn) (first cap : Array Value) (w : World), (Instr.makeFunc fn first cap).run Tryd.prog w = .ok (.func fn first cap) w := fun _ _ _ _ => rfl
  have hlt := zdg h
  have hA := z2q w (.pointer (some ⟨b, 0, none⟩)) 47
  obtain ⟨S1, f1, f2, f3, hR1⟩ := z47 h #[.pointer (some ⟨b, 0, none⟩)] 47
  have hcr := z46 N hR1
  rw [hr] at hcr
  go_enter_defers Tryd.func24, Tryd.ntmps24
  go_wp2_with (go_at_call 43; refine hcr.mono ?_; rintro r w2 ⟨rfl, hF2⟩; have HM := Go.Lib.hid hF2; clear hcr hF2)
  obtain ⟨S2, g1, g2, g3, hR2⟩ := HM.out
  have hc2 := zau g1 (Nat.ne_of_gt hlt) hA
  refine leaves_cons (f := 41) (args := #[.pointer (some ⟨w.heap.size, 0, none⟩)]) (by simp) (by simp [go_sem]) ?_
  refine (zso hc2).mono ?_
  rintro r u w3 ⟨⟨v, rfl⟩, rfl, rfl⟩
  refine ⟨_, ?_, rfl, Fine.trans f1 f2 f3 (Fine.trans g1 g2 g3 (z3b hR2))⟩
  simp [results, Tryd.results24, go_sem]

theorem z18y (N : Nat) {w : World} {S : Hp} {b : Nat} {x x' : RdrT.den} {most n : Int} (h : Rdr w S b x) (hr : (x.1 && (x.2.2.1 == 0)) = true)
    (hT : ∀ (w1 : World) (S1 : Hp), Rdr w1 S1 b x -> Calls Tryd.prog 44 #[.pointer (some ⟨b, 0, none⟩), .int .u64 most] w1 fun r w' => r = .returned (.int .u64 n) /\ Fine w1 S1 b x' w') :
    Calls Tryd.prog 24 #[.pointer (some ⟨b, 0, none⟩), .int .u64 most] w fun r w' => r = .returned (.int .u64 n) /\ Fine w S b x' w' := by
  have hmf : ∀ (fn : Fn) (first cap : Array Value) (w : World), (Instr.makeFunc fn first cap).run Tryd.prog w = .ok (.func fn first cap) w := fun _ _ _ _ => rfl
  have hlt := zdg h
  have hA := z2q w (.pointer (some ⟨b, 0, none⟩)) 47
  obtain ⟨S1, f1, f2, f3, hR1⟩ := z47 h #[.pointer (some ⟨b, 0, none⟩)] 47
  have hcr := z46 N hR1
  rw [hr] at hcr
  have hT2 : ∀ w2 : World, Fine (w.alloc (.cells #[.pointer (some ⟨b, 0, none⟩)] 47)) S1 b x w2 →
      Calls Tryd.prog 44 #[.pointer (some ⟨b, 0, none⟩), .int .u64 most] w2 fun r w' => r = .returned (.int .u64 n) /\ Fine (w.alloc (.cells #[.pointer (some ⟨b, 0, none⟩)] 47)) S1 b x' w' := fun w2 hF => by
    obtain ⟨S2, g1, g2, g3, hR2⟩ := hF
    exact (hT w2 S2 hR2).mono (by rintro r w' ⟨rfl, hF⟩; exact ⟨rfl, Fine.trans g1 g2 g3 hF⟩)
  have hC : ∀ w2 : World, Fine (w.alloc (.cells #[.pointer (some ⟨b, 0, none⟩)] 47)) S1 b x w2 -> w2.cell? ⟨w.heap.size, 0, none⟩ = some (.pointer (some ⟨b, 0, none⟩)) := fun w2 hF => z42 (S := S1) hlt hF
  clear hT
  go_enter_defers Tryd.func24, Tryd.ntmps24
  go_wp2_with (first
    | (go_at_call 43; refine hcr.mono ?_; rintro r w2 ⟨rfl, hF2⟩; have ht := hT2 w2 hF2; have hc2 := hC w2 hF2; clear hcr hF2 hT2 hC)
    | (go_at_call 44; refine ht.mono ?_; rintro r w3 ⟨rfl, hF3⟩; have HM := Go.Lib.hid hF3; clear ht hF3))
  have hc3 := z42 (S := S1) hlt HM.out
  obtain ⟨S3, k1, k2, k3, hR3⟩ := HM.out
  refine leaves_cons (f := 41) (args := #[.pointer (some ⟨w.heap.size, 0, none⟩)]) (by simp) (by simp [go_sem]) ?_
  refine (zso hc3).mono ?_
  rintro r u w4 ⟨⟨v, rfl⟩, rfl, rfl⟩
  refine ⟨_, ?_, rfl, Fine.trans f1 f2 f3 (Fine.trans k1 k2 k3 (z3b hR3))⟩
  simp [results, Tryd.results24, go_sem]

theorem zy9 (N : Nat) {w : World} {S : Hp} {b : Nat} {x : RdrT.den} {most e : Int} (h : Rdr w S b x) (hr : (x.1 && (x.2.2.1 == 0)) = true)
    (hT : ∀ (w1 : World) (S1 : Hp), Rdr w1 S1 b x -> Calls Tryd.prog 44 #[.pointer (some ⟨b, 0, none⟩), .int .u64 most] w1 fun r w' => r = .panicked [{ v := .iface 30 (.int .i64 e), recovered := false }] /\ Fine w1 S1 b x w') :
    Calls Tryd.prog 24 #[.pointer (some ⟨b, 0, none⟩), .int .u64 most] w fun r w' => r = .returned (.int .u64 0) /\ Fine w S b (zpn x e) w' := by
  have hmf : ∀ (fn : Fn) (first cap : Array Value) (w : World), (Instr.makeFunc fn first cap).run Tryd.prog w = .ok (.func fn first cap) w := fun _ _ _ _ => rfl
  have hlt := zdg h
  have hA := z2q w (.pointer (some ⟨b, 0, none⟩)) 47
  obtain ⟨S1, f1, f2, f3, hR1⟩ := z47 h #[.pointer (some ⟨b, 0, none⟩)] 47
  have hcr := z46 N hR1
  rw [hr] at hcr
  have hT2 : ∀ w2 : World, Fine (w.alloc (.cells #[.pointer (some ⟨b, 0, none⟩)] 47)) S1 b x w2 →
      Calls Tryd.prog 44 #[.pointer (some ⟨b, 0, none⟩), .int .u64 most] w2 fun r w' => r = .panicked [{ v := .iface 30 (.int .i64 e), recovered := false }] /\ Fine (w.alloc (.cells #[.pointer (some ⟨b, 0, none⟩)] 47)) S1 b x w' := fun w2 hF => by
    obtain ⟨S2, g1, g2, g3, hR2⟩ := hF
    exact (hT w2 S2 hR2).mono (by rintro r w' ⟨rfl, hF⟩; exact ⟨rfl, Fine.trans g1 g2 g3 hF⟩)
  have hC : ∀ w2 : World, Fine (w.alloc (.cells #[.pointer (some ⟨b, 0, none⟩)] 47)) S1 b x w2 -> w2.cell? ⟨w.heap.size, 0, none⟩ = some (.pointer (some ⟨b, 0, none⟩)) := fun w2 hF => z42 (S := S1) hlt hF
  clear hT
  go_enter_defers Tryd.func24, Tryd.ntmps24
  go_wp2_with (first
    | (go_at_call 43; refine hcr.mono ?_; rintro r w2 ⟨rfl, hF2⟩; have ht := hT2 w2 hF2; have hc2 := hC w2 hF2; clear hcr hF2 hT2 hC)
    | (go_at_call 44; refine ht.mono ?_; rintro r w3 ⟨rfl, hF3⟩; have HM := Go.Lib.hid hF3; clear ht hF3))
  have hc3 := z42 (S := S1) hlt HM.out
  obtain ⟨S3, k1, k2, k3, hR3⟩ := HM.out
  obtain ⟨S4, l1, l2, l3, hR4⟩ := z3b hR3
  refine leaves_cons (f := 41) (args := #[.pointer (some ⟨w.heap.size, 0, none⟩)]) (by simp) (by simp [go_sem]) ?_
  refine (zzg hc3 (zl8 N hR4 e)).mono ?_
  rintro r u w4 ⟨⟨v, rfl⟩, rfl, hF4⟩
  simp [Leaves, settle, results, Tryd.results24, go_sem]
  exact Fine.trans f1 f2 f3 (Fine.trans k1 k2 k3 (Fine.trans l1 l2 l3 hF4))

def zi0 (ops : Array Oper) : Nat -> Array Bool -> List (List Nat)
  | 0, _ => [[]]
  | n + 1, listed => if (Region.ready .any ops listed).isEmpty then [[]] else (Region.ready .any ops listed).flatMap fun i => (zi0 ops n (listed.setIfInBounds i true)).map (i :: ·)

theorem zp1 (ops : Array Oper) : ∀ (fuel t : Nat) (listed : Array Bool), Region.linearise.go .any ops fuel t listed [] ∈ zi0 ops fuel listed
  | 0, t, listed => by simp [Region.linearise.go, zi0]
  | fuel + 1, t, listed => by
    simp only [Region.linearise.go, zi0]
    change (match (Region.ready .any ops listed)[t % (Region.ready .any ops listed).length]? with
      | some i => Region.linearise.go .any ops fuel (t / (Region.ready .any ops listed).length) (listed.setIfInBounds i true) [i]
      | none => [].reverse) ∈ _
    cases hi : (Region.ready .any ops listed)[t % (Region.ready .any ops listed).length]? with
    | none =>
      have hnil : Region.ready .any ops listed = [] := by
        cases hr : Region.ready .any ops listed with
        | nil => rfl
        | cons x xs =>
          rw [hr] at hi
          have hlt : t % (x :: xs).length < (x :: xs).length := Nat.mod_lt _ (by simp)
          simp at hi
          simp at hlt
          omega
      rw [hnil]
      simp
    | some i =>
      have hm := List.mem_of_getElem? hi
      have hne : (Region.ready .any ops listed).isEmpty = false := by
        cases hr : Region.ready .any ops listed with
        | nil => rw [hr] at hm; cases hm
        | cons x xs => rfl
      simp only [hne]
      rw [linearise_go_acc]
      simp only [List.reverse_singleton, List.singleton_append]
      exact List.mem_flatMap.2 ⟨i, hm, List.mem_map.2 ⟨_, zp1 ops fuel _ _, rfl⟩⟩

theorem zh5 (ops : Array Oper) (t : Nat) : Region.schedule true ops t ∈ zi0 ops ops.size (Array.replicate ops.size false) := by
  simp only [Region.schedule, Bool.true_or, if_true]
  exact zp1 ops ops.size t _

def zgp : Code -> List (Array Oper)
  | .region _ ops true => [ops]
  | .seq a b => zgp a ++ zgp b
  | .cond _ a b => zgp a ++ zgp b
  | _ => []

def rdT_drawn : Array Oper := (zgp ((Tryd.f39.body).getD .skip)).getLast?.getD #[]

def z87 : List (List Nat) := [[0, 1, 2, 3, 4, 5, 6, 7], [0, 2, 1, 3, 4, 5, 6, 7], [0, 2, 3, 1, 4, 5, 6, 7], [0, 2, 3, 4, 1, 5, 6, 7], [1, 0, 2, 3, 4, 5, 6, 7], [1, 2, 0, 3, 4, 5, 6, 7], [1, 2, 3, 0, 4, 5, 6, 7], [1, 2, 3, 4, 0, 5, 6, 7], [1, 2, 3, 4, 5, 0, 6, 7], [2, 0, 1, 3, 4, 5, 6, 7], [2, 0, 3, 1, 4, 5, 6, 7], [2, 0, 3, 4, 1, 5, 6, 7], [2, 1, 0, 3, 4, 5, 6, 7], [2, 1, 3, 0, 4, 5, 6, 7], [2, 1, 3, 4, 0, 5, 6, 7], [2, 1, 3, 4, 5, 0, 6, 7], [2, 3, 0, 1, 4, 5, 6, 7], [2, 3, 0, 4, 1, 5, 6, 7], [2, 3, 1, 0, 4, 5, 6, 7], [2, 3, 1, 4, 0, 5, 6, 7], [2, 3, 1, 4, 5, 0, 6, 7], [2, 3, 4, 0, 1, 5, 6, 7], [2, 3, 4, 1, 0, 5, 6, 7], [2, 3, 4, 1, 5, 0, 6, 7]]

theorem zen : zi0 rdT_drawn 8 (Array.replicate 8 false) = z87 := by kernel_rfl

theorem zsn : rdT_drawn.size = 8 := by kernel_rfl

inductive Picks (ops : Array Oper) : List Nat -> List Oper -> Prop
  | nil : Picks ops [] []
  | cons {i : Nat} {o : Oper} {l : List Nat} {os : List Oper} (h : ops[i]? = some o) (hs : Picks ops l os) : Picks ops (i :: l) (o :: os)

theorem zlp {P : Program} {ops : Array Oper} {Q : Exit -> Act -> World -> Prop} {l : List Nat} {os : List Oper} (h : Picks ops l os) : ∀ {a : Act} {w : World}, wpList P ops Q os a w -> wpOps P ops Q l a w := by
  have e : wpOps P ops Q l = wpList P ops Q os := by
    induction h with
    | nil => funext a w; simp only [wpOps, wpList]
    | cons h _ ih => funext a w; simp only [wpOps, h, wpList, ih]
  intro a w hw
  rw [e]; exact hw

theorem z14b (N : Nat) {w : World} {S : Hp} {b : Nat} {x : RdrT.den} {most : Int} (h : Rdr w S b x) (hr : (x.1 && (x.2.2.1 == 0)) = false) :
    Calls Tryd.prog 39 #[.pointer (some ⟨b, 0, none⟩), .int .i64 most] w fun r w' => r = .returned (.string ⟨⟨[]⟩⟩) /\ Fine w S b x w' := by
  have hmf : ∀ (fn : Fn) (first cap : Array Value) (w : World), (Instr.makeFunc fn first cap).run Tryd.prog w = .ok (.func fn first cap) w := fun _ _ _ _ => rfl
  have hlt := zdg h
  have hA := z2q w (.pointer (some ⟨b, 0, none⟩)) 47
  obtain ⟨S1, f1, f2, f3, hR1⟩ := z47 h #[.pointer (some ⟨b, 0, none⟩)] 47
  have hcr := z46 N hR1
  rw [hr] at hcr
  go_enter_defers Tryd.func39, Tryd.ntmps39
  go_wp2_with (go_at_call 43; refine hcr.mono ?_; rintro r w2 ⟨rfl, hF2⟩; have HM := Go.Lib.hid hF2; clear hcr hF2)
  obtain ⟨S2, g1, g2, g3, hR2⟩ := HM.out
  have hc2 := zau g1 (Nat.ne_of_gt hlt) hA
  refine leaves_cons (f := 62) (args := #[.pointer (some ⟨w.heap.size, 0, none⟩)]) (by simp) (by simp [go_sem]) ?_
  refine (zy1 hc2).mono ?_
  rintro r u w3 ⟨⟨v, rfl⟩, rfl, rfl⟩
  refine ⟨_, ?_, rfl, Fine.trans f1 f2 f3 (Fine.trans g1 g2 g3 (z3b hR2))⟩
  simp [results, Tryd.results39, go_sem]

end
end Go.Proofs.YtaackaafmidjkaaDoorLg

set_option linter.all false
set_option maxRecDepth 100000
namespace Go.Proofs.YtaackaafmidjkaaDoorLg
noncomputable section
open Go Go.Lift

set_option maxHeartbeats 16000000 in
theorem z17i (N : Nat) {w : World} {m0 : Int} {S : Hp} {b : Nat} {x x' x'' : RdrT.den} {most n : Int} {s : List UInt8} (h : Rdr w S b x) (hM : (if most < 0 then (0 : Int) else most) = m0) (hr : (x.1 && (x.2.2.1 == 0)) = true)
    (hT : ∀ (w1 : World) (S1 : Hp), Rdr w1 S1 b x -> Calls Tryd.prog 44 #[.pointer (some ⟨b, 0, none⟩), .int .u64 (Go.IntKind.wrap .u64 m0)] w1 fun r w' => r = .returned (.int .u64 n) /\ Fine w1 S1 b x' w')
    (hU : ∀ (w1 : World) (S1 : Hp), Rdr w1 S1 b x' -> Calls Tryd.prog 63 #[.pointer (some ⟨b, 0, none⟩), .int .u64 n] w1 fun r w' => r = .returned (.string ⟨⟨s⟩⟩) /\ Fine w1 S1 b x'' w') :
    Calls Tryd.prog 39 #[.pointer (some ⟨b, 0, none⟩), .int .i64 most] w fun r w' => r = .returned (.string ⟨⟨s⟩⟩) /\ Fine w S b x'' w' := by
  have hmf : ∀ (fn : Fn) (first cap : Array Value) (w : World), (Instr.makeFunc fn first cap).run Tryd.prog w = .ok (.func fn first cap) w := fun _ _ _ _ => rfl
  have hlt := zdg h
  have hA := z2q w (.pointer (some ⟨b, 0, none⟩)) 47
  obtain ⟨S1, f1, f2, f3, hR1⟩ := z47 h #[.pointer (some ⟨b, 0, none⟩)] 47
  have hcr := z46 N hR1
  rw [hr] at hcr
  have hT2 : ∀ w2 : World, Fine (w.alloc (.cells #[.pointer (some ⟨b, 0, none⟩)] 47)) S1 b x w2 →
      Calls Tryd.prog 44 #[.pointer (some ⟨b, 0, none⟩), .int .u64 (Go.IntKind.wrap .u64 m0)] w2 fun r w' => r = .returned (.int .u64 n) /\ Fine (w.alloc (.cells #[.pointer (some ⟨b, 0, none⟩)] 47)) S1 b x' w' := fun w2 hF => by
    obtain ⟨S2, g1, g2, g3, hR2⟩ := hF
    exact (hT w2 S2 hR2).mono (by rintro r w' ⟨rfl, hF⟩; exact ⟨rfl, Fine.trans g1 g2 g3 hF⟩)
  have hU2 : ∀ w2 : World, Fine (w.alloc (.cells #[.pointer (some ⟨b, 0, none⟩)] 47)) S1 b x' w2 →
      Calls Tryd.prog 63 #[.pointer (some ⟨b, 0, none⟩), .int .u64 n] w2 fun r w' => r = .returned (.string ⟨⟨s⟩⟩) /\ Fine (w.alloc (.cells #[.pointer (some ⟨b, 0, none⟩)] 47)) S1 b x'' w' := fun w2 hF => by
    obtain ⟨S2, g1, g2, g3, hR2⟩ := hF
    exact (hU w2 S2 hR2).mono (by rintro r w' ⟨rfl, hF⟩; exact ⟨rfl, Fine.trans g1 g2 g3 hF⟩)
  have hC : ∀ w2 : World, Fine (w.alloc (.cells #[.pointer (some ⟨b, 0, none⟩)] 47)) S1 b x w2 -> w2.cell? ⟨w.heap.size, 0, none⟩ = some (.pointer (some ⟨b, 0, none⟩)) := fun w2 hF => z42 (S := S1) hlt hF
  have hD : ∀ w2 : World, Fine (w.alloc (.cells #[.pointer (some ⟨b, 0, none⟩)] 47)) S1 b x w2 -> Fine (w.alloc (.cells #[.pointer (some ⟨b, 0, none⟩)] 47)) S1 b x w2.drew := fun w2 hF => by
    obtain ⟨S2, g1, g2, g3, hR2⟩ := hF
    exact Fine.trans g1 g2 g3 (z3b hR2)
  clear hT hU
  go_enter_defers Tryd.func39, Tryd.ntmps39
  go_wp2_with (first
    | (go_at_call 43; refine hcr.mono ?_; rintro r w2 ⟨rfl, hF2⟩; have hc2 := hC w2 hF2; have hn := hT2 w2.drew (hD w2 hF2); clear hcr hF2 hC hT2 hD))
  refine wp_region_draw fun t => ?_
  have hm : Tryd.prog.follows .mixedOrders = true := mixed
  rw [hm]
  generalize hl : Region.schedule true _ t = l
  have hl2 : l ∈ z87 := by
    rw [<- hl, <- zen]
    exact (zsn ▸ zh5 rdT_drawn t)
  clear hl hm
  simp only [z87, List.mem_cons, List.not_mem_nil, or_false] at hl2
  rcases hl2 with rfl | rfl | rfl | rfl | rfl | rfl | rfl | rfl | rfl | rfl | rfl | rfl | rfl | rfl | rfl | rfl | rfl | rfl | rfl | rfl | rfl | rfl | rfl | rfl
  all_goals
    apply zlp
    . repeat (first | exact Picks.nil | (apply Picks.cons; rfl))
    go_wp2_with (first
      | (go_at_call 44; refine hn.mono ?_; rintro r w3 ⟨rfl, hF3⟩; have hc3 := z42 (S := S1) hlt hF3; have hu := hU2 w3 hF3; clear hn hF3 hU2)
      | (go_at_call 63; refine hu.mono ?_; rintro r w4 ⟨rfl, hF4⟩; have HM := Go.Lib.hid hF4; clear hu hF4))
    have hc4 := z42 (S := S1) hlt HM.out
    obtain ⟨S3, k1, k2, k3, hR3⟩ := HM.out
    refine leaves_cons (f := 62) (args := #[.pointer (some ⟨w.heap.size, 0, none⟩)]) (by simp) (by simp [go_sem]) ?_
    refine (zy1 hc4).mono ?_
    rintro r u w5 ⟨⟨v, rfl⟩, rfl, rfl⟩
    refine ⟨_, ?_, rfl, Fine.trans f1 f2 f3 (Fine.trans k1 k2 k3 (z3b hR3))⟩
    simp [results, Tryd.results39, go_sem]

end
end Go.Proofs.YtaackaafmidjkaaDoorLg

set_option linter.all false
set_option maxRecDepth 100000
namespace Go.Proofs.YtaackaafmidjkaaDoorLg
noncomputable section
open Go Go.Lift

set_option maxHeartbeats 16000000 in
theorem zts (N : Nat) {w : World} {m0 : Int} {S : Hp} {b : Nat} {x : RdrT.den} {most e : Int} (h : Rdr w S b x) (hM : (if most < 0 then (0 : Int) else most) = m0) (hr : (x.1 && (x.2.2.1 == 0)) = true)
    (hT : ∀ (w1 : World) (S1 : Hp), Rdr w1 S1 b x -> Calls Tryd.prog 44 #[.pointer (some ⟨b, 0, none⟩), .int .u64 (Go.IntKind.wrap .u64 m0)] w1 fun r w' => r = .panicked [{ v := .iface 30 (.int .i64 e), recovered := false }] /\ Fine w1 S1 b x w') :
    Calls Tryd.prog 39 #[.pointer (some ⟨b, 0, none⟩), .int .i64 most] w fun r w' => r = .returned (.string ⟨⟨[]⟩⟩) /\ Fine w S b (zpn x e) w' := by
  have hmf : ∀ (fn : Fn) (first cap : Array Value) (w : World), (Instr.makeFunc fn first cap).run Tryd.prog w = .ok (.func fn first cap) w := fun _ _ _ _ => rfl
  have hlt := zdg h
  have hA := z2q w (.pointer (some ⟨b, 0, none⟩)) 47
  obtain ⟨S1, f1, f2, f3, hR1⟩ := z47 h #[.pointer (some ⟨b, 0, none⟩)] 47
  have hcr := z46 N hR1
  rw [hr] at hcr
  have hT2 : ∀ w2 : World, Fine (w.alloc (.cells #[.pointer (some ⟨b, 0, none⟩)] 47)) S1 b x w2 →
      Calls Tryd.prog 44 #[.pointer (some ⟨b, 0, none⟩), .int .u64 (Go.IntKind.wrap .u64 m0)] w2 fun r w' => r = .panicked [{ v := .iface 30 (.int .i64 e), recovered := false }] /\ Fine (w.alloc (.cells #[.pointer (some ⟨b, 0, none⟩)] 47)) S1 b x w' := fun w2 hF => by
    obtain ⟨S2, g1, g2, g3, hR2⟩ := hF
    exact (hT w2 S2 hR2).mono (by rintro r w' ⟨rfl, hF⟩; exact ⟨rfl, Fine.trans g1 g2 g3 hF⟩)
  have hC : ∀ w2 : World, Fine (w.alloc (.cells #[.pointer (some ⟨b, 0, none⟩)] 47)) S1 b x w2 -> w2.cell? ⟨w.heap.size, 0, none⟩ = some (.pointer (some ⟨b, 0, none⟩)) := fun w2 hF => z42 (S := S1) hlt hF
  have hD : ∀ w2 : World, Fine (w.alloc (.cells #[.pointer (some ⟨b, 0, none⟩)] 47)) S1 b x w2 -> Fine (w.alloc (.cells #[.pointer (some ⟨b, 0, none⟩)] 47)) S1 b x w2.drew := fun w2 hF => by
    obtain ⟨S2, g1, g2, g3, hR2⟩ := hF
    exact Fine.trans g1 g2 g3 (z3b hR2)
  clear hT
  go_enter_defers Tryd.func39, Tryd.ntmps39
  go_wp2_with (first
    | (go_at_call 43; refine hcr.mono ?_; rintro r w2 ⟨rfl, hF2⟩; have hc2 := hC w2 hF2; have hn := hT2 w2.drew (hD w2 hF2); clear hcr hF2 hC hT2 hD))
  refine wp_region_draw fun t => ?_
  have hm : Tryd.prog.follows .mixedOrders = true := mixed
  rw [hm]
  generalize hl : Region.schedule true _ t = l
  have hl2 : l ∈ z87 := by
    rw [<- hl, <- zen]
    exact (zsn ▸ zh5 rdT_drawn t)
  clear hl hm
  simp only [z87, List.mem_cons, List.not_mem_nil, or_false] at hl2
  rcases hl2 with rfl | rfl | rfl | rfl | rfl | rfl | rfl | rfl | rfl | rfl | rfl | rfl | rfl | rfl | rfl | rfl | rfl | rfl | rfl | rfl | rfl | rfl | rfl | rfl
  all_goals
    apply zlp
    . repeat (first | exact Picks.nil | (apply Picks.cons; rfl))
    go_wp2_with (first
      | (go_at_call 44; refine hn.mono ?_; rintro r w3 ⟨rfl, hF3⟩; have HM := Go.Lib.hid hF3; clear hn hF3))
    have hc4 := z42 (S := S1) hlt HM.out
    obtain ⟨S3, k1, k2, k3, hR3⟩ := HM.out
    obtain ⟨S4, l1, l2, l3, hR4⟩ := z3b hR3
    refine leaves_cons (f := 62) (args := #[.pointer (some ⟨w.heap.size, 0, none⟩)]) (by simp) (by simp [go_sem]) ?_
    refine (zrd hc4 (zl8 N hR4 e)).mono ?_
    rintro r u w5 ⟨⟨v, rfl⟩, rfl, hF5⟩
    simp [Leaves, settle, results, Tryd.results39, go_sem]
    exact Fine.trans f1 f2 f3 (Fine.trans k1 k2 k3 (Fine.trans l1 l2 l3 hF5))

end
end Go.Proofs.YtaackaafmidjkaaDoorLg

set_option linter.all false
set_option maxRecDepth 100000
namespace Go.Proofs.YtaackaafmidjkaaDoorLg
noncomputable section
open Go Go.Lift

set_option maxHeartbeats 16000000 in
theorem z14d (N : Nat) {w : World} {m0 : Int} {S : Hp} {b : Nat} {x x' : RdrT.den} {most n e : Int} (h : Rdr w S b x) (hM : (if most < 0 then (0 : Int) else most) = m0) (hr : (x.1 && (x.2.2.1 == 0)) = true)
    (hT : ∀ (w1 : World) (S1 : Hp), Rdr w1 S1 b x -> Calls Tryd.prog 44 #[.pointer (some ⟨b, 0, none⟩), .int .u64 (Go.IntKind.wrap .u64 m0)] w1 fun r w' => r = .returned (.int .u64 n) /\ Fine w1 S1 b x' w')
    (hU : ∀ (w1 : World) (S1 : Hp), Rdr w1 S1 b x' -> Calls Tryd.prog 63 #[.pointer (some ⟨b, 0, none⟩), .int .u64 n] w1 fun r w' => r = .panicked [{ v := .iface 30 (.int .i64 e), recovered := false }] /\ Fine w1 S1 b x' w') :
    Calls Tryd.prog 39 #[.pointer (some ⟨b, 0, none⟩), .int .i64 most] w fun r w' => r = .returned (.string ⟨⟨[]⟩⟩) /\ Fine w S b (zpn x' e) w' := by
  have hmf : ∀ (fn : Fn) (first cap : Array Value) (w : World), (Instr.makeFunc fn first cap).run Tryd.prog w = .ok (.func fn first cap) w := fun _ _ _ _ => rfl
  have hlt := zdg h
  have hA := z2q w (.pointer (some ⟨b, 0, none⟩)) 47
  obtain ⟨S1, f1, f2, f3, hR1⟩ := z47 h #[.pointer (some ⟨b, 0, none⟩)] 47
  have hcr := z46 N hR1
  rw [hr] at hcr
  have hT2 : ∀ w2 : World, Fine (w.alloc (.cells #[.pointer (some ⟨b, 0, none⟩)] 47)) S1 b x w2 →
      Calls Tryd.prog 44 #[.pointer (some ⟨b, 0, none⟩), .int .u64 (Go.IntKind.wrap .u64 m0)] w2 fun r w' => r = .returned (.int .u64 n) /\ Fine (w.alloc (.cells #[.pointer (some ⟨b, 0, none⟩)] 47)) S1 b x' w' := fun w2 hF => by
    obtain ⟨S2, g1, g2, g3, hR2⟩ := hF
    exact (hT w2 S2 hR2).mono (by rintro r w' ⟨rfl, hF⟩; exact ⟨rfl, Fine.trans g1 g2 g3 hF⟩)
  have hU2 : ∀ w2 : World, Fine (w.alloc (.cells #[.pointer (some ⟨b, 0, none⟩)] 47)) S1 b x' w2 →
      Calls Tryd.prog 63 #[.pointer (some ⟨b, 0, none⟩), .int .u64 n] w2 fun r w' => r = .panicked [{ v := .iface 30 (.int .i64 e), recovered := false }] /\ Fine (w.alloc (.cells #[.pointer (some ⟨b, 0, none⟩)] 47)) S1 b x' w' := fun w2 hF => by
    obtain ⟨S2, g1, g2, g3, hR2⟩ := hF
    exact (hU w2 S2 hR2).mono (by rintro r w' ⟨rfl, hF⟩; exact ⟨rfl, Fine.trans g1 g2 g3 hF⟩)
  have hC : ∀ w2 : World, Fine (w.alloc (.cells #[.pointer (some ⟨b, 0, none⟩)] 47)) S1 b x w2 -> w2.cell? ⟨w.heap.size, 0, none⟩ = some (.pointer (some ⟨b, 0, none⟩)) := fun w2 hF => z42 (S := S1) hlt hF
  have hD : ∀ w2 : World, Fine (w.alloc (.cells #[.pointer (some ⟨b, 0, none⟩)] 47)) S1 b x w2 -> Fine (w.alloc (.cells #[.pointer (some ⟨b, 0, none⟩)] 47)) S1 b x w2.drew := fun w2 hF => by
    obtain ⟨S2, g1, g2, g3, hR2⟩ := hF
    exact Fine.trans g1 g2 g3 (z3b hR2)
  clear hT hU
  go_enter_defers Tryd.func39, Tryd.ntmps39
  go_wp2_with (first
    | (go_at_call 43; refine hcr.mono ?_; rintro r w2 ⟨rfl, hF2⟩; have hc2 := hC w2 hF2; have hn := hT2 w2.drew (hD w2 hF2); clear hcr hF2 hC hT2 hD))
  refine wp_region_draw fun t => ?_
  have hm : Tryd.prog.follows .mixedOrders = true := mixed
  rw [hm]
  generalize hl : Region.schedule true _ t = l
  have hl2 : l ∈ z87 := by
    rw [<- hl, <- zen]
    exact (zsn ▸ zh5 rdT_drawn t)
  clear hl hm
  simp only [z87, List.mem_cons, List.not_mem_nil, or_false] at hl2
  rcases hl2 with rfl | rfl | rfl | rfl | rfl | rfl | rfl | rfl | rfl | rfl | rfl | rfl | rfl | rfl | rfl | rfl | rfl | rfl | rfl | rfl | rfl | rfl | rfl | rfl
  all_goals
    apply zlp
    . repeat (first | exact Picks.nil | (apply Picks.cons; rfl))
    go_wp2_with (first
      | (go_at_call 44; refine hn.mono ?_; rintro r w3 ⟨rfl, hF3⟩; have hc3 := z42 (S := S1) hlt hF3; have hu := hU2 w3 hF3; clear hn hF3 hU2)
      | (go_at_call 63; refine hu.mono ?_; rintro r w4 ⟨rfl, hF4⟩; have HM := Go.Lib.hid hF4; clear hu hF4))
    have hc4 := z42 (S := S1) hlt HM.out
    obtain ⟨S3, k1, k2, k3, hR3⟩ := HM.out
    obtain ⟨S4, l1, l2, l3, hR4⟩ := z3b hR3
    refine leaves_cons (f := 62) (args := #[.pointer (some ⟨w.heap.size, 0, none⟩)]) (by simp) (by simp [go_sem]) ?_
    refine (zrd hc4 (zl8 N hR4 e)).mono ?_
    rintro r u w5 ⟨⟨v, rfl⟩, rfl, hF5⟩
    simp [Leaves, settle, results, Tryd.results39, go_sem]
    exact Fine.trans f1 f2 f3 (Fine.trans k1 k2 k3 (Fine.trans l1 l2 l3 hF5))

end
end Go.Proofs.YtaackaafmidjkaaDoorLg

set_option linter.all false
namespace Go.Proofs.YtaackaafmidjkaaDoorPx
noncomputable section
open Go Go.Lift

theorem z78 {σ β : Type} {step : σ -> (σ -> Option β) -> Option β} (I : σ -> Prop) (m : σ -> Nat) (R : σ -> Option β)
    (h : ∀ v r, I v -> (∀ v', I v' -> m v' < m v -> r v' = R v') -> step v r = R v) : ∀ (n : Nat) (v : σ), I v -> m v < n -> iter step n v = R v
  | 0, v, _, hm => by omega
  | n + 1, v, hv, hm => h v (iter step n) hv fun v' hv' hlt => z78 I m R h n v' hv' (by omega)

theorem z18j (x : Int) : IntKind.wrap .i64 x = (x + 9223372036854775808) % 18446744073709551616 - 9223372036854775808 := by
  simp only [IntKind.wrap, IntKind.bits, IntKind.signed, Bool.true_and, decide_eq_true_eq, Nat.add_one_sub_one, Int.reducePow, ge_iff_le]
  split <;> omega

def I64 (x : Int) : Prop := -9223372036854775808 <= x /\ x <= 9223372036854775807

instance (x : Int) : Decidable (I64 x) := by unfold I64; infer_instance

theorem zfu {x : Int} (h : I64 x) : IntKind.wrap .i64 x = x := by
  rw [z18j]; unfold I64 at h; omega

theorem zb {α : Type} {b : Bool} (h : b = true) (x y : α) : cond b x y = x := by rw [h]; rfl
theorem z14 {α : Type} {b : Bool} (h : b = false) (x y : α) : cond b x y = y := by rw [h]; rfl

theorem z3r {n len : Nat} (h : n < len) : inR (n : Int) len = true := by simp only [inR, decide_eq_true_eq]; omega
def zqy : T -> Bool
  | .int _ => true
  | .bool => true
  | .str => true
  | .unit => true
  | .pair a b => zqy a && zqy b
  | .arr _ t => zqy t
  | _ => false

theorem zt8 : ∀ (t : T) (x y : t.den), zqy t = true -> (eqD t x y = true ↔ x = y)
  | .int _, x, y, _ => by simp [eqD]
  | .bool, x, y, _ => by simp [eqD]
  | .str, x, y, _ => by simp [eqD]
  | .unit, x, y, _ => by simp [eqD]
  | .pair a b, x, y, h => by
    simp only [zqy, Bool.and_eq_true] at h
    have h1 := zt8 a x.1 y.1 h.1
    have h2 := zt8 b x.2 y.2 h.2
    simp only [eqD]
    cases hq : eqD a x.1 y.1 with
    | false =>
      rw [hq] at h1
      simp only [cond_false, Bool.false_eq_true, false_iff]
      intro e; exact absurd (h1.2 (by rw [e])) (by simp)
    | true =>
      rw [cond_true, h2]
      constructor
      . intro e; exact Prod.ext (h1.1 hq) e
      . intro e; rw [e]
  | .arr n t, xs, ys, h => by
    have h : zqy t = true := h
    simp only [eqD]
    induction xs generalizing ys with
    | nil => cases ys <;> simp [zyl]
    | cons x xs ih =>
      cases ys with
      | nil => simp [zyl]
      | cons y ys =>
        have h1 := zt8 t x y h
        simp only [zyl]
        cases hq : eqD t x y with
        | false =>
          rw [hq] at h1
          simp only [cond_false, Bool.false_eq_true, false_iff]
          intro e
          exact absurd (h1.2 (List.cons.inj e).1) (by simp)
        | true =>
          rw [cond_true]
          have h2 : zyl (eqD t) xs ys = true ↔ xs = ys := ih ys
          constructor
          . intro e; rw [h1.1 hq, h2.1 e]
          . intro e; exact h2.2 (List.cons.inj e).2
  | .opq, x, y, h => by simp [zqy] at h
  | .sl _, x, y, h => by simp [zqy] at h
  | .ptr _, x, y, h => by simp [zqy] at h

theorem z15d {t : T} (h : zqy t = true) (x : t.den) : eqD t x x = true := (zt8 t x x h).2 rfl

end
end Go.Proofs.YtaackaafmidjkaaDoorPx

set_option linter.all false
namespace Go.Proofs.YtaackaafmidjkaaDoorPx
noncomputable section
open Go Go.Lift

theorem z16t (x : Int) : IntKind.wrap .u8 x = x % 256 := by
  simp only [IntKind.wrap, IntKind.bits, IntKind.signed, Bool.false_and, Bool.false_eq_true, if_false]
  rfl

theorem z18l (u : UInt8) : u.toNat < 256 := u.toNat_lt

theorem z3y {i : Nat} (h : i < 9223372036854775807) : IntKind.wrap .i64 ((i : Int) + 1) = ((i + 1 : Nat) : Int) := by
  rw [zfu (by unfold I64; omega)]; omega

theorem z81 (s : List UInt8) : toStr (ofStr s) = s := by
  simp [toStr, ofStr, Function.comp_def]
theorem zh6 (s : List UInt8) : (ofStr s).length = s.length := by simp [ofStr]
theorem zpp {α : Type} (l : List α) (d : α) (i : Nat) (h : i < l.length) : l.drop i = l.getD i d :: l.drop (i + 1) := by
  rw [List.getD_eq_getElem?_getD, List.getElem?_eq_getElem h, Option.getD_some, List.drop_eq_getElem_cons h]

theorem zpo {α : Type} (l : List α) {i : Nat} (h : l.length <= i) : l.drop i = [] := List.drop_of_length_le h

theorem zps {p : Prop} [Decidable p] (h : p) : decide p = true := decide_eq_true h
theorem z10a {p : Prop} [Decidable p] (h : ¬ p) : decide p = false := decide_eq_false h

theorem take_succ {α : Type} (l : List α) (d : α) (i : Nat) (h : i < l.length) : l.take (i + 1) = l.take i ++ [l.getD i d] := by
  rw [List.getD_eq_getElem?_getD, List.getElem?_eq_getElem h, Option.getD_some, List.take_succ_eq_append_getElem h]

theorem zsf {α : Type} (l : List α) (x : α) (i : Nat) (h : i < l.length) : (l.set i x).take (i + 1) = l.take i ++ [x] := by
  rw [List.take_succ_eq_append_getElem (by simpa using h), List.getElem_set_self]
  congr 1
  apply List.ext_getElem?
  intro j
  rw [List.getElem?_take, List.getElem?_take]
  split
  . rw [List.getElem?_set_ne (by omega)]
  . rfl

end
end Go.Proofs.YtaackaafmidjkaaDoorPx

set_option linter.all false
namespace Go.Proofs.YtaackaafmidjkaaDoorPx
noncomputable section
open Go Go.Lift

def zi8 : Nat -> Nat -> List UInt8
  | 0, n => [UInt8.ofNat n]
  | f + 1, n => if n < 128 then [UInt8.ofNat n] else UInt8.ofNat (n % 128 + 128) :: zi8 f (n / 128)

def z5p (n : Nat) : List UInt8 := zi8 9 n

theorem zuh : ∀ (f : Nat) (n : Nat), n < 128 ^ (f + 1) -> zi8 (f + 1) n = zi8 f n
  | 0, n, h => by
    simp only [zi8]
    rw [if_pos (by simpa using h)]
  | f + 1, n, h => by
    have hp : (128 : Nat) ^ (f + 2) = 128 * 128 ^ (f + 1) := by rw [Nat.pow_succ, Nat.mul_comm]
    have e : zi8 (f + 1 + 1) n = if n < 128 then [UInt8.ofNat n] else UInt8.ofNat (n % 128 + 128) :: zi8 (f + 1) (n / 128) := rfl
    rw [e]
    have e2 : zi8 (f + 1) n = if n < 128 then [UInt8.ofNat n] else UInt8.ofNat (n % 128 + 128) :: zi8 f (n / 128) := rfl
    rw [e2, zuh f (n / 128) (by omega)]

theorem z11n {n : Nat} (h : n < 18446744073709551616) : z5p n = if n < 128 then [UInt8.ofNat n] else UInt8.ofNat (n % 128 + 128) :: z5p (n / 128) := by
  have e : zi8 9 n = if n < 128 then [UInt8.ofNat n] else UInt8.ofNat (n % 128 + 128) :: zi8 8 (n / 128) := rfl
  unfold z5p
  rw [e, zuh 8 (n / 128) (by have : (128 : Nat) ^ 9 = 9223372036854775808 := (by decide); omega)]

theorem znt : ∀ (f n : Nat), 1 <= (zi8 f n).length /\ (zi8 f n).length <= f + 1
  | 0, _ => by simp [zi8]
  | f + 1, n => by
    have := znt f (n / 128)
    simp only [zi8]
    split
    . simp
    . simp only [List.length_cons]; omega

theorem z6y (n : Nat) : 1 <= (z5p n).length /\ (z5p n).length <= 10 := znt 9 n

def val : List UInt8 -> Nat
  | [] => 0
  | b :: r => b.toNat % 128 + 128 * val r

theorem zx8 : ∀ l : List UInt8, val l < 128 ^ l.length
  | [] => by simp [val]
  | b :: r => by
    have := zx8 r
    simp only [val, List.length_cons, Nat.pow_succ]
    omega

def ztj : List UInt8 -> Prop
  | [] => False
  | [b] => b.toNat < 128
  | b :: c :: r => 128 <= b.toNat /\ ztj (c :: r) /\ (r = [] -> c.toNat ≠ 0)

theorem zre : ∀ (f n : Nat), n < 128 ^ (f + 1) -> ztj (zi8 f n) /\ (zi8 f n = [0] -> n = 0) /\ val (zi8 f n) = n
  | 0, n, h => by
    have h : n < 128 := by simpa using h
    have e : (UInt8.ofNat n).toNat = n := by rw [UInt8.toNat_ofNat']; omega
    refine ⟨by simp only [zi8, ztj, e]; omega, fun h0 => ?_, ?_⟩
    . simp only [zi8, List.cons.injEq, and_true] at h0
      have := congrArg UInt8.toNat h0
      rw [e] at this; simpa using this
    . simp only [zi8, val, e]; omega
  | f + 1, n, h => by
    have hp : (128 : Nat) ^ (f + 2) = 128 * 128 ^ (f + 1) := by rw [Nat.pow_succ, Nat.mul_comm]
    simp only [zi8]
    split
    . rename_i hn
      have e : (UInt8.ofNat n).toNat = n := by rw [UInt8.toNat_ofNat']; omega
      refine ⟨by simp only [ztj, e]; omega, fun h0 => ?_, ?_⟩
      . simp only [List.cons.injEq, and_true] at h0
        have := congrArg UInt8.toNat h0
        rw [e] at this; simpa using this
      . simp only [val, e]; omega
    . rename_i hn
      obtain ⟨h1, h2, h3⟩ := zre f (n / 128) (by omega)
      have e : (UInt8.ofNat (n % 128 + 128)).toNat = n % 128 + 128 := by rw [UInt8.toNat_ofNat']; omega
      have hl := (znt f (n / 128)).1
      refine ⟨?_, fun h0 => ?_, ?_⟩
      . cases hq : zi8 f (n / 128) with
        | nil => rw [hq] at hl; simp at hl
        | cons c r =>
          rw [hq] at h1 h2 h3
          refine ⟨by omega, h1, fun hr => ?_⟩
          subst hr
          intro h0
          have : c = 0 := UInt8.toNat_inj.1 (by simpa using h0)
          have := h2 (by rw [this])
          omega
      . cases hq : zi8 f (n / 128) with
        | nil => rw [hq] at hl; simp at hl
        | cons c r => rw [hq] at h0; simp at h0
      . simp only [val, e, h3]; omega

theorem zzk {n : Nat} (h : n < 18446744073709551616) : ztj (z5p n) /\ val (z5p n) = n := by
  have := zre 9 n (by have : (128 : Nat) ^ 10 = 1180591620717411303424 := (by decide); omega)
  exact ⟨this.1, this.2.2⟩

theorem zrx : ∀ (f : Nat) (l : List UInt8), ztj l -> l.length <= f + 1 -> zi8 f (val l) = l /\ (1 < l.length -> 1 <= val l)
  | _, [], h, _ => h.elim
  | f, [b], h, _ => by
    have h : b.toNat < 128 := h
    have e : val [b] = b.toNat := by simp only [val]; omega
    refine ⟨?_, by simp⟩
    rw [e]
    cases f with
    | zero => simp [zi8]
    | succ f => simp only [zi8, if_pos h, UInt8.ofNat_toNat]
  | 0, b :: c :: r, _, hl => by simp at hl
  | f + 1, b :: c :: r, h, hl => by
    obtain ⟨h1, h2, h3⟩ := h
    obtain ⟨g1, g2⟩ := zrx f (c :: r) h2 (by simpa using hl)
    have hb := z18l b
    have hv : 1 <= val (c :: r) := by
      cases r with
      | nil =>
        have := h3 rfl
        have h2 : c.toNat < 128 := h2
        simp only [val]; omega
      | cons d r => exact g2 (by simp)
    have e : val (b :: c :: r) = b.toNat % 128 + 128 * val (c :: r) := rfl
    refine ⟨?_, fun _ => by omega⟩
    rw [e]
    simp only [zi8]
    rw [if_neg (by omega), show (b.toNat % 128 + 128 * val (c :: r)) / 128 = val (c :: r) by omega, g1]
    have : UInt8.ofNat ((b.toNat % 128 + 128 * val (c :: r)) % 128 + 128) = b := by
      apply UInt8.toNat_inj.1
      rw [UInt8.toNat_ofNat']; omega
    rw [this]

def z8g : List UInt8 -> Nat
  | [] => 0
  | b :: r => if 128 <= b.toNat then z8g r + 1 else 0

theorem zwg : ∀ l : List UInt8, z8g l <= l.length
  | [] => by simp [z8g]
  | b :: r => by
    have := zwg r
    simp only [z8g, List.length_cons]; split <;> omega

theorem z12g : ∀ (l : List UInt8) (i : Nat), i < z8g l -> 128 <= (l.getD i 0).toNat
  | [], i, h => by simp [z8g] at h
  | b :: r, i, h => by
    simp only [z8g] at h
    split at h
    . cases i with
      | zero => simpa
      | succ i => simpa using z12g r i (by omega)
    . omega

theorem zye : ∀ (l : List UInt8), z8g l < l.length -> (l.getD (z8g l) 0).toNat < 128
  | [], h => by simp [z8g] at h
  | b :: r, h => by
    simp only [z8g, List.length_cons] at h ⊢
    split
    . rename_i hb
      rw [if_pos hb] at h
      simpa using zye r (by omega)
    . simp; omega

theorem zry : ∀ (l : List UInt8) (r : List UInt8), ztj l -> z8g (l ++ r) + 1 = l.length
  | [], _, h => h.elim
  | [b], r, h => by
    have h : b.toNat < 128 := h
    simp only [List.cons_append, List.nil_append, z8g]
    rw [if_neg (by omega)]; rfl
  | b :: c :: l, r, h => by
    obtain ⟨h1, h2, _⟩ := h
    have := zry (c :: l) r h2
    have e : z8g (b :: c :: l ++ r) = if 128 <= b.toNat then z8g (c :: l ++ r) + 1 else 0 := rfl
    rw [e, if_pos h1, this]; rfl

theorem zrw : ∀ (l : List UInt8), z8g l < l.length -> (z8g l = 0 \/ (l.getD (z8g l) 0).toNat ≠ 0) -> ztj (l.take (z8g l + 1))
  | [], h, _ => by simp [z8g] at h
  | b :: r, h, h0 => by
    simp only [z8g] at h h0 ⊢
    by_cases hb : 128 <= b.toNat
    . rw [if_pos hb] at h h0 ⊢
      have h0 : (r.getD (z8g r) 0).toNat ≠ 0 := by
        rcases h0 with h0 | h0
        . omega
        . simpa using h0
      have h : z8g r < r.length := by simp at h; omega
      have ih := zrw r h (.inr h0)
      rw [List.take_succ_cons]
      cases r with
      | nil => simp at h
      | cons c r =>
        rw [List.take_succ_cons] at ih ⊢
        refine ⟨hb, ih, fun hr => ?_⟩
        simp only [z8g] at h h0 hr
        split at h0
        . rename_i hc
          rw [if_pos hc] at hr h
          have := congrArg List.length hr
          rw [List.length_take, List.length_nil] at this
          simp at h; omega
        . simpa using h0
    . rw [if_neg hb]
      simp only [List.take_succ_cons, List.take_zero]
      show b.toNat < 128
      omega

theorem zrz : ∀ (l : List UInt8), ztj l -> (l.getD (l.length - 1) 0).toNat < 128 /\ (1 < l.length -> (l.getD (l.length - 1) 0).toNat ≠ 0)
  | [], h => h.elim
  | [b], h => ⟨h, by simp⟩
  | b :: c :: r, ⟨_, h2, h3⟩ => by
    have ih := zrz (c :: r) h2
    have e : (b :: c :: r).length - 1 = ((c :: r).length - 1) + 1 := by simp
    rw [e, List.getD_cons_succ]
    refine ⟨ih.1, fun _ => ?_⟩
    cases r with
    | nil => exact h3 rfl
    | cons d r => exact ih.2 (by simp)

def z4v (s : List UInt8) : Nat × Nat × Int :=
 if 10 <= z8g s then (0, 0, 2)
 else if z8g s = s.length then (0, 0, 1)
 else if (0 < z8g s /\ (s.getD (z8g s) 0).toNat = 0) \/ (z8g s = 9 /\ 1 < (s.getD 9 0).toNat) then (0, 0, 2)
 else (val (s.take (z8g s + 1)), z8g s + 1, 0)

theorem zhr : ∀ (a b : List UInt8), val (a ++ b) = val a + 128 ^ a.length * val b
  | [], b => by simp [val]
  | x :: a, b => by
    simp only [List.cons_append, val, zhr a b, List.length_cons, Nat.pow_succ]
    rw [Nat.mul_add, Nat.mul_comm (128 ^ a.length) 128, Nat.mul_assoc, Nat.add_assoc]

theorem z16w {s : List UInt8} (h : z8g s < s.length) (h9 : z8g s <= 9) (hb : ¬ (z8g s = 9 /\ 1 < (s.getD 9 0).toNat)) : val (s.take (z8g s + 1)) < 18446744073709551616 := by
  have hlt := zx8 (s.take (z8g s + 1))
  have hl : (s.take (z8g s + 1)).length = z8g s + 1 := by rw [List.length_take]; omega
  rw [hl] at hlt
  by_cases h8 : z8g s <= 8
  . have : (128 : Nat) ^ (z8g s + 1) <= 128 ^ 9 := Nat.pow_le_pow_right (by omega) (by omega)
    have e : (128 : Nat) ^ 9 = 9223372036854775808 := by decide
    omega
  . have h9 : z8g s = 9 := by omega
    rw [h9] at h ⊢
    rw [take_succ s 0 9 h, zhr]
    have h1 := zx8 (s.take 9)
    have hl : (s.take 9).length = 9 := by rw [List.length_take]; omega
    rw [hl] at h1 ⊢
    have e : (128 : Nat) ^ 9 = 9223372036854775808 := by decide
    rw [e] at h1 ⊢
    have h2 : (s.getD 9 0).toNat <= 1 := by omega
    simp only [val]
    omega

theorem z14e {n : Nat} (h : n < 18446744073709551616) (s : List UInt8) : z4v (z5p n ++ s) = (n, (z5p n).length, 0) := by
  obtain ⟨hc, hv⟩ := zzk h
  have hl := z6y n
  have hlead := zry (z5p n) s hc
  have hlast := zrz (z5p n) hc
  unfold z4v
  have hget : ((z5p n ++ s).getD (z8g (z5p n ++ s)) 0) = (z5p n).getD ((z5p n).length - 1) 0 := by
    rw [show z8g (z5p n ++ s) = (z5p n).length - 1 by omega, List.getD_eq_getElem?_getD, List.getElem?_append_left (by omega), <- List.getD_eq_getElem?_getD]
  rw [if_neg (by omega), if_neg (by rw [List.length_append]; omega), if_neg]
  . rw [hlead, List.take_left', hv]
    rfl
  . rintro (⟨h1, h2⟩ | ⟨h1, h2⟩)
    . rw [hget] at h2
      exact hlast.2 (by omega) h2
    . -- ten bytes: the number would be too great
      have hg : (z5p n ++ s).getD 9 0 = (z5p n).getD ((z5p n).length - 1) 0 := by rw [<- hget, h1]
      rw [hg] at h2
      have h10 : (z5p n).length = 10 := by omega
      have e := take_succ (z5p n) 0 9 (by omega)
      rw [List.take_of_length_le (by omega)] at e
      have hv2 := hv
      rw [e, zhr] at hv2
      have hl9 : ((z5p n).take 9).length = 9 := by rw [List.length_take]; omega
      rw [hl9] at hv2
      have e9 : (128 : Nat) ^ 9 = 9223372036854775808 := by decide
      rw [e9] at hv2
      rw [h10] at h2 hlast
      have := hlast.1
      simp only [val] at hv2
      have e3 : ((z5p n).getD 9 0).toNat % 128 = ((z5p n).getD 9 0).toNat := by
        have : ((z5p n).getD (10 - 1) 0).toNat < 128 := this
        exact Nat.mod_eq_of_lt this
      rw [e3] at hv2
      have h2 : 1 < ((z5p n).getD 9 0).toNat := h2
      omega

theorem take_ok {s : List UInt8} {n k : Nat} (h : z4v s = (n, k, 0)) : n < 18446744073709551616 /\ 1 <= k /\ k <= s.length /\ z5p n = s.take k := by
  unfold z4v at h
  have hle := zwg s
  split at h
  . cases h
  . split at h
    . cases h
    . split at h
      . cases h
      . rename_i h1 h2 h3
        cases h
        have hlt : z8g s < s.length := by omega
        have hc := zrw s hlt (by
          by_cases h0 : z8g s = 0
          . exact .inl h0
          . exact .inr fun h4 => h3 (.inl ⟨by omega, h4⟩))
        refine ⟨z16w hlt (by omega) (fun h4 => h3 (.inr h4)), by omega, by omega, ?_⟩
        exact (zrx 9 _ hc (by rw [List.length_take]; omega)).1

theorem zxg {s : List UInt8} {n k : Nat} {e : Int} (h : z4v s = (n, k, e)) (he : e ≠ 0) : n = 0 /\ k = 0 := by
  unfold z4v at h
  split at h
  . cases h; exact ⟨rfl, rfl⟩
  . split at h
    . cases h; exact ⟨rfl, rfl⟩
    . split at h
      . cases h; exact ⟨rfl, rfl⟩
      . cases h; exact absurd rfl he

end
end Go.Proofs.YtaackaafmidjkaaDoorPx
