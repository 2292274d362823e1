import Derived.Test.YtlohplpnhopldaaLgW
import Derived.Test.YtlohplpnhopldaaLgPrPt1
import Derived.WalkKit
import Derived.Tactics
import Derived.Tactics2
import Derived.Lib.Hide
import Derived.Below
import Derived.WalkSmall
import Derived.LoopN
import Derived.Deep.RegionHeld3
import Derived.Laws.IdiomStrings
import Derived.Test.YtlohplpnhopldaaChecked
import Derived.KernelRfl
set_option linter.all false
set_option maxRecDepth 100000
namespace Go.Proofs.YtlohplpnhopldaaLg
noncomputable section
open Go Go.Lift

def ty3 : TyI := ⟨(Go.TypeDesc.int Go.IntKind.i64), 1, 8, (.int .i64), (0 : Int), false⟩

theorem z17w : TyOk Go.Proofs.Try.prog 3 ty3 := TyOk.of (by kernel_rfl) (by kernel_rfl) (by kernel_rfl) (by kernel_rfl)

def ty4 : TyI := ⟨Go.TypeDesc.bool, 1, 1, .bool, false, false⟩

theorem z17v : TyOk Go.Proofs.Try.prog 4 ty4 := TyOk.of (by kernel_rfl) (by kernel_rfl) (by kernel_rfl) (by kernel_rfl)

def ty5 : TyI := ⟨(Go.TypeDesc.int Go.IntKind.u8), 1, 1, (.int .u8), (0 : Int), false⟩

theorem z17u : TyOk Go.Proofs.Try.prog 5 ty5 := TyOk.of (by kernel_rfl) (by kernel_rfl) (by kernel_rfl) (by kernel_rfl)

def ty9 : TyI := ⟨Go.TypeDesc.string, 1, 16, .str, ([] : List UInt8), false⟩

theorem z17t : TyOk Go.Proofs.Try.prog 9 ty9 := TyOk.of (by kernel_rfl) (by kernel_rfl) (by kernel_rfl) (by kernel_rfl)

def ty21 : TyI := ⟨(Go.TypeDesc.int Go.IntKind.i32), 1, 4, (.int .i32), (0 : Int), false⟩

theorem z16u : TyOk Go.Proofs.Try.prog 21 ty21 := TyOk.of (by kernel_rfl) (by kernel_rfl) (by kernel_rfl) (by kernel_rfl)

def ty22 : TyI := ⟨(Go.TypeDesc.slice 41), 1, 24, (.sl (.pair .str (.pair (.int .i64) (.pair (.int .i64) (.pair (.sl (.pair (.int .i64) (.pair .str .unit))) .unit))))), ([] : List ((List UInt8) × (Int × (Int × ((List (Int × ((List UInt8) × Unit))) × Unit))))), false⟩

theorem z16t : TyOk Go.Proofs.Try.prog 22 ty22 := TyOk.of (by kernel_rfl) (by kernel_rfl) (by kernel_rfl) (by kernel_rfl)

def ty24 : TyI := ⟨(Go.TypeDesc.struct (List.toArray ([(Go.Field.mk "Tenants" 22 0 false "" "" 0), (Go.Field.mk "Serial" 3 1 false "" "" 24)] : List Go.Field))), 2, 32, (.pair (.sl (.pair .str (.pair (.int .i64) (.pair (.int .i64) (.pair (.sl (.pair (.int .i64) (.pair .str .unit))) .unit))))) (.pair (.int .i64) .unit)), (([] : List ((List UInt8) × (Int × (Int × ((List (Int × ((List UInt8) × Unit))) × Unit))))), (0 : Int), ()), true⟩

theorem z16s : TyOk Go.Proofs.Try.prog 24 ty24 := TyOk.of (by kernel_rfl) (by kernel_rfl) (by kernel_rfl) (by kernel_rfl)

def ty25 : TyI := ⟨(Go.TypeDesc.array 2 9), 2, 32, (.arr 2 .str), ([([] : List UInt8), ([] : List UInt8)] : List (List UInt8)), true⟩

theorem z16r : TyOk Go.Proofs.Try.prog 25 ty25 := TyOk.of (by kernel_rfl) (by kernel_rfl) (by kernel_rfl) (by kernel_rfl)

def ty28 : TyI := ⟨(Go.TypeDesc.slice 51), 1, 24, (.sl (.pair (.int .i64) (.pair .str (.pair (.int .i64) (.pair (.int .i64) (.pair .str .unit)))))), ([] : List (Int × ((List UInt8) × (Int × (Int × ((List UInt8) × Unit)))))), false⟩

theorem z16q : TyOk Go.Proofs.Try.prog 28 ty28 := TyOk.of (by kernel_rfl) (by kernel_rfl) (by kernel_rfl) (by kernel_rfl)

def ty29 : TyI := ⟨(Go.TypeDesc.int Go.IntKind.i64), 1, 8, (.int .i64), (0 : Int), false⟩

theorem z16p : TyOk Go.Proofs.Try.prog 29 ty29 := TyOk.of (by kernel_rfl) (by kernel_rfl) (by kernel_rfl) (by kernel_rfl)

def ty39 : TyI := ⟨(Go.TypeDesc.slice 43), 1, 24, (.sl (.pair (.int .i64) (.pair .str .unit))), ([] : List (Int × ((List UInt8) × Unit))), false⟩

theorem z16o : TyOk Go.Proofs.Try.prog 39 ty39 := TyOk.of (by kernel_rfl) (by kernel_rfl) (by kernel_rfl) (by kernel_rfl)

def ty41 : TyI := ⟨(Go.TypeDesc.struct (List.toArray ([(Go.Field.mk "Name" 9 0 false "" "" 0), (Go.Field.mk "Epoch" 3 1 false "" "" 16), (Go.Field.mk "Next" 3 2 false "" "" 24), (Go.Field.mk "Keys" 39 3 false "" "" 32)] : List Go.Field))), 4, 56, (.pair .str (.pair (.int .i64) (.pair (.int .i64) (.pair (.sl (.pair (.int .i64) (.pair .str .unit))) .unit)))), (([] : List UInt8), (0 : Int), (0 : Int), ([] : List (Int × ((List UInt8) × Unit))), ()), true⟩

theorem ty41_ok : TyOk Go.Proofs.Try.prog 41 ty41 := TyOk.of (by kernel_rfl) (by kernel_rfl) (by kernel_rfl) (by kernel_rfl)

def ty43 : TyI := ⟨(Go.TypeDesc.struct (List.toArray ([(Go.Field.mk "Num" 3 0 false "" "" 0), (Go.Field.mk "Text" 9 1 false "" "" 8)] : List Go.Field))), 2, 24, (.pair (.int .i64) (.pair .str .unit)), ((0 : Int), ([] : List UInt8), ()), true⟩

theorem ty43_ok : TyOk Go.Proofs.Try.prog 43 ty43 := TyOk.of (by kernel_rfl) (by kernel_rfl) (by kernel_rfl) (by kernel_rfl)

def ty51 : TyI := ⟨(Go.TypeDesc.struct (List.toArray ([(Go.Field.mk "Kind" 3 0 false "" "" 0), (Go.Field.mk "Tenant" 9 1 false "" "" 8), (Go.Field.mk "Num" 3 2 false "" "" 24), (Go.Field.mk "Epoch" 3 3 false "" "" 32), (Go.Field.mk "Text" 9 4 false "" "" 40)] : List Go.Field))), 5, 56, (.pair (.int .i64) (.pair .str (.pair (.int .i64) (.pair (.int .i64) (.pair .str .unit))))), ((0 : Int), ([] : List UInt8), (0 : Int), (0 : Int), ([] : List UInt8), ()), true⟩

theorem z16n : TyOk Go.Proofs.Try.prog 51 ty51 := TyOk.of (by kernel_rfl) (by kernel_rfl) (by kernel_rfl) (by kernel_rfl)

def ty57 : TyI := ⟨(Go.TypeDesc.func (List.toArray ([41] : List Nat)) (List.toArray ([4] : List Nat)) false), 1, 8, .opq, Go.Value.nilFunc, false⟩

theorem z16m : TyOk Go.Proofs.Try.prog 57 ty57 := TyOk.of (by kernel_rfl) (by kernel_rfl) (by kernel_rfl) (by kernel_rfl)

def ty71 : TyI := ⟨(Go.TypeDesc.func (List.toArray ([43] : List Nat)) (List.toArray ([4] : List Nat)) false), 1, 8, .opq, Go.Value.nilFunc, false⟩

theorem z16l : TyOk Go.Proofs.Try.prog 71 ty71 := TyOk.of (by kernel_rfl) (by kernel_rfl) (by kernel_rfl) (by kernel_rfl)

def ty73 : TyI := ⟨(Go.TypeDesc.func (List.toArray ([21, 4] : List Nat)) (List.toArray ([4] : List Nat)) false), 1, 8, .opq, Go.Value.nilFunc, false⟩

theorem z16k : TyOk Go.Proofs.Try.prog 73 ty73 := TyOk.of (by kernel_rfl) (by kernel_rfl) (by kernel_rfl) (by kernel_rfl)

def tys : List (Nat × TyI) := [(3, ty3), (4, ty4), (5, ty5), (9, ty9), (21, ty21), (22, ty22), (24, ty24), (25, ty25), (28, ty28), (29, ty29), (39, ty39), (41, ty41), (43, ty43), (51, ty51), (57, ty57), (71, ty71), (73, ty73)]

theorem z1w : TysOk Go.Proofs.Try.prog tys := TysOk.cons z17w (TysOk.cons z17v (TysOk.cons z17u (TysOk.cons z17t (TysOk.cons z16u (TysOk.cons z16t (TysOk.cons z16s (TysOk.cons z16r (TysOk.cons z16q (TysOk.cons z16p (TysOk.cons z16o (TysOk.cons ty41_ok (TysOk.cons ty43_ok (TysOk.cons z16n (TysOk.cons z16m (TysOk.cons z16l (TysOk.cons z16k (TysOk.nil)))))))))))))))))

theorem mixed : Go.Proofs.Try.prog.follows .mixedOrders = true := by kernel_rfl

def zp1 : Code := (Go.Proofs.Try.f30.body).getD .skip

def zl0 : List (List Nat × List Nat) := [([0], [0, 1]), ([0, 1], [4]), ([1, 1], [4])]

def zdq (N : Nat) : Env := z30 tys zh [] [] [] [] false [] []

theorem zq7 (N : Nat) : EnvOk Go.Proofs.Try.prog (zdq N) := zz mixed z1w (FnsOk.nil) (ItsOk.nil)

def z2y (N : Nat) (n : Int) (low : Int) : Option Bool :=
 cond (decide (low <= n))
 (some (decide (n <= (1099511627776 : Int))))
 (some false)

def zkz (N : Nat) : Tab Bool := []

theorem zp0 (N : Nat) (x : z29 [(0, .v (.int .i64)), (0, .v (.int .i64))]) : z9s (zdq N) N (zkz N) zl0 Go.Proofs.Try.f30 (mkS [(0, .v (.int .i64)), (0, .v (.int .i64))] 0 x) (z49 (.v .bool) 2) = z2y N x.1 x.2.1 := by kernel_rfl

def z6r (N : Nat) : List A -> Res := z1x [(0, .v (.int .i64)), (0, .v (.int .i64))] (fun x => z2y N x.1 x.2.1) (z4j (.v .bool) 2)

theorem zc5 (N : Nat) : Contract Go.Proofs.Try.prog zh 30 (z6r N) :=
  Contract.of (E := zdq N) (H := zkz N) (L := zl0) (N := N) (body := zp1) (K := (z49 (.v .bool) 2)) (zq7 N) Go.Proofs.Try.func30 (by kernel_rfl) (by decide) (fun _ hb => TabOk.nil) (fun x y h => by rw [zp0]; exact h) (z1n (s := (.v .bool)) (m := 2))

def zrb : Code := (Go.Proofs.Try.f58.body).getD .skip

def zon : List (List Nat × List Nat) := [([0], [0]), ([0, 1], [2]), ([1, 1], [2])]

def zgt (N : Nat) : Env := z30 tys zh [] [] [] [] false [] []

theorem zsx (N : Nat) : EnvOk Go.Proofs.Try.prog (zgt N) := zz mixed z1w (FnsOk.nil) (ItsOk.nil)

def zhf (N : Nat) (c : Int) : Option Bool :=
 cond (decide ((48 : Int) <= c))
 (some (decide (c <= (57 : Int))))
 (some false)

def zom (N : Nat) : Tab Bool := []

theorem zra (N : Nat) (x : z29 [(0, .v (.int .i32))]) : z9s (zgt N) N (zom N) zon Go.Proofs.Try.f58 (mkS [(0, .v (.int .i32))] 0 x) (z49 (.v .bool) 1) = zhf N x.1 := by kernel_rfl

def zje (N : Nat) : List A -> Res := z1x [(0, .v (.int .i32))] (fun x => zhf N x.1) (z4j (.v .bool) 1)

theorem zva (N : Nat) : Contract Go.Proofs.Try.prog zh 58 (zje N) :=
  Contract.of (E := zgt N) (H := zom N) (L := zon) (N := N) (body := zrb) (K := (z49 (.v .bool) 1)) (zsx N) Go.Proofs.Try.func58 (by kernel_rfl) (by decide) (fun _ hb => TabOk.nil) (fun x y h => by rw [zra]; exact h) (z1n (s := (.v .bool)) (m := 1))

def z71 : Code := (Go.Proofs.Try.f54.body).getD .skip

def zb8 : List (List Nat × List Nat) := [([0], [0, 1]), ([0, 1], [5, 0, 1]), ([0, 1, 1], [4]), ([1, 1, 1], [4])]

def z72 (N : Nat) : Env := z30 tys zh [(58, zje N)] [] [] [] false [] []

theorem znb (N : Nat) : EnvOk Go.Proofs.Try.prog (z72 N) := zz mixed z1w (FnsOk.cons (zva N) (FnsOk.nil)) (ItsOk.nil)

def z8c (N : Nat) (c : Int) (first : Bool) (k0 : Bool -> Option Bool) : Option Bool :=
 cond (decide ((97 : Int) <= c))
 (k0 (decide (c <= (122 : Int))))
 (k0 false)

def zex (N : Nat) (x : z29 [(0, .v (.int .i32)), (0, .v .bool)]) (K : Ex -> List A -> Option Bool) : Option Bool :=
 z8c N x.1 x.2.1 (fun a2 => (K .normal (mkS [(0, .v (.int .i32)), (0, .v .bool), (3, .v .bool)] 19 (x.1, x.2.1, a2, ()))))

def zew (N : Nat) : Hd Bool := fun st K => (unS [(0, .v (.int .i32)), (0, .v .bool)] 23 (restr [0, 1] 0 st)).bind fun x => zex N x K

def zpd (N : Nat) : Tab Bool := []

theorem zna {N : Nat} {c : Ctx} (hb : Base Go.Proofs.Try.prog (z72 N) c) : z11 Go.Proofs.Try.prog c (zj z71 [0, 1]) (zew N) :=
  z1a (s := [(0, .v (.int .i32)), (0, .v .bool)]) (m := 23) (g := zex N) [0, 1] (zd hb N (zpd N) zb8 z71 TabOk.nil [0, 1] _ rfl) (fun x K => by kernel_rfl)

def z73 (N : Nat) (c : Int) (first : Bool) : Option Bool :=
 z8c N c first
 (fun letter => cond letter
 (some true)
 ((zhf N c).bind fun y =>
 cond y
 (some (!first))
 (cond (c == (45 : Int))
 (some (!first))
 (some false))))

def zgs (N : Nat) : Tab Bool := [([0, 1], zew N)]

theorem zly (N : Nat) (x : z29 [(0, .v (.int .i32)), (0, .v .bool)]) : z9s (z72 N) N (zgs N) zb8 Go.Proofs.Try.f54 (mkS [(0, .v (.int .i32)), (0, .v .bool)] 0 x) (z49 (.v .bool) 2) = z73 N x.1 x.2.1 := by kernel_rfl

def z7m (N : Nat) : List A -> Res := z1x [(0, .v (.int .i32)), (0, .v .bool)] (fun x => z73 N x.1 x.2.1) (z4j (.v .bool) 2)

theorem zey (N : Nat) : Contract Go.Proofs.Try.prog zh 54 (z7m N) :=
  Contract.of (E := z72 N) (H := zgs N) (L := zb8) (N := N) (body := z71) (K := (z49 (.v .bool) 2)) (znb N) Go.Proofs.Try.func54 (by kernel_rfl) (by decide) (fun _ hb => (TabOk.cons (zna hb) TabOk.nil)) (fun x y h => by rw [zly]; exact h) (z1n (s := (.v .bool)) (m := 2))

def z25 : Code := (Go.Proofs.Try.f53.body).getD .skip

def z4k : List (List Nat × List Nat) := [([0], [0, 1]), ([0, 0, 1], [13, 0, 1]), ([1, 0, 1], [0, 1]), ([0, 0, 1, 0, 1], [4]), ([1, 0, 1, 0, 1], [4]), ([0, 0, 1, 1], [15, 1]), ([0, 1, 0, 1, 1], [15, 1]), ([0, 0, 0, 1, 0, 1, 1], [17, 16, 1, 15]), ([0, 1, 0, 0, 1, 0, 1, 1], [16, 1, 15]), ([1, 0, 1, 0, 0, 1, 0, 1, 1], []), ([0, 0, 1, 1, 0, 0, 1, 0, 1, 1], [1, 6, 5, 15]), ([0, 1, 0, 1, 1, 0, 0, 1, 0, 1, 1], [25, 15, 1]), ([1, 1, 0, 1, 1, 0, 0, 1, 0, 1, 1], [15, 1]), ([0, 0, 1, 1, 0, 1, 1, 0, 0, 1, 0, 1, 1], [4]), ([1, 0, 1, 1, 0, 1, 1, 0, 0, 1, 0, 1, 1], [4]), ([1, 1, 0, 0, 1, 0, 1, 1], [15, 1]), ([1, 0, 1, 1], []), ([0, 1, 1, 1], [4]), ([1, 1, 1, 1], [4])]

def z3d (N : Nat) : Env := z30 tys zh [(54, z7m N)] [] [] [] false [] []

theorem znf (N : Nat) : EnvOk Go.Proofs.Try.prog (z3d N) := zz mixed z1w (FnsOk.cons (zey N) (FnsOk.nil)) (ItsOk.nil)

def z8e (N : Nat) (s : (List UInt8)) (k0 : Bool -> Option Bool) : Option Bool :=
 cond (s == ([] : List UInt8))
 (k0 true)
 (k0 (decide ((32 : Int) < (((List.length s) : Nat) : Int))))

def zf4 (N : Nat) (x : z29 [(0, .v .str), (0, .fnc 54)]) (K : Ex -> List A -> Option Bool) : Option Bool :=
 z8e N x.1 (fun a1 => (K .normal (mkS [(0, .v .str), (0, .fnc 54), (11, .v .bool)] 12 (x.1, (), a1, ()))))

def zf1 (N : Nat) : Hd Bool := fun st K => (unS [(0, .v .str), (0, .fnc 54)] 24 (restr [0, 1] 0 st)).bind fun x => zf4 N x K

def zpf (N : Nat) : Tab Bool := []

theorem znd {N : Nat} {c : Ctx} (hb : Base Go.Proofs.Try.prog (z3d N) c) : z11 Go.Proofs.Try.prog c (zj z25 [0, 0, 1]) (zf1 N) :=
  z1a (s := [(0, .v .str), (0, .fnc 54)]) (m := 24) (g := zf4 N) [0, 1] (zd hb N (zpf N) z4k z25 TabOk.nil [0, 0, 1] _ rfl) (fun x K => by kernel_rfl)

def z8f (N : Nat) (s : (List UInt8)) (k0 : Bool -> Option Bool) (k1 : Option Bool) : Option Bool :=
 z8e N s
 (fun x13 => cond x13
 (k0 false)
 (k1))

def zf5 (N : Nat) (x : z29 [(0, .v .str), (0, .fnc 54)]) (K : Ex -> List A -> Option Bool) : Option Bool :=
 z8f N x.1 (fun a0 => (K .ret (mkS [(4, .v .bool)] 21 (a0, ())))) (K .normal (mkS [(0, .v .str), (0, .fnc 54)] 24 (x.1, (), ())))

def zf2 (N : Nat) : Hd Bool := fun st K => (unS [(0, .v .str), (0, .fnc 54)] 24 (restr [0, 1] 0 st)).bind fun x => zf5 N x K

def zpg (N : Nat) : Tab Bool := [([0, 0, 1], zf1 N)]

theorem zne {N : Nat} {c : Ctx} (hb : Base Go.Proofs.Try.prog (z3d N) c) : z11 Go.Proofs.Try.prog c (zj z25 [0, 1]) (zf2 N) :=
  z1a (s := [(0, .v .str), (0, .fnc 54)]) (m := 24) (g := zf5 N) [0, 1] (zd hb N (zpg N) z4k z25 (TabOk.cons (znd hb) TabOk.nil) [0, 1] _ rfl) (fun x K => by kernel_rfl)

def z8d (N : Nat) (x15 : (List UInt8 × Nat)) (rec : (List UInt8 × Nat) -> Option Bool) (k0 : Bool -> Option Bool) (k1 : Option Bool) : Option Bool :=
 cond (decide (x15.2 < (List.length x15.1)))
 ((z73 N (((Go.Lift.runeAt x15.1 x15.2).1 : Nat) : Int) (((x15.2 : Nat) : Int) == (0 : Int))).bind fun y =>
 cond (!y)
 (k0 false)
 (rec (x15.1, (x15.2 + (Go.Lift.runeAt x15.1 x15.2).2))))
 (k1)

def zez (N : Nat) (x15 : (List UInt8 × Nat)) (k0 : Bool -> Option Bool) (k1 : Option Bool) : Option Bool :=
 iter (fun (v : (List UInt8 × Nat)) r => z8d N v (fun x15 => (r x15)) k0 k1) N x15

def zf3 (N : Nat) (i : Unit) (v : (List UInt8 × Nat)) (r : (List UInt8 × Nat) -> Option Bool) (K : Ex -> List A -> Option Bool) : Option Bool :=
 z8d N v (fun x15 => (r x15)) (fun a0 => (K .ret (mkS [(4, .v .bool)] 21 (a0, ())))) (K (.exit 0) (mkS [] 26 ()))

def zf0 (N : Nat) : Hd Bool := fun st K => (unS [(1, .fnc 54), (13, .iter)] 10 (restr [15, 1] 0 st)).bind fun x => iter (fun v r => zf3 N ((fun x => ()) x) v r K) N ((fun x => x.2.1) x)

def zpe (N : Nat) : Tab Bool := []

theorem znc {N : Nat} {c : Ctx} (hb : Base Go.Proofs.Try.prog (z3d N) c) : z11 Go.Proofs.Try.prog c (zj z25 [0, 1, 0, 1, 1]) (zf0 N) :=
  z3p (s := [(1, .fnc 54), (13, .iter)]) (m := 10) (zf3 N) [15, 1] N (fun x => ()) (fun x => x.2.1) (fun i v => ((), v, ())) (fun _ => rfl) (zd hb N (zpe N) z4k z25 TabOk.nil [0, 0, 1, 0, 1, 1] _ rfl) (fun i v r K => by kernel_rfl)

def z74 (N : Nat) (s : (List UInt8)) : Option Bool :=
 z8f N s
 (fun x4 => some x4)
 (zez N (s, 0)
 (fun x41 => some x41)
 (some true))

def zgu (N : Nat) : Tab Bool := [([0, 1], zf2 N), ([0, 1, 0, 1, 1], zf0 N)]

theorem zlz (N : Nat) (x : z29 [(0, .v .str), (0, .fnc 54)]) : z9s (z3d N) N (zgu N) z4k Go.Proofs.Try.f53 (mkS [(0, .v .str), (0, .fnc 54)] 0 x) (z49 (.v .bool) 2) = z74 N x.1 := by kernel_rfl

def zdd (N : Nat) : List A -> Res := z1x [(0, .v .str), (0, .fnc 54)] (fun x => z74 N x.1) (z4j (.v .bool) 2)

theorem zph (N : Nat) : Contract Go.Proofs.Try.prog zh 53 (zdd N) :=
  Contract.of (E := z3d N) (H := zgu N) (L := z4k) (N := N) (body := z25) (K := (z49 (.v .bool) 2)) (znf N) Go.Proofs.Try.func53 (by kernel_rfl) (by decide) (fun _ hb => (TabOk.cons (zne hb) (TabOk.cons (znc hb) TabOk.nil))) (fun x y h => by rw [zlz]; exact h) (z1n (s := (.v .bool)) (m := 2))

def zsz : Code := (Go.Proofs.Try.f40.body).getD .skip

def zrd : List (List Nat × List Nat) := [([0], [0]), ([0, 1], [2]), ([1, 1], [2])]

def zkf (N : Nat) : Env := z30 tys zh [(53, zdd N), (54, z7m N)] [] [] [] false [] []

theorem zvb (N : Nat) : EnvOk Go.Proofs.Try.prog (zkf N) := zz mixed z1w (FnsOk.cons (zph N) (FnsOk.cons (zey N) (FnsOk.nil))) (ItsOk.nil)

def z82 (N : Nat) (s : (List UInt8)) : Option Bool :=
 (z74 N s).bind fun y =>
 some y

def zrc (N : Nat) : Tab Bool := []

theorem zsy (N : Nat) (x : z29 [(0, .v .str)]) : z9s (zkf N) N (zrc N) zrd Go.Proofs.Try.f40 (mkS [(0, .v .str)] 0 x) (z49 (.v .bool) 1) = z82 N x.1 := by kernel_rfl

def zee (N : Nat) : List A -> Res := z1x [(0, .v .str)] (fun x => z82 N x.1) (z4j (.v .bool) 1)

theorem zgv (N : Nat) : Contract Go.Proofs.Try.prog zh 40 (zee N) :=
  Contract.of (E := zkf N) (H := zrc N) (L := zrd) (N := N) (body := zsz) (K := (z49 (.v .bool) 1)) (zvb N) Go.Proofs.Try.func40 (by kernel_rfl) (by decide) (fun _ hb => TabOk.nil) (fun x y h => by rw [zsy]; exact h) (z1n (s := (.v .bool)) (m := 1))

def zq9 : Code := (Go.Proofs.Try.f48.body).getD .skip

def zo0 : List (List Nat × List Nat) := [([0], [0, 1, 2]), ([0, 1], [0, 1, 5, 2]), ([0, 1, 1], [5, 0, 2, 1]), ([0, 1, 1, 1], [4, 1, 2]), ([1, 1, 1, 1], [4, 1, 2])]

def zfn (N : Nat) : Env := z30 tys zh [] [] [] [1, 2] false [] []

theorem zs7 (N : Nat) : EnvOk Go.Proofs.Try.prog (zfn N) := zz mixed z1w (FnsOk.nil) (ItsOk.nil)

def zhb (N : Nat) (n : Int) (x1 : Int) (x2 : ((List UInt8) × (Int × (Int × ((List (Int × ((List UInt8) × Unit))) × Unit))))) : Option (Bool × (Int × ((List UInt8) × (Int × (Int × ((List (Int × ((List UInt8) × Unit))) × Unit)))) × Unit)) :=
 cond (decide (x1 < n))
 (some ((decide (n < x2.2.2.1)), (n, (x2, ()))))
 (some (false, (n, (x2, ()))))

def znz (N : Nat) : Tab (Bool × (Int × ((List UInt8) × (Int × (Int × ((List (Int × ((List UInt8) × Unit))) × Unit)))) × Unit)) := []

theorem zq8 (N : Nat) (x : z29 [(0, .v (.int .i64)), (0, .box (.int .i64)), (0, .box (.pair .str (.pair (.int .i64) (.pair (.int .i64) (.pair (.sl (.pair (.int .i64) (.pair .str .unit))) .unit)))))]) : z9s (zfn N) N (znz N) zo0 Go.Proofs.Try.f48 (mkS [(0, .v (.int .i64)), (0, .box (.int .i64)), (0, .box (.pair .str (.pair (.int .i64) (.pair (.int .i64) (.pair (.sl (.pair (.int .i64) (.pair .str .unit))) .unit)))))] 0 x) (zm3 (.v .bool) [(1, .box (.int .i64)), (0, .box (.pair .str (.pair (.int .i64) (.pair (.int .i64) (.pair (.sl (.pair (.int .i64) (.pair .str .unit))) .unit)))))] 0) = zhb N x.1 x.2.1 x.2.2.1 := by kernel_rfl

def zit (N : Nat) : List A -> Res := z1x [(0, .v (.int .i64)), (0, .box (.int .i64)), (0, .box (.pair .str (.pair (.int .i64) (.pair (.int .i64) (.pair (.sl (.pair (.int .i64) (.pair .str .unit))) .unit)))))] (fun x => zhb N x.1 x.2.1 x.2.2.1) (zya (.v .bool) [(1, .box (.int .i64)), (0, .box (.pair .str (.pair (.int .i64) (.pair (.int .i64) (.pair (.sl (.pair (.int .i64) (.pair .str .unit))) .unit)))))] 0)

theorem zul (N : Nat) : Contract Go.Proofs.Try.prog zh 48 (zit N) :=
  Contract.of (E := zfn N) (H := znz N) (L := zo0) (N := N) (body := zq9) (K := (zm3 (.v .bool) [(1, .box (.int .i64)), (0, .box (.pair .str (.pair (.int .i64) (.pair (.int .i64) (.pair (.sl (.pair (.int .i64) (.pair .str .unit))) .unit)))))] 0)) (zs7 N) Go.Proofs.Try.func48 (by kernel_rfl) (by decide) (fun _ hb => TabOk.nil) (fun x y h => by rw [zq8]; exact h) (zhg (s := (.v .bool)) (os := [(1, .box (.int .i64)), (0, .box (.pair .str (.pair (.int .i64) (.pair (.int .i64) (.pair (.sl (.pair (.int .i64) (.pair .str .unit))) .unit)))))]) (m := 0))

def z18 : Code := (Go.Proofs.Try.f31.body).getD .skip

def z2g : List (List Nat × List Nat) := [([0], [1]), ([0, 0, 1], [28, 1]), ([1, 0, 1], [1]), ([0, 0, 1, 0, 1], [2]), ([1, 0, 1, 0, 1], [2]), ([0, 1, 1], [3, 1]), ([0, 1, 1, 1], [1, 4, 3]), ([0, 0, 1, 1, 1, 1], [33, 32, 31, 4, 3, 1]), ([0, 1, 0, 1, 1, 1, 1], [33, 32, 31, 4, 3, 1]), ([0, 0, 0, 1, 0, 1, 1, 1, 1], [34, 31, 33, 4, 32, 3, 1]), ([0, 1, 0, 0, 1, 0, 1, 1, 1, 1], [31, 33, 4, 32, 3, 1]), ([1, 0, 1, 0, 0, 1, 0, 1, 1, 1, 1], []), ([0, 0, 0, 1, 1, 0, 0, 1, 0, 1, 1, 1, 1], [4, 6, 33, 32, 31, 3, 1]), ([0, 1, 0, 0, 1, 1, 0, 0, 1, 0, 1, 1, 1, 1], [47, 33, 32, 31, 4, 3, 1]), ([1, 1, 0, 0, 1, 1, 0, 0, 1, 0, 1, 1, 1, 1], [33, 32, 31, 4, 3, 1]), ([0, 0, 1, 1, 0, 0, 1, 1, 0, 0, 1, 0, 1, 1, 1, 1], [2]), ([1, 0, 1, 1, 0, 0, 1, 1, 0, 0, 1, 0, 1, 1, 1, 1], [2]), ([0, 1, 1, 0, 0, 1, 0, 1, 1, 1, 1], [33, 32, 31, 4, 3, 1]), ([1, 1, 1, 0, 0, 1, 0, 1, 1, 1, 1], [33, 32, 31, 4, 3, 1]), ([1, 0, 1, 1, 1, 1], []), ([0, 1, 1, 1, 1, 1], [2]), ([1, 1, 1, 1, 1, 1], [2])]

def z23 (N : Nat) : Env := z30 tys zh [(48, zit N), (40, zee N), (30, z6r N)] [(4, .unit)] [] [] false [] []

theorem zhq (N : Nat) : EnvOk Go.Proofs.Try.prog (z23 N) := zz mixed z1w (FnsOk.cons (zul N) (FnsOk.cons (zgv N) (FnsOk.cons (zc5 N) (FnsOk.nil)))) (ItsOk.nil)

def z5s (N : Nat) (t : ((List UInt8) × (Int × (Int × ((List (Int × ((List UInt8) × Unit))) × Unit))))) (k0 : Bool -> Option Bool) : Option Bool :=
 (z82 N t.1).bind fun y =>
 cond (!y)
 (k0 true)
 ((z2y N t.2.1 (0 : Int)).bind fun y1 =>
 cond (!y1)
 (k0 true)
 ((z2y N t.2.2.1 (1 : Int)).bind fun y2 =>
 cond (!y2)
 (k0 true)
 (k0 (decide ((8 : Int) < (((List.length t.2.2.2.1) : Nat) : Int))))))

def za3 (N : Nat) (x : z29 [(1, .box (.pair .str (.pair (.int .i64) (.pair (.int .i64) (.pair (.sl (.pair (.int .i64) (.pair .str .unit))) .unit)))))]) (K : Ex -> List A -> Option Bool) : Option Bool :=
 z5s N x.1 (fun a1 => (K .normal (mkS [(1, .box (.pair .str (.pair (.int .i64) (.pair (.int .i64) (.pair (.sl (.pair (.int .i64) (.pair .str .unit))) .unit))))), (26, .v .bool)] 20 (x.1, a1, ()))))

def z9z (N : Nat) : Hd Bool := fun st K => (unS [(1, .box (.pair .str (.pair (.int .i64) (.pair (.int .i64) (.pair (.sl (.pair (.int .i64) (.pair .str .unit))) .unit)))))] 47 (restr [1] 0 st)).bind fun x => za3 N x K

def zjr (N : Nat) : Tab Bool := []

theorem zho {N : Nat} {c : Ctx} (hb : Base Go.Proofs.Try.prog (z23 N) c) : z11 Go.Proofs.Try.prog c (zj z18 [0, 0, 1]) (z9z N) :=
  z1a (s := [(1, .box (.pair .str (.pair (.int .i64) (.pair (.int .i64) (.pair (.sl (.pair (.int .i64) (.pair .str .unit))) .unit)))))]) (m := 47) (g := za3 N) [1] (zd hb N (zjr N) z2g z18 TabOk.nil [0, 0, 1] _ rfl) (fun x K => by kernel_rfl)

def z5t (N : Nat) (t : ((List UInt8) × (Int × (Int × ((List (Int × ((List UInt8) × Unit))) × Unit))))) (k0 : Bool -> Option Bool) (k1 : Option Bool) : Option Bool :=
 z5s N t
 (fun x28 => cond x28
 (k0 false)
 (k1))

def za4 (N : Nat) (x : z29 [(1, .box (.pair .str (.pair (.int .i64) (.pair (.int .i64) (.pair (.sl (.pair (.int .i64) (.pair .str .unit))) .unit)))))]) (K : Ex -> List A -> Option Bool) : Option Bool :=
 z5t N x.1 (fun a0 => (K .ret (mkS [(2, .v .bool)] 46 (a0, ())))) (K .normal (mkS [(1, .box (.pair .str (.pair (.int .i64) (.pair (.int .i64) (.pair (.sl (.pair (.int .i64) (.pair .str .unit))) .unit)))))] 47 (x.1, ())))

def za0 (N : Nat) : Hd Bool := fun st K => (unS [(1, .box (.pair .str (.pair (.int .i64) (.pair (.int .i64) (.pair (.sl (.pair (.int .i64) (.pair .str .unit))) .unit)))))] 47 (restr [1] 0 st)).bind fun x => za4 N x K

def zjs (N : Nat) : Tab Bool := [([0, 0, 1], z9z N)]

theorem zhp {N : Nat} {c : Ctx} (hb : Base Go.Proofs.Try.prog (z23 N) c) : z11 Go.Proofs.Try.prog c (zj z18 [0, 1]) (za0 N) :=
  z1a (s := [(1, .box (.pair .str (.pair (.int .i64) (.pair (.int .i64) (.pair (.sl (.pair (.int .i64) (.pair .str .unit))) .unit)))))]) (m := 47) (g := za4 N) [1] (zd hb N (zjs N) z2g z18 (TabOk.cons (zho hb) TabOk.nil) [0, 1] _ rfl) (fun x K => by kernel_rfl)

def z5q (N : Nat) (t : ((List UInt8) × (Int × (Int × ((List (Int × ((List UInt8) × Unit))) × Unit))))) (last : Int) (k : (Int × ((List UInt8) × Unit))) (x31 : (List (Int × ((List UInt8) × Unit)))) (x32 : Int) (x33 : Int) (k0 : ((List UInt8) × (Int × (Int × ((List (Int × ((List UInt8) × Unit))) × Unit)))) -> Int -> Bool -> Option Bool) : Option Bool :=
 (zhb N k.1 last t).bind fun y =>
 cond (!y.1)
 (k0 y.2.2.1 y.2.1 true)
 (k0 y.2.2.1 y.2.1 ((((List.length k.2.1) : Nat) : Int) != (32 : Int)))

def za1 (N : Nat) (x : z29 [(1, .box (.pair .str (.pair (.int .i64) (.pair (.int .i64) (.pair (.sl (.pair (.int .i64) (.pair .str .unit))) .unit))))), (1, .box (.int .i64)), (0, .clo 48 [3, 1]), (1, .box (.pair (.int .i64) (.pair .str .unit))), (24, .v (.sl (.pair (.int .i64) (.pair .str .unit)))), (0, .v (.int .i64)), (0, .v (.int .i64))]) (K : Ex -> List A -> Option Bool) : Option Bool :=
 z5q N x.1 x.2.1 x.2.2.2.1 x.2.2.2.2.1 x.2.2.2.2.2.1 x.2.2.2.2.2.2.1 (fun a0 a1 a5 => (K .normal (mkS [(1, .box (.pair .str (.pair (.int .i64) (.pair (.int .i64) (.pair (.sl (.pair (.int .i64) (.pair .str .unit))) .unit))))), (1, .box (.int .i64)), (0, .clo 48 [3, 1]), (26, .v (.sl (.pair (.int .i64) (.pair .str .unit)))), (0, .v (.int .i64)), (0, .v (.int .i64)), (13, .v .bool)] 1 (a0, a1, (), x.2.2.2.2.1, x.2.2.2.2.2.1, x.2.2.2.2.2.2.1, a5, ()))))

def z9x (N : Nat) : Hd Bool := fun st K => (unS [(1, .box (.pair .str (.pair (.int .i64) (.pair (.int .i64) (.pair (.sl (.pair (.int .i64) (.pair .str .unit))) .unit))))), (1, .box (.int .i64)), (0, .clo 48 [3, 1]), (1, .box (.pair (.int .i64) (.pair .str .unit))), (24, .v (.sl (.pair (.int .i64) (.pair .str .unit)))), (0, .v (.int .i64)), (0, .v (.int .i64))] 15 (restr [4, 6, 33, 32, 31, 3, 1] 0 st)).bind fun x => za1 N x K

def zjp (N : Nat) : Tab Bool := []

theorem zhm {N : Nat} {c : Ctx} (hb : Base Go.Proofs.Try.prog (z23 N) c) : z11 Go.Proofs.Try.prog c (zj z18 [0, 1, 0, 0, 1, 1, 0, 0, 1, 0, 1, 1, 1, 1]) (z9x N) :=
  z1a (s := [(1, .box (.pair .str (.pair (.int .i64) (.pair (.int .i64) (.pair (.sl (.pair (.int .i64) (.pair .str .unit))) .unit))))), (1, .box (.int .i64)), (0, .clo 48 [3, 1]), (1, .box (.pair (.int .i64) (.pair .str .unit))), (24, .v (.sl (.pair (.int .i64) (.pair .str .unit)))), (0, .v (.int .i64)), (0, .v (.int .i64))]) (m := 15) (g := za1 N) [4, 6, 33, 32, 31, 3, 1] (zd hb N (zjp N) z2g z18 TabOk.nil [0, 1, 0, 0, 1, 1, 0, 0, 1, 0, 1, 1, 1, 1] _ rfl) (fun x K => by kernel_rfl)

def z5p (N : Nat) (x31 : (List (Int × ((List UInt8) × Unit)))) (x32 : Int) (t : ((List UInt8) × (Int × (Int × ((List (Int × ((List UInt8) × Unit))) × Unit))))) (last : Int) (x33 : Int) (rec : ((List UInt8) × (Int × (Int × ((List (Int × ((List UInt8) × Unit))) × Unit)))) -> Int -> Int -> Option Bool) (k0 : Bool -> Option Bool) (k1 : Option Bool) : Option Bool :=
 cond (decide (x33 < x32))
 (cond (Go.Lift.inR x33 (List.length x31))
 (z5q N t last (List.getD x31 (Int.toNat x33) ((0 : Int), (([] : List UInt8), ()))) x31 x32 x33
 (fun t1 last1 x47 => cond x47
 (k0 false)
 (rec t1 last1 (Go.IntKind.wrap Go.IntKind.i64 (x33 + (1 : Int))))))
 (none))
 (k1)

def z5r (N : Nat) (t : ((List UInt8) × (Int × (Int × ((List (Int × ((List UInt8) × Unit))) × Unit))))) (last : Int) (x31 : (List (Int × ((List UInt8) × Unit)))) (x32 : Int) (x33 : Int) (k0 : Bool -> Option Bool) (k1 : Option Bool) : Option Bool :=
 iter (fun (v : (((List UInt8) × (Int × (Int × ((List (Int × ((List UInt8) × Unit))) × Unit)))) × Int × Int)) r => z5p N x31 x32 v.1 v.2.1 v.2.2 (fun t last x33 => (r (t, last, x33))) k0 k1) N (t, last, x33)

def za2 (N : Nat) (i : ((List (Int × ((List UInt8) × Unit))) × Int)) (v : (((List UInt8) × (Int × (Int × ((List (Int × ((List UInt8) × Unit))) × Unit)))) × Int × Int)) (r : (((List UInt8) × (Int × (Int × ((List (Int × ((List UInt8) × Unit))) × Unit)))) × Int × Int) -> Option Bool) (K : Ex -> List A -> Option Bool) : Option Bool :=
 z5p N i.1 i.2 v.1 v.2.1 v.2.2 (fun t last x33 => (r (t, last, x33))) (fun a0 => (K .ret (mkS [(2, .v .bool)] 46 (a0, ())))) (K (.exit 0) (mkS [] 49 ()))

def z9y (N : Nat) : Hd Bool := fun st K => (unS [(1, .box (.pair .str (.pair (.int .i64) (.pair (.int .i64) (.pair (.sl (.pair (.int .i64) (.pair .str .unit))) .unit))))), (1, .box (.int .i64)), (0, .clo 48 [3, 1]), (26, .v (.sl (.pair (.int .i64) (.pair .str .unit)))), (0, .v (.int .i64)), (0, .v (.int .i64))] 15 (restr [33, 32, 31, 4, 3, 1] 0 st)).bind fun x => iter (fun v r => za2 N ((fun x => (x.2.2.2.1, x.2.2.2.2.1)) x) v r K) N ((fun x => (x.1, x.2.1, x.2.2.2.2.2.1)) x)

def zjq (N : Nat) : Tab Bool := [([0, 1, 0, 0, 1, 1, 0, 0, 1, 0, 1, 1, 1, 1], z9x N)]

theorem zhn {N : Nat} {c : Ctx} (hb : Base Go.Proofs.Try.prog (z23 N) c) : z11 Go.Proofs.Try.prog c (zj z18 [0, 1, 0, 1, 1, 1, 1]) (z9y N) :=
  z3p (s := [(1, .box (.pair .str (.pair (.int .i64) (.pair (.int .i64) (.pair (.sl (.pair (.int .i64) (.pair .str .unit))) .unit))))), (1, .box (.int .i64)), (0, .clo 48 [3, 1]), (26, .v (.sl (.pair (.int .i64) (.pair .str .unit)))), (0, .v (.int .i64)), (0, .v (.int .i64))]) (m := 15) (za2 N) [33, 32, 31, 4, 3, 1] N (fun x => (x.2.2.2.1, x.2.2.2.2.1)) (fun x => (x.1, x.2.1, x.2.2.2.2.2.1)) (fun i v => (v.1, v.2.1, (), i.1, i.2, v.2.2, ())) (fun _ => rfl) (zd hb N (zjq N) z2g z18 (TabOk.cons (zhm hb) TabOk.nil) [0, 0, 1, 0, 1, 1, 1, 1] _ rfl) (fun i v r K => by kernel_rfl)

def z2t (N : Nat) (t : ((List UInt8) × (Int × (Int × ((List (Int × ((List UInt8) × Unit))) × Unit))))) : Option Bool :=
 z5t N t
 (fun x2 => some x2)
 (z5r N t (0 : Int) t.2.2.2.1 (((List.length t.2.2.2.1) : Nat) : Int) (0 : Int)
 (fun x21 => some x21)
 (some true))

def zbk (N : Nat) : Tab Bool := [([0, 1], za0 N), ([0, 1, 0, 1, 1, 1, 1], z9y N)]

theorem zfo (N : Nat) (x : z29 [(0, .v (.pair .str (.pair (.int .i64) (.pair (.int .i64) (.pair (.sl (.pair (.int .i64) (.pair .str .unit))) .unit)))))]) : z9s (z23 N) N (zbk N) z2g Go.Proofs.Try.f31 (mkS [(0, .v (.pair .str (.pair (.int .i64) (.pair (.int .i64) (.pair (.sl (.pair (.int .i64) (.pair .str .unit))) .unit)))))] 0 x) (z49 (.v .bool) 1) = z2t N x.1 := by kernel_rfl

def z8i (N : Nat) : List A -> Res := z1x [(0, .v (.pair .str (.pair (.int .i64) (.pair (.int .i64) (.pair (.sl (.pair (.int .i64) (.pair .str .unit))) .unit)))))] (fun x => z2t N x.1) (z4j (.v .bool) 1)

theorem zjt (N : Nat) : Contract Go.Proofs.Try.prog zh 31 (z8i N) :=
  Contract.of (E := z23 N) (H := zbk N) (L := z2g) (N := N) (body := z18) (K := (z49 (.v .bool) 1)) (zhq N) Go.Proofs.Try.func31 (by kernel_rfl) (by decide) (fun _ hb => (TabOk.cons (zhp hb) (TabOk.cons (zhn hb) TabOk.nil))) (fun x y h => by rw [zfo]; exact h) (z1n (s := (.v .bool)) (m := 1))

def z24 : Code := (Go.Proofs.Try.f13.body).getD .skip

def z6a : List (List Nat × List Nat) := [([0], [1]), ([0, 0, 1], [14, 1]), ([1, 0, 1], [1]), ([0, 0, 1, 0, 1], [2]), ([1, 0, 1, 0, 1], [2]), ([0, 0, 1, 1], [18, 17, 16, 1]), ([0, 1, 0, 1, 1], [18, 17, 16, 1]), ([0, 0, 0, 1, 0, 1, 1], [19, 18, 16, 1, 17]), ([0, 1, 0, 0, 1, 0, 1, 1], [18, 16, 1, 17]), ([1, 0, 1, 0, 0, 1, 0, 1, 1], []), ([0, 0, 0, 1, 1, 0, 0, 1, 0, 1, 1], [3, 4, 1, 18, 17, 16]), ([0, 1, 0, 0, 1, 1, 0, 0, 1, 0, 1, 1], [41, 18, 17, 16, 1]), ([1, 1, 0, 0, 1, 1, 0, 0, 1, 0, 1, 1], [18, 17, 16, 1]), ([0, 0, 1, 1, 0, 0, 1, 1, 0, 0, 1, 0, 1, 1], [2]), ([1, 0, 1, 1, 0, 0, 1, 1, 0, 0, 1, 0, 1, 1], [2]), ([0, 1, 1, 0, 0, 1, 0, 1, 1], [18, 17, 16, 1]), ([1, 1, 1, 0, 0, 1, 0, 1, 1], [18, 17, 16, 1]), ([1, 0, 1, 1], []), ([0, 1, 1, 1], [2]), ([1, 1, 1, 1], [2])]

def z4b (N : Nat) : Env := z30 tys zh [(31, z8i N), (30, z6r N)] [] [] [] false [] []

theorem zsd (N : Nat) : EnvOk Go.Proofs.Try.prog (z4b N) := zz mixed z1w (FnsOk.cons (zjt N) (FnsOk.cons (zc5 N) (FnsOk.nil))) (ItsOk.nil)

def zdv (N : Nat) (s : ((List ((List UInt8) × (Int × (Int × ((List (Int × ((List UInt8) × Unit))) × Unit))))) × (Int × Unit))) (k0 : Bool -> Option Bool) : Option Bool :=
 cond (decide ((16 : Int) < (((List.length s.1) : Nat) : Int)))
 (k0 true)
 ((z2y N s.2.1 (0 : Int)).bind fun y =>
 k0 (!y))

def zla (N : Nat) (x : z29 [(1, .box (.pair (.sl (.pair .str (.pair (.int .i64) (.pair (.int .i64) (.pair (.sl (.pair (.int .i64) (.pair .str .unit))) .unit))))) (.pair (.int .i64) .unit)))]) (K : Ex -> List A -> Option Bool) : Option Bool :=
 zdv N x.1 (fun a1 => (K .normal (mkS [(1, .box (.pair (.sl (.pair .str (.pair (.int .i64) (.pair (.int .i64) (.pair (.sl (.pair (.int .i64) (.pair .str .unit))) .unit))))) (.pair (.int .i64) .unit))), (12, .v .bool)] 28 (x.1, a1, ()))))

def zl6 (N : Nat) : Hd Bool := fun st K => (unS [(1, .box (.pair (.sl (.pair .str (.pair (.int .i64) (.pair (.int .i64) (.pair (.sl (.pair (.int .i64) (.pair .str .unit))) .unit))))) (.pair (.int .i64) .unit)))] 41 (restr [1] 0 st)).bind fun x => zla N x K

def zup (N : Nat) : Tab Bool := []

theorem zsb {N : Nat} {c : Ctx} (hb : Base Go.Proofs.Try.prog (z4b N) c) : z11 Go.Proofs.Try.prog c (zj z24 [0, 0, 1]) (zl6 N) :=
  z1a (s := [(1, .box (.pair (.sl (.pair .str (.pair (.int .i64) (.pair (.int .i64) (.pair (.sl (.pair (.int .i64) (.pair .str .unit))) .unit))))) (.pair (.int .i64) .unit)))]) (m := 41) (g := zla N) [1] (zd hb N (zup N) z6a z24 TabOk.nil [0, 0, 1] _ rfl) (fun x K => by kernel_rfl)

def zdw (N : Nat) (s : ((List ((List UInt8) × (Int × (Int × ((List (Int × ((List UInt8) × Unit))) × Unit))))) × (Int × Unit))) (k0 : Bool -> Option Bool) (k1 : Option Bool) : Option Bool :=
 zdv N s
 (fun x14 => cond x14
 (k0 false)
 (k1))

def zlb (N : Nat) (x : z29 [(1, .box (.pair (.sl (.pair .str (.pair (.int .i64) (.pair (.int .i64) (.pair (.sl (.pair (.int .i64) (.pair .str .unit))) .unit))))) (.pair (.int .i64) .unit)))]) (K : Ex -> List A -> Option Bool) : Option Bool :=
 zdw N x.1 (fun a0 => (K .ret (mkS [(2, .v .bool)] 40 (a0, ())))) (K .normal (mkS [(1, .box (.pair (.sl (.pair .str (.pair (.int .i64) (.pair (.int .i64) (.pair (.sl (.pair (.int .i64) (.pair .str .unit))) .unit))))) (.pair (.int .i64) .unit)))] 41 (x.1, ())))

def zl7 (N : Nat) : Hd Bool := fun st K => (unS [(1, .box (.pair (.sl (.pair .str (.pair (.int .i64) (.pair (.int .i64) (.pair (.sl (.pair (.int .i64) (.pair .str .unit))) .unit))))) (.pair (.int .i64) .unit)))] 41 (restr [1] 0 st)).bind fun x => zlb N x K

def zuq (N : Nat) : Tab Bool := [([0, 0, 1], zl6 N)]

theorem zsc {N : Nat} {c : Ctx} (hb : Base Go.Proofs.Try.prog (z4b N) c) : z11 Go.Proofs.Try.prog c (zj z24 [0, 1]) (zl7 N) :=
  z1a (s := [(1, .box (.pair (.sl (.pair .str (.pair (.int .i64) (.pair (.int .i64) (.pair (.sl (.pair (.int .i64) (.pair .str .unit))) .unit))))) (.pair (.int .i64) .unit)))]) (m := 41) (g := zlb N) [1] (zd hb N (zuq N) z6a z24 (TabOk.cons (zsb hb) TabOk.nil) [0, 1] _ rfl) (fun x K => by kernel_rfl)

def zdt (N : Nat) (s : ((List ((List UInt8) × (Int × (Int × ((List (Int × ((List UInt8) × Unit))) × Unit))))) × (Int × Unit))) (i : Int) (t : ((List UInt8) × (Int × (Int × ((List (Int × ((List UInt8) × Unit))) × Unit))))) (x16 : (List ((List UInt8) × (Int × (Int × ((List (Int × ((List UInt8) × Unit))) × Unit)))))) (x17 : Int) (x18 : Int) (k0 : Bool -> Option Bool) : Option Bool :=
  cond (decide ((0 : Int) < i))
  (cond (Go.Lift.inR (Go.IntKind.wrap Go.IntKind.i64 (i - (1 : Int))) (List.length s.1))
    (cond ((Go.Op.bytesLess t.1 (List.getD s.1 (Int.toNat (Go.IntKind.wrap Go.IntKind.i64 (i - (1 : Int)))) (([] : List UInt8), ((0 : Int), ((0 : Int), (([] : List (Int × ((List UInt8) × Unit))), ()))))).1) || (t.1 == (List.getD s.1 (Int.toNat (Go.IntKind.wrap Go.IntKind.i64 (i - (1 : Int)))) (([] : List UInt8), ((0 : Int), ((0 : Int), (([] : List (Int × ((List UInt8) × Unit))), ()))))).1))
      (k0 true)
      ((z2t N t).bind fun y =>
        k0 (!y)))
    (none))
  ((z2t N t).bind fun y1 =>
    k0 (!y1))

def zl8 (N : Nat) (x : z29 [(1, .box (.pair (.sl (.pair .str (.pair (.int .i64) (.pair (.int .i64) (.pair (.sl (.pair (.int .i64) (.pair .str .unit))) .unit))))) (.pair (.int .i64) .unit))), (1, .v (.int .i64)), (0, .box (.pair .str (.pair (.int .i64) (.pair (.int .i64) (.pair (.sl (.pair (.int .i64) (.pair .str .unit))) .unit))))), (11, .v (.sl (.pair .str (.pair (.int .i64) (.pair (.int .i64) (.pair (.sl (.pair (.int .i64) (.pair .str .unit))) .unit)))))), (0, .v (.int .i64)), (0, .v (.int .i64))]) (K : Ex -> List A -> Option Bool) : Option Bool :=
 zdt N x.1 x.2.1 x.2.2.1 x.2.2.2.1 x.2.2.2.2.1 x.2.2.2.2.2.1 (fun a4 => (K .normal (mkS [(1, .box (.pair (.sl (.pair .str (.pair (.int .i64) (.pair (.int .i64) (.pair (.sl (.pair (.int .i64) (.pair .str .unit))) .unit))))) (.pair (.int .i64) .unit))), (14, .v (.sl (.pair .str (.pair (.int .i64) (.pair (.int .i64) (.pair (.sl (.pair (.int .i64) (.pair .str .unit))) .unit)))))), (0, .v (.int .i64)), (0, .v (.int .i64)), (22, .v .bool)] 1 (x.1, x.2.2.2.1, x.2.2.2.2.1, x.2.2.2.2.2.1, a4, ()))))

def zl4 (N : Nat) : Hd Bool := fun st K => (unS [(1, .box (.pair (.sl (.pair .str (.pair (.int .i64) (.pair (.int .i64) (.pair (.sl (.pair (.int .i64) (.pair .str .unit))) .unit))))) (.pair (.int .i64) .unit))), (1, .v (.int .i64)), (0, .box (.pair .str (.pair (.int .i64) (.pair (.int .i64) (.pair (.sl (.pair (.int .i64) (.pair .str .unit))) .unit))))), (11, .v (.sl (.pair .str (.pair (.int .i64) (.pair (.int .i64) (.pair (.sl (.pair (.int .i64) (.pair .str .unit))) .unit)))))), (0, .v (.int .i64)), (0, .v (.int .i64))] 24 (restr [3, 4, 1, 18, 17, 16] 0 st)).bind fun x => zl8 N x K

def zun (N : Nat) : Tab Bool := []

theorem zs9 {N : Nat} {c : Ctx} (hb : Base Go.Proofs.Try.prog (z4b N) c) : z11 Go.Proofs.Try.prog c (zj z24 [0, 1, 0, 0, 1, 1, 0, 0, 1, 0, 1, 1]) (zl4 N) :=
  z1a (s := [(1, .box (.pair (.sl (.pair .str (.pair (.int .i64) (.pair (.int .i64) (.pair (.sl (.pair (.int .i64) (.pair .str .unit))) .unit))))) (.pair (.int .i64) .unit))), (1, .v (.int .i64)), (0, .box (.pair .str (.pair (.int .i64) (.pair (.int .i64) (.pair (.sl (.pair (.int .i64) (.pair .str .unit))) .unit))))), (11, .v (.sl (.pair .str (.pair (.int .i64) (.pair (.int .i64) (.pair (.sl (.pair (.int .i64) (.pair .str .unit))) .unit)))))), (0, .v (.int .i64)), (0, .v (.int .i64))]) (m := 24) (g := zl8 N) [3, 4, 1, 18, 17, 16] (zd hb N (zun N) z6a z24 TabOk.nil [0, 1, 0, 0, 1, 1, 0, 0, 1, 0, 1, 1] _ rfl) (fun x K => by kernel_rfl)

def zds (N : Nat) (s : ((List ((List UInt8) × (Int × (Int × ((List (Int × ((List UInt8) × Unit))) × Unit))))) × (Int × Unit))) (x16 : (List ((List UInt8) × (Int × (Int × ((List (Int × ((List UInt8) × Unit))) × Unit)))))) (x17 : Int) (x18 : Int) (rec : Int -> Option Bool) (k0 : Bool -> Option Bool) (k1 : Option Bool) : Option Bool :=
 cond (decide (x18 < x17))
 (cond (Go.Lift.inR x18 (List.length x16))
 (zdt N s x18 (List.getD x16 (Int.toNat x18) (([] : List UInt8), ((0 : Int), ((0 : Int), (([] : List (Int × ((List UInt8) × Unit))), ()))))) x16 x17 x18
 (fun x41 => cond x41
 (k0 false)
 (rec (Go.IntKind.wrap Go.IntKind.i64 (x18 + (1 : Int))))))
 (none))
 (k1)

def zdu (N : Nat) (s : ((List ((List UInt8) × (Int × (Int × ((List (Int × ((List UInt8) × Unit))) × Unit))))) × (Int × Unit))) (x16 : (List ((List UInt8) × (Int × (Int × ((List (Int × ((List UInt8) × Unit))) × Unit)))))) (x17 : Int) (x18 : Int) (k0 : Bool -> Option Bool) (k1 : Option Bool) : Option Bool :=
 iter (fun (v : Int) r => zds N s x16 x17 v (fun x18 => (r x18)) k0 k1) N x18

def zl9 (N : Nat) (i : (((List ((List UInt8) × (Int × (Int × ((List (Int × ((List UInt8) × Unit))) × Unit))))) × (Int × Unit)) × (List ((List UInt8) × (Int × (Int × ((List (Int × ((List UInt8) × Unit))) × Unit))))) × Int)) (v : Int) (r : Int -> Option Bool) (K : Ex -> List A -> Option Bool) : Option Bool :=
 zds N i.1 i.2.1 i.2.2 v (fun x18 => (r x18)) (fun a0 => (K .ret (mkS [(2, .v .bool)] 40 (a0, ())))) (K (.exit 0) (mkS [] 43 ()))

def zl5 (N : Nat) : Hd Bool := fun st K => (unS [(1, .box (.pair (.sl (.pair .str (.pair (.int .i64) (.pair (.int .i64) (.pair (.sl (.pair (.int .i64) (.pair .str .unit))) .unit))))) (.pair (.int .i64) .unit))), (14, .v (.sl (.pair .str (.pair (.int .i64) (.pair (.int .i64) (.pair (.sl (.pair (.int .i64) (.pair .str .unit))) .unit)))))), (0, .v (.int .i64)), (0, .v (.int .i64))] 24 (restr [18, 17, 16, 1] 0 st)).bind fun x => iter (fun v r => zl9 N ((fun x => (x.1, x.2.1, x.2.2.1)) x) v r K) N ((fun x => x.2.2.2.1) x)

def zuo (N : Nat) : Tab Bool := [([0, 1, 0, 0, 1, 1, 0, 0, 1, 0, 1, 1], zl4 N)]

theorem zsa {N : Nat} {c : Ctx} (hb : Base Go.Proofs.Try.prog (z4b N) c) : z11 Go.Proofs.Try.prog c (zj z24 [0, 1, 0, 1, 1]) (zl5 N) :=
  z3p (s := [(1, .box (.pair (.sl (.pair .str (.pair (.int .i64) (.pair (.int .i64) (.pair (.sl (.pair (.int .i64) (.pair .str .unit))) .unit))))) (.pair (.int .i64) .unit))), (14, .v (.sl (.pair .str (.pair (.int .i64) (.pair (.int .i64) (.pair (.sl (.pair (.int .i64) (.pair .str .unit))) .unit)))))), (0, .v (.int .i64)), (0, .v (.int .i64))]) (m := 24) (zl9 N) [18, 17, 16, 1] N (fun x => (x.1, x.2.1, x.2.2.1)) (fun x => x.2.2.2.1) (fun i v => (i.1, i.2.1, i.2.2, v, ())) (fun _ => rfl) (zd hb N (zuo N) z6a z24 (TabOk.cons (zs9 hb) TabOk.nil) [0, 0, 1, 0, 1, 1] _ rfl) (fun i v r K => by kernel_rfl)

def z4q (N : Nat) (s : ((List ((List UInt8) × (Int × (Int × ((List (Int × ((List UInt8) × Unit))) × Unit))))) × (Int × Unit))) : Option Bool :=
 zdw N s
 (fun x2 => some x2)
 (zdu N s s.1 (((List.length s.1) : Nat) : Int) (0 : Int)
 (fun x21 => some x21)
 (some true))

def zo3 (N : Nat) : Tab Bool := [([0, 1], zl7 N), ([0, 1, 0, 1, 1], zl5 N)]

theorem zqe (N : Nat) (x : z29 [(0, .v (.pair (.sl (.pair .str (.pair (.int .i64) (.pair (.int .i64) (.pair (.sl (.pair (.int .i64) (.pair .str .unit))) .unit))))) (.pair (.int .i64) .unit)))]) : z9s (z4b N) N (zo3 N) z6a Go.Proofs.Try.f13 (mkS [(0, .v (.pair (.sl (.pair .str (.pair (.int .i64) (.pair (.int .i64) (.pair (.sl (.pair (.int .i64) (.pair .str .unit))) .unit))))) (.pair (.int .i64) .unit)))] 0 x) (z49 (.v .bool) 1) = z4q N x.1 := by kernel_rfl

def z7s (N : Nat) : List A -> Res := z1x [(0, .v (.pair (.sl (.pair .str (.pair (.int .i64) (.pair (.int .i64) (.pair (.sl (.pair (.int .i64) (.pair .str .unit))) .unit))))) (.pair (.int .i64) .unit)))] (fun x => z4q N x.1) (z4j (.v .bool) 1)

theorem z9j (N : Nat) : Contract Go.Proofs.Try.prog zh 13 (z7s N) :=
  Contract.of (E := z4b N) (H := zo3 N) (L := z6a) (N := N) (body := z24) (K := (z49 (.v .bool) 1)) (zsd N) Go.Proofs.Try.func13 (by kernel_rfl) (by decide) (fun _ hb => (TabOk.cons (zsc hb) (TabOk.cons (zsa hb) TabOk.nil))) (fun x y h => by rw [zqe]; exact h) (z1n (s := (.v .bool)) (m := 1))

def zc8 : Code := (Go.Proofs.Try.f49.body).getD .skip

def zju : List (List Nat × List Nat) := [([0], [1]), ([0, 1], [1, 3]), ([0, 0, 1, 1], [13, 3, 1]), ([0, 0, 1, 0, 1, 1], [14, 3, 1, 13]), ([1, 0, 1, 0, 1, 1], []), ([0, 1, 1, 0, 1, 0, 1, 1], [27, 3, 1, 13]), ([1, 1, 1, 0, 1, 0, 1, 1], []), ([0, 1, 1, 1, 1, 0, 1, 0, 1, 1], [41, 3, 1, 13]), ([1, 1, 1, 1, 1, 0, 1, 0, 1, 1], []), ([0, 1, 1, 1, 1, 1, 1, 0, 1, 0, 1, 1], [54, 1]), ([1, 1, 1, 1, 1, 1, 1, 0, 1, 0, 1, 1], []), ([0, 0, 1, 1, 1, 1, 1, 1, 1, 0, 1, 0, 1, 1], [2]), ([1, 0, 1, 1, 1, 1, 1, 1, 1, 0, 1, 0, 1, 1], [2]), ([0, 0, 1, 1, 1, 1, 1, 0, 1, 0, 1, 1], [2]), ([1, 0, 1, 1, 1, 1, 1, 0, 1, 0, 1, 1], [2]), ([0, 0, 1, 1, 1, 0, 1, 0, 1, 1], [2]), ([1, 0, 1, 1, 1, 0, 1, 0, 1, 1], [2]), ([0, 0, 1, 0, 1, 0, 1, 1], [2]), ([1, 0, 1, 0, 1, 0, 1, 1], [2]), ([1, 0, 1, 1], []), ([0, 1, 1, 1], [2]), ([1, 1, 1, 1], [2])]

def zdx (N : Nat) : Env := z30 tys zh [(40, zee N), (30, z6r N)] [] [] [] false [] []

theorem zuv (N : Nat) : EnvOk Go.Proofs.Try.prog (zdx N) := zz mixed z1w (FnsOk.cons (zgv N) (FnsOk.cons (zc5 N) (FnsOk.nil))) (ItsOk.nil)

def zo4 (N : Nat) (e : (Int × ((List UInt8) × (Int × (Int × ((List UInt8) × Unit)))))) (k0 : Bool -> Option Bool) : Option Bool :=
 (z82 N e.2.1).bind fun y =>
 cond y
 ((z2y N e.2.2.1 (1 : Int)).bind fun y1 =>
 k0 y1)
 (k0 false)

def zo6 (N : Nat) (x : z29 [(1, .box (.pair (.int .i64) (.pair .str (.pair (.int .i64) (.pair (.int .i64) (.pair .str .unit))))))]) (K : Ex -> List A -> Option Bool) : Option Bool :=
 zo4 N x.1 (fun a1 => (K .normal (mkS [(1, .box (.pair (.int .i64) (.pair .str (.pair (.int .i64) (.pair (.int .i64) (.pair .str .unit)))))), (1, .v .bool)] 70 (x.1, a1, ()))))

def zo5 (N : Nat) : Hd Bool := fun st K => (unS [(1, .box (.pair (.int .i64) (.pair .str (.pair (.int .i64) (.pair (.int .i64) (.pair .str .unit))))))] 72 (restr [1] 0 st)).bind fun x => zo6 N x K

def zw9 (N : Nat) : Tab Bool := []

theorem zuu {N : Nat} {c : Ctx} (hb : Base Go.Proofs.Try.prog (zdx N) c) : z11 Go.Proofs.Try.prog c (zj zc8 [0, 1]) (zo5 N) :=
  z1a (s := [(1, .box (.pair (.int .i64) (.pair .str (.pair (.int .i64) (.pair (.int .i64) (.pair .str .unit))))))]) (m := 72) (g := zo6 N) [1] (zd hb N (zw9 N) zju zc8 TabOk.nil [0, 1] _ rfl) (fun x K => by kernel_rfl)

def zld (N : Nat) (e : (Int × ((List UInt8) × (Int × (Int × ((List UInt8) × Unit)))))) : Option Bool :=
 zo4 N e
 (fun ofTenant => cond (e.1 == (1 : Int))
 (cond ofTenant
 ((z2y N e.2.2.2.1 (0 : Int)).bind fun y =>
 cond y
 (some (e.2.2.2.2.1 == ([] : List UInt8)))
 (some false))
 (some false))
 (cond (e.1 == (2 : Int))
 (cond ofTenant
 (cond (e.2.2.2.1 == (0 : Int))
 (some ((((List.length e.2.2.2.2.1) : Nat) : Int) == (32 : Int)))
 (some false))
 (some false))
 (cond (e.1 == (3 : Int))
 (cond ofTenant
 (cond (e.2.2.2.1 == (0 : Int))
 (some (e.2.2.2.2.1 == ([] : List UInt8)))
 (some false))
 (some false))
 (cond (e.1 == (4 : Int))
 ((z2y N e.2.2.1 (0 : Int)).bind fun y1 =>
 cond y1
 (cond (e.2.1 == ([] : List UInt8))
 (cond (e.2.2.2.1 == (0 : Int))
 (some (e.2.2.2.2.1 == ([] : List UInt8)))
 (some false))
 (some false))
 (some false))
 (some false)))))

def zqj (N : Nat) : Tab Bool := [([0, 1], zo5 N)]

theorem zsh (N : Nat) (x : z29 [(0, .v (.pair (.int .i64) (.pair .str (.pair (.int .i64) (.pair (.int .i64) (.pair .str .unit))))))]) : z9s (zdx N) N (zqj N) zju Go.Proofs.Try.f49 (mkS [(0, .v (.pair (.int .i64) (.pair .str (.pair (.int .i64) (.pair (.int .i64) (.pair .str .unit))))))] 0 x) (z49 (.v .bool) 1) = zld N x.1 := by kernel_rfl

def zut (N : Nat) : List A -> Res := z1x [(0, .v (.pair (.int .i64) (.pair .str (.pair (.int .i64) (.pair (.int .i64) (.pair .str .unit))))))] (fun x => zld N x.1) (z4j (.v .bool) 1)

theorem zwa (N : Nat) : Contract Go.Proofs.Try.prog zh 49 (zut N) :=
  Contract.of (E := zdx N) (H := zqj N) (L := zju) (N := N) (body := zc8) (K := (z49 (.v .bool) 1)) (zuv N) Go.Proofs.Try.func49 (by kernel_rfl) (by decide) (fun _ hb => (TabOk.cons (zuu hb) TabOk.nil)) (fun x y h => by rw [zsh]; exact h) (z1n (s := (.v .bool)) (m := 1))

def zqn : Code := (Go.Proofs.Try.f35.body).getD .skip

def zo8 : List (List Nat × List Nat) := [([0], [2, 1]), ([0, 1], [3]), ([1, 1], [3])]

def zfq (N : Nat) : Env := z30 tys zh [] [] [] [] false [] []

theorem zsk (N : Nat) : EnvOk Go.Proofs.Try.prog (zfq N) := zz mixed z1w (FnsOk.nil) (ItsOk.nil)

def ztj (N : Nat) (t : ((List UInt8) × (Int × (Int × ((List (Int × ((List UInt8) × Unit))) × Unit))))) (x1 : (List UInt8)) : Option Bool :=
 some (t.1 == x1)

def zo7 (N : Nat) : Tab Bool := []

theorem zqm (N : Nat) (x : z29 [(0, .v (.pair .str (.pair (.int .i64) (.pair (.int .i64) (.pair (.sl (.pair (.int .i64) (.pair .str .unit))) .unit))))), (0, .v (.ptr .str))]) : z9s (zfq N) N (zo7 N) zo8 Go.Proofs.Try.f35 (mkS [(0, .v (.pair .str (.pair (.int .i64) (.pair (.int .i64) (.pair (.sl (.pair (.int .i64) (.pair .str .unit))) .unit))))), (0, .v (.ptr .str))] 0 x) (z49 (.v .bool) 2) = ztj N x.1 x.2.1 := by kernel_rfl

def zc9 (N : Nat) : List A -> Res := z1x [(0, .v (.pair .str (.pair (.int .i64) (.pair (.int .i64) (.pair (.sl (.pair (.int .i64) (.pair .str .unit))) .unit))))), (0, .v (.ptr .str))] (fun x => ztj N x.1 x.2.1) (z4j (.v .bool) 2)

theorem zle (N : Nat) : Contract Go.Proofs.Try.prog zh 35 (zc9 N) :=
  Contract.of (E := zfq N) (H := zo7 N) (L := zo8) (N := N) (body := zqn) (K := (z49 (.v .bool) 2)) (zsk N) Go.Proofs.Try.func35 (by kernel_rfl) (by decide) (fun _ hb => TabOk.nil) (fun x y h => by rw [zqm]; exact h) (z1n (s := (.v .bool)) (m := 2))

def z8g : Code := (Go.Proofs.Try.f34.body).getD .skip

def zel : List (List Nat × List Nat) := [([0], [0, 1]), ([0, 0, 1], [8, 7, 1, 0]), ([0, 1, 0, 1], [8, 7, 1, 0]), ([0, 0, 0, 1, 0, 1], [9, 8, 1, 0, 7]), ([0, 1, 0, 0, 1, 0, 1], [8, 1, 0, 7]), ([1, 0, 1, 0, 0, 1, 0, 1], []), ([0, 0, 0, 1, 1, 0, 0, 1, 0, 1], [1, 0, 5, 8, 7]), ([0, 1, 0, 0, 1, 1, 0, 0, 1, 0, 1], [16, 5, 8, 7, 1, 0]), ([1, 1, 0, 0, 1, 1, 0, 0, 1, 0, 1], [8, 7, 1, 0]), ([0, 0, 1, 1, 0, 0, 1, 1, 0, 0, 1, 0, 1], [4]), ([1, 0, 1, 1, 0, 0, 1, 1, 0, 0, 1, 0, 1], [4]), ([0, 1, 1, 0, 0, 1, 0, 1], [8, 7, 1, 0]), ([1, 1, 1, 0, 0, 1, 0, 1], [8, 7, 1, 0]), ([1, 0, 1], []), ([0, 1, 1], [4]), ([1, 1, 1], [4])]

def z9m (N : Nat) : Env := z30 tys zh [(35, zc9 N)] [] [] [] false [] []

theorem zrm (N : Nat) : EnvOk Go.Proofs.Try.prog (z9m N) := zz mixed z1w (FnsOk.cons (zle N) (FnsOk.nil)) (ItsOk.nil)

def zcq (N : Nat) (s : (List ((List UInt8) × (Int × (Int × ((List (Int × ((List UInt8) × Unit))) × Unit)))))) (f : ((List UInt8) × Unit)) (x7 : Int) (x8 : Int) (rec : Int -> Option Int) (k0 : Int -> Option Int) (k1 : Option Int) : Option Int :=
 cond (decide (x8 < x7))
 (cond (Go.Lift.inR x8 (List.length s))
 (cond ((List.getD s (Int.toNat x8) (([] : List UInt8), ((0 : Int), ((0 : Int), (([] : List (Int × ((List UInt8) × Unit))), ()))))).1 == f.1)
 (k0 x8)
 (rec (Go.IntKind.wrap Go.IntKind.i64 (x8 + (1 : Int)))))
 (none))
 (k1)

def zjg (N : Nat) (s : (List ((List UInt8) × (Int × (Int × ((List (Int × ((List UInt8) × Unit))) × Unit)))))) (f : ((List UInt8) × Unit)) (x7 : Int) (x8 : Int) (k0 : Int -> Option Int) (k1 : Option Int) : Option Int :=
 iter (fun (v : Int) r => zcq N s f x7 v (fun x8 => (r x8)) k0 k1) N x8

def zji (N : Nat) (i : ((List ((List UInt8) × (Int × (Int × ((List (Int × ((List UInt8) × Unit))) × Unit))))) × ((List UInt8) × Unit) × Int)) (v : Int) (r : Int -> Option Int) (K : Ex -> List A -> Option Int) : Option Int :=
 zcq N i.1 i.2.1 i.2.2 v (fun x8 => (r x8)) (fun a0 => (K .ret (mkS [(4, .v (.int .i64))] 14 (a0, ())))) (K (.exit 0) (mkS [] 19 ()))

def zjh (N : Nat) : Hd Int := fun st K => (unS [(0, .v (.sl (.pair .str (.pair (.int .i64) (.pair (.int .i64) (.pair (.sl (.pair (.int .i64) (.pair .str .unit))) .unit)))))), (0, .v (.fn 35 (.pair (.ptr .str) .unit))), (5, .v (.int .i64)), (0, .v (.int .i64))] 10 (restr [8, 7, 1, 0] 0 st)).bind fun x => iter (fun v r => zji N ((fun x => (x.1, x.2.1, x.2.2.1)) x) v r K) N ((fun x => x.2.2.2.1) x)

def zt4 (N : Nat) : Tab Int := []

theorem zrl {N : Nat} {c : Ctx} (hb : Base Go.Proofs.Try.prog (z9m N) c) : z11 Go.Proofs.Try.prog c (zj z8g [0, 1, 0, 1]) (zjh N) :=
  z3p (s := [(0, .v (.sl (.pair .str (.pair (.int .i64) (.pair (.int .i64) (.pair (.sl (.pair (.int .i64) (.pair .str .unit))) .unit)))))), (0, .v (.fn 35 (.pair (.ptr .str) .unit))), (5, .v (.int .i64)), (0, .v (.int .i64))]) (m := 10) (zji N) [8, 7, 1, 0] N (fun x => (x.1, x.2.1, x.2.2.1)) (fun x => x.2.2.2.1) (fun i v => (i.1, i.2.1, i.2.2, v, ())) (fun _ => rfl) (zd hb N (zt4 N) zel z8g TabOk.nil [0, 0, 1, 0, 1] _ rfl) (fun i v r K => by kernel_rfl)

def zba (N : Nat) (s : (List ((List UInt8) × (Int × (Int × ((List (Int × ((List UInt8) × Unit))) × Unit)))))) (f : ((List UInt8) × Unit)) : Option Int :=
 zjg N s f (((List.length s) : Nat) : Int) (0 : Int)
 (fun x4 => some x4)
 (some (-(1 : Int)))

def zm5 (N : Nat) : Tab Int := [([0, 1, 0, 1], zjh N)]

theorem zpi (N : Nat) (x : z29 [(0, .v (.sl (.pair .str (.pair (.int .i64) (.pair (.int .i64) (.pair (.sl (.pair (.int .i64) (.pair .str .unit))) .unit)))))), (0, .v (.fn 35 (.pair (.ptr .str) .unit)))]) : z9s (z9m N) N (zm5 N) zel Go.Proofs.Try.f34 (mkS [(0, .v (.sl (.pair .str (.pair (.int .i64) (.pair (.int .i64) (.pair (.sl (.pair (.int .i64) (.pair .str .unit))) .unit)))))), (0, .v (.fn 35 (.pair (.ptr .str) .unit)))] 0 x) (z49 (.v (.int .i64)) 2) = zba N x.1 x.2.1 := by kernel_rfl

def zgy (N : Nat) : List A -> Res := z1x [(0, .v (.sl (.pair .str (.pair (.int .i64) (.pair (.int .i64) (.pair (.sl (.pair (.int .i64) (.pair .str .unit))) .unit)))))), (0, .v (.fn 35 (.pair (.ptr .str) .unit)))] (fun x => zba N x.1 x.2.1) (z4j (.v (.int .i64)) 2)

theorem zt6 (N : Nat) : Contract Go.Proofs.Try.prog zh 34 (zgy N) :=
  Contract.of (E := z9m N) (H := zm5 N) (L := zel) (N := N) (body := z8g) (K := (z49 (.v (.int .i64)) 2)) (zrm N) Go.Proofs.Try.func34 (by kernel_rfl) (by decide) (fun _ hb => (TabOk.cons (zrl hb) TabOk.nil)) (fun x y h => by rw [zpi]; exact h) (z1n (s := (.v (.int .i64))) (m := 2))

def zsj : Code := (Go.Proofs.Try.f16.body).getD .skip

def zql : List (List Nat × List Nat) := [([0], [2, 3]), ([0, 1], [4]), ([1, 1], [4])]

def zjv (N : Nat) : Env := z30 tys zh [(34, zgy N), (35, zc9 N)] [] [] [] false [] []

theorem zuw (N : Nat) : EnvOk Go.Proofs.Try.prog (zjv N) := zz mixed z1w (FnsOk.cons (zt6 N) (FnsOk.cons (zle N) (FnsOk.nil))) (ItsOk.nil)

def z6t (N : Nat) (s : ((List ((List UInt8) × (Int × (Int × ((List (Int × ((List UInt8) × Unit))) × Unit))))) × (Int × Unit))) (tenant : (List UInt8)) : Option Int :=
 (zba N s.1 (tenant, ())).bind fun y =>
 some y

def zqk (N : Nat) : Tab Int := []

theorem zsi (N : Nat) (x : z29 [(0, .v (.pair (.sl (.pair .str (.pair (.int .i64) (.pair (.int .i64) (.pair (.sl (.pair (.int .i64) (.pair .str .unit))) .unit))))) (.pair (.int .i64) .unit))), (0, .v .str)]) : z9s (zjv N) N (zqk N) zql Go.Proofs.Try.f16 (mkS [(0, .v (.pair (.sl (.pair .str (.pair (.int .i64) (.pair (.int .i64) (.pair (.sl (.pair (.int .i64) (.pair .str .unit))) .unit))))) (.pair (.int .i64) .unit))), (0, .v .str)] 0 x) (z49 (.v (.int .i64)) 2) = z6t N x.1 x.2.1 := by kernel_rfl

def z9l (N : Nat) : List A -> Res := z1x [(0, .v (.pair (.sl (.pair .str (.pair (.int .i64) (.pair (.int .i64) (.pair (.sl (.pair (.int .i64) (.pair .str .unit))) .unit))))) (.pair (.int .i64) .unit))), (0, .v .str)] (fun x => z6t N x.1 x.2.1) (z4j (.v (.int .i64)) 2)

theorem zbl (N : Nat) : Contract Go.Proofs.Try.prog zh 16 (z9l N) :=
  Contract.of (E := zjv N) (H := zqk N) (L := zql) (N := N) (body := zsj) (K := (z49 (.v (.int .i64)) 2)) (zuw N) Go.Proofs.Try.func16 (by kernel_rfl) (by decide) (fun _ hb => TabOk.nil) (fun x y h => by rw [zsi]; exact h) (z1n (s := (.v (.int .i64))) (m := 2))

def zp3 : Code := (Go.Proofs.Try.f52.body).getD .skip

def zl3 : List (List Nat × List Nat) := [([0], [2, 1]), ([0, 1], [3]), ([1, 1], [3])]

def zdr (N : Nat) : Env := z30 tys zh [] [] [] [] false [] []

theorem zqc (N : Nat) : EnvOk Go.Proofs.Try.prog (zdr N) := zz mixed z1w (FnsOk.nil) (ItsOk.nil)

def zqd (N : Nat) (k : (Int × ((List UInt8) × Unit))) (x1 : Int) : Option Bool :=
 some (k.1 == x1)

def zl2 (N : Nat) : Tab Bool := []

theorem zp2 (N : Nat) (x : z29 [(0, .v (.pair (.int .i64) (.pair .str .unit))), (0, .v (.ptr (.int .i64)))]) : z9s (zdr N) N (zl2 N) zl3 Go.Proofs.Try.f52 (mkS [(0, .v (.pair (.int .i64) (.pair .str .unit))), (0, .v (.ptr (.int .i64)))] 0 x) (z49 (.v .bool) 2) = zqd N x.1 x.2.1 := by kernel_rfl

def za5 (N : Nat) : List A -> Res := z1x [(0, .v (.pair (.int .i64) (.pair .str .unit))), (0, .v (.ptr (.int .i64)))] (fun x => zqd N x.1 x.2.1) (z4j (.v .bool) 2)

theorem ziv (N : Nat) : Contract Go.Proofs.Try.prog zh 52 (za5 N) :=
  Contract.of (E := zdr N) (H := zl2 N) (L := zl3) (N := N) (body := zp3) (K := (z49 (.v .bool) 2)) (zqc N) Go.Proofs.Try.func52 (by kernel_rfl) (by decide) (fun _ hb => TabOk.nil) (fun x y h => by rw [zp2]; exact h) (z1n (s := (.v .bool)) (m := 2))

def zem : Code := (Go.Proofs.Try.f51.body).getD .skip

def znm : List (List Nat × List Nat) := [([0], [0, 1]), ([0, 0, 1], [8, 7, 1, 0]), ([0, 1, 0, 1], [8, 7, 1, 0]), ([0, 0, 0, 1, 0, 1], [9, 8, 1, 0, 7]), ([0, 1, 0, 0, 1, 0, 1], [8, 1, 0, 7]), ([1, 0, 1, 0, 0, 1, 0, 1], []), ([0, 0, 0, 1, 1, 0, 0, 1, 0, 1], [1, 0, 5, 8, 7]), ([0, 1, 0, 0, 1, 1, 0, 0, 1, 0, 1], [16, 5, 8, 7, 1, 0]), ([1, 1, 0, 0, 1, 1, 0, 0, 1, 0, 1], [8, 7, 1, 0]), ([0, 0, 1, 1, 0, 0, 1, 1, 0, 0, 1, 0, 1], [4]), ([1, 0, 1, 1, 0, 0, 1, 1, 0, 0, 1, 0, 1], [4]), ([0, 1, 1, 0, 0, 1, 0, 1], [8, 7, 1, 0]), ([1, 1, 1, 0, 0, 1, 0, 1], [8, 7, 1, 0]), ([1, 0, 1], []), ([0, 1, 1], [4]), ([1, 1, 1], [4])]

def zhh (N : Nat) : Env := z30 tys zh [(52, za5 N)] [] [] [] false [] []

theorem zwx (N : Nat) : EnvOk Go.Proofs.Try.prog (zhh N) := zz mixed z1w (FnsOk.cons (ziv N) (FnsOk.nil)) (ItsOk.nil)

def zkj (N : Nat) (s : (List (Int × ((List UInt8) × Unit)))) (f : (Int × Unit)) (x7 : Int) (x8 : Int) (rec : Int -> Option Int) (k0 : Int -> Option Int) (k1 : Option Int) : Option Int :=
 cond (decide (x8 < x7))
 (cond (Go.Lift.inR x8 (List.length s))
 (cond ((List.getD s (Int.toNat x8) ((0 : Int), (([] : List UInt8), ()))).1 == f.1)
 (k0 x8)
 (rec (Go.IntKind.wrap Go.IntKind.i64 (x8 + (1 : Int)))))
 (none))
 (k1)

def zrn (N : Nat) (s : (List (Int × ((List UInt8) × Unit)))) (f : (Int × Unit)) (x7 : Int) (x8 : Int) (k0 : Int -> Option Int) (k1 : Option Int) : Option Int :=
 iter (fun (v : Int) r => zkj N s f x7 v (fun x8 => (r x8)) k0 k1) N x8

def zrp (N : Nat) (i : ((List (Int × ((List UInt8) × Unit))) × (Int × Unit) × Int)) (v : Int) (r : Int -> Option Int) (K : Ex -> List A -> Option Int) : Option Int :=
 zkj N i.1 i.2.1 i.2.2 v (fun x8 => (r x8)) (fun a0 => (K .ret (mkS [(4, .v (.int .i64))] 14 (a0, ())))) (K (.exit 0) (mkS [] 19 ()))

def zro (N : Nat) : Hd Int := fun st K => (unS [(0, .v (.sl (.pair (.int .i64) (.pair .str .unit)))), (0, .v (.fn 52 (.pair (.ptr (.int .i64)) .unit))), (5, .v (.int .i64)), (0, .v (.int .i64))] 10 (restr [8, 7, 1, 0] 0 st)).bind fun x => iter (fun v r => zrp N ((fun x => (x.1, x.2.1, x.2.2.1)) x) v r K) N ((fun x => x.2.2.2.1) x)

def zyi (N : Nat) : Tab Int := []

theorem zww {N : Nat} {c : Ctx} (hb : Base Go.Proofs.Try.prog (zhh N) c) : z11 Go.Proofs.Try.prog c (zj zem [0, 1, 0, 1]) (zro N) :=
  z3p (s := [(0, .v (.sl (.pair (.int .i64) (.pair .str .unit)))), (0, .v (.fn 52 (.pair (.ptr (.int .i64)) .unit))), (5, .v (.int .i64)), (0, .v (.int .i64))]) (m := 10) (zrp N) [8, 7, 1, 0] N (fun x => (x.1, x.2.1, x.2.2.1)) (fun x => x.2.2.2.1) (fun i v => (i.1, i.2.1, i.2.2, v, ())) (fun _ => rfl) (zd hb N (zyi N) znm zem TabOk.nil [0, 0, 1, 0, 1] _ rfl) (fun i v r K => by kernel_rfl)

def zm6 (N : Nat) (s : (List (Int × ((List UInt8) × Unit)))) (f : (Int × Unit)) : Option Int :=
 zrn N s f (((List.length s) : Nat) : Int) (0 : Int)
 (fun x4 => some x4)
 (some (-(1 : Int)))

def zu0 (N : Nat) : Tab Int := [([0, 1, 0, 1], zro N)]

theorem zvh (N : Nat) (x : z29 [(0, .v (.sl (.pair (.int .i64) (.pair .str .unit)))), (0, .v (.fn 52 (.pair (.ptr (.int .i64)) .unit)))]) : z9s (zhh N) N (zu0 N) znm Go.Proofs.Try.f51 (mkS [(0, .v (.sl (.pair (.int .i64) (.pair .str .unit)))), (0, .v (.fn 52 (.pair (.ptr (.int .i64)) .unit)))] 0 x) (z49 (.v (.int .i64)) 2) = zm6 N x.1 x.2.1 := by kernel_rfl

def zos (N : Nat) : List A -> Res := z1x [(0, .v (.sl (.pair (.int .i64) (.pair .str .unit)))), (0, .v (.fn 52 (.pair (.ptr (.int .i64)) .unit)))] (fun x => zm6 N x.1 x.2.1) (z4j (.v (.int .i64)) 2)

theorem zyk (N : Nat) : Contract Go.Proofs.Try.prog zh 51 (zos N) :=
  Contract.of (E := zhh N) (H := zu0 N) (L := znm) (N := N) (body := zem) (K := (z49 (.v (.int .i64)) 2)) (zwx N) Go.Proofs.Try.func51 (by kernel_rfl) (by decide) (fun _ hb => (TabOk.cons (zww hb) TabOk.nil)) (fun x y h => by rw [zvh]; exact h) (z1n (s := (.v (.int .i64))) (m := 2))

def zqb : Code := (Go.Proofs.Try.f36.body).getD .skip

def zo2 : List (List Nat × List Nat) := [([0], [0, 3]), ([0, 1], [4]), ([1, 1], [4])]

def zfp (N : Nat) : Env := z30 tys zh [(51, zos N), (52, za5 N)] [] [] [] false [] []

theorem zs8 (N : Nat) : EnvOk Go.Proofs.Try.prog (zfp N) := zz mixed z1w (FnsOk.cons (zyk N) (FnsOk.cons (ziv N) (FnsOk.nil))) (ItsOk.nil)

def z69 (N : Nat) (l : (List (Int × ((List UInt8) × Unit)))) (num : Int) : Option Int :=
 (zm6 N l (num, ())).bind fun y =>
 some y

def zo1 (N : Nat) : Tab Int := []

theorem zqa (N : Nat) (x : z29 [(0, .v (.sl (.pair (.int .i64) (.pair .str .unit)))), (0, .v (.int .i64))]) : z9s (zfp N) N (zo1 N) zo2 Go.Proofs.Try.f36 (mkS [(0, .v (.sl (.pair (.int .i64) (.pair .str .unit)))), (0, .v (.int .i64))] 0 x) (z49 (.v (.int .i64)) 2) = z69 N x.1 x.2.1 := by kernel_rfl

def ziu (N : Nat) : List A -> Res := z1x [(0, .v (.sl (.pair (.int .i64) (.pair .str .unit)))), (0, .v (.int .i64))] (fun x => z69 N x.1 x.2.1) (z4j (.v (.int .i64)) 2)

theorem zl1 (N : Nat) : Contract Go.Proofs.Try.prog zh 36 (ziu N) :=
  Contract.of (E := zfp N) (H := zo1 N) (L := zo2) (N := N) (body := zqb) (K := (z49 (.v (.int .i64)) 2)) (zs8 N) Go.Proofs.Try.func36 (by kernel_rfl) (by decide) (fun _ hb => TabOk.nil) (fun x y h => by rw [zqa]; exact h) (z1n (s := (.v (.int .i64))) (m := 2))

def zus : Code := (Go.Proofs.Try.f18.body).getD .skip

def zti : List (List Nat × List Nat) := [([0], [3, 1, 2]), ([0, 1], [8, 3, 2]), ([0, 0, 1, 1], [15, 3, 8, 2]), ([1, 0, 1, 1], [3, 8, 2]), ([0, 0, 1, 0, 1, 1], [6, 7]), ([1, 0, 1, 0, 1, 1], [6, 7]), ([0, 1, 1, 1], [9, 2]), ([0, 1, 1, 1, 1], [10, 9]), ([0, 0, 1, 1, 1, 1, 1], [26, 9, 10]), ([1, 0, 1, 1, 1, 1, 1], [9, 10]), ([0, 0, 1, 0, 1, 1, 1, 1, 1], [6, 7]), ([1, 0, 1, 0, 1, 1, 1, 1, 1], [6, 7]), ([0, 1, 1, 1, 1, 1, 1], [6, 7]), ([1, 1, 1, 1, 1, 1, 1], [6, 7])]

def zmq (N : Nat) : Env := z30 tys zh [(36, ziu N), (16, z9l N)] [] [] [] false [] []

theorem zw8 (N : Nat) : EnvOk Go.Proofs.Try.prog (zmq N) := zz mixed z1w (FnsOk.cons (zl1 N) (FnsOk.cons (zbl N) (FnsOk.nil))) (ItsOk.nil)

def zhc (N : Nat) (s : ((List ((List UInt8) × (Int × (Int × ((List (Int × ((List UInt8) × Unit))) × Unit))))) × (Int × Unit))) (tenant : (List UInt8)) (num : Int) : Option ((List UInt8) × Bool × Unit) :=
 (z6t N s tenant).bind fun y =>
 cond (decide (y < (0 : Int)))
 (some (([] : List UInt8), (false, ())))
 (cond (Go.Lift.inR y (List.length s.1))
 ((z69 N (List.getD s.1 (Int.toNat y) (([] : List UInt8), ((0 : Int), ((0 : Int), (([] : List (Int × ((List UInt8) × Unit))), ()))))).2.2.2.1 num).bind fun y1 =>
 cond (decide (y1 < (0 : Int)))
 (some (([] : List UInt8), (false, ())))
 (cond (Go.Lift.inR y1 (List.length (List.getD s.1 (Int.toNat y) (([] : List UInt8), ((0 : Int), ((0 : Int), (([] : List (Int × ((List UInt8) × Unit))), ()))))).2.2.2.1))
 (some ((List.getD (List.getD s.1 (Int.toNat y) (([] : List UInt8), ((0 : Int), ((0 : Int), (([] : List (Int × ((List UInt8) × Unit))), ()))))).2.2.2.1 (Int.toNat y1) ((0 : Int), (([] : List UInt8), ()))).2.1, (true, ())))
 (none)))
 (none))

def zth (N : Nat) : Tab ((List UInt8) × Bool × Unit) := []

theorem zur (N : Nat) (x : z29 [(0, .v (.pair (.sl (.pair .str (.pair (.int .i64) (.pair (.int .i64) (.pair (.sl (.pair (.int .i64) (.pair .str .unit))) .unit))))) (.pair (.int .i64) .unit))), (0, .v .str), (0, .v (.int .i64))]) : z9s (zmq N) N (zth N) zti Go.Proofs.Try.f18 (mkS [(0, .v (.pair (.sl (.pair .str (.pair (.int .i64) (.pair (.int .i64) (.pair (.sl (.pair (.int .i64) (.pair .str .unit))) .unit))))) (.pair (.int .i64) .unit))), (0, .v .str), (0, .v (.int .i64))] 0 x) (z49 (.tup [.str, .bool]) 3) = zhc N x.1 x.2.1 x.2.2.1 := by kernel_rfl

def zw7 (N : Nat) : List A -> Res := z1x [(0, .v (.pair (.sl (.pair .str (.pair (.int .i64) (.pair (.int .i64) (.pair (.sl (.pair (.int .i64) (.pair .str .unit))) .unit))))) (.pair (.int .i64) .unit))), (0, .v .str), (0, .v (.int .i64))] (fun x => zhc N x.1 x.2.1 x.2.2.1) (z4j (.tup [.str, .bool]) 3)

theorem zxx (N : Nat) : Contract Go.Proofs.Try.prog zh 18 (zw7 N) :=
  Contract.of (E := zmq N) (H := zth N) (L := zti) (N := N) (body := zus) (K := (z49 (.tup [.str, .bool]) 3)) (zw8 N) Go.Proofs.Try.func18 (by kernel_rfl) (by decide) (fun _ hb => TabOk.nil) (fun x y h => by rw [zur]; exact h) (z1n (s := (.tup [.str, .bool])) (m := 3))

def z3u : Code := (Go.Proofs.Try.f17.body).getD .skip

def z9k : List (List Nat × List Nat) := [([0], [2, 1, 4]), ([0, 1], [6, 2, 4]), ([0, 0, 1, 1], [22, 4, 2, 6]), ([1, 0, 1, 1], [2, 6, 4]), ([0, 0, 1, 0, 1, 1], [4, 5]), ([1, 0, 1, 0, 1, 1], [4, 5]), ([0, 1, 1, 1], [7, 4]), ([0, 1, 1, 1, 1], [4, 5]), ([1, 1, 1, 1, 1], [4, 5])]

def z6s (N : Nat) : Env := z30 tys zh [(16, z9l N)] [(7, (.pair (.int .i64) (.pair .str .unit)))] [] [] false [] []

theorem zqi (N : Nat) : EnvOk Go.Proofs.Try.prog (z6s N) := zz mixed z1w (FnsOk.cons (zbl N) (FnsOk.nil)) (ItsOk.nil)

def zc6 (N : Nat) (s : ((List ((List UInt8) × (Int × (Int × ((List (Int × ((List UInt8) × Unit))) × Unit))))) × (Int × Unit))) (x4 : (Int × ((List UInt8) × Unit))) (at_ : Int) (k0 : Bool -> Option ((Int × ((List UInt8) × Unit)) × Bool × Unit)) : Option ((Int × ((List UInt8) × Unit)) × Bool × Unit) :=
 cond (decide (at_ < (0 : Int)))
 (k0 true)
 (cond (Go.Lift.inR at_ (List.length s.1))
 (k0 ((((List.length (List.getD s.1 (Int.toNat at_) (([] : List UInt8), ((0 : Int), ((0 : Int), (([] : List (Int × ((List UInt8) × Unit))), ()))))).2.2.2.1) : Nat) : Int) == (0 : Int)))
 (none))

def ziz (N : Nat) (x : z29 [(2, .box (.pair (.sl (.pair .str (.pair (.int .i64) (.pair (.int .i64) (.pair (.sl (.pair (.int .i64) (.pair .str .unit))) .unit))))) (.pair (.int .i64) .unit))), (1, .box (.pair (.int .i64) (.pair .str .unit))), (1, .v (.int .i64))]) (K : Ex -> List A -> Option ((Int × ((List UInt8) × Unit)) × Bool × Unit)) : Option ((Int × ((List UInt8) × Unit)) × Bool × Unit) :=
 zc6 N x.1 x.2.1 x.2.2.1 (fun a3 => (K .normal (mkS [(2, .box (.pair (.sl (.pair .str (.pair (.int .i64) (.pair (.int .i64) (.pair (.sl (.pair (.int .i64) (.pair .str .unit))) .unit))))) (.pair (.int .i64) .unit))), (1, .box (.pair (.int .i64) (.pair .str .unit))), (1, .v (.int .i64)), (15, .v .bool)] 13 (x.1, x.2.1, x.2.2.1, a3, ()))))

def zix (N : Nat) : Hd ((Int × ((List UInt8) × Unit)) × Bool × Unit) := fun st K => (unS [(2, .box (.pair (.sl (.pair .str (.pair (.int .i64) (.pair (.int .i64) (.pair (.sl (.pair (.int .i64) (.pair .str .unit))) .unit))))) (.pair (.int .i64) .unit))), (1, .box (.pair (.int .i64) (.pair .str .unit))), (1, .v (.int .i64))] 29 (restr [6, 2, 4] 0 st)).bind fun x => ziz N x K

def zse (N : Nat) : Tab ((Int × ((List UInt8) × Unit)) × Bool × Unit) := []

theorem zqg {N : Nat} {c : Ctx} (hb : Base Go.Proofs.Try.prog (z6s N) c) : z11 Go.Proofs.Try.prog c (zj z3u [0, 0, 1, 1]) (zix N) :=
  z1a (s := [(2, .box (.pair (.sl (.pair .str (.pair (.int .i64) (.pair (.int .i64) (.pair (.sl (.pair (.int .i64) (.pair .str .unit))) .unit))))) (.pair (.int .i64) .unit))), (1, .box (.pair (.int .i64) (.pair .str .unit))), (1, .v (.int .i64))]) (m := 29) (g := ziz N) [6, 2, 4] (zd hb N (zse N) z9k z3u TabOk.nil [0, 0, 1, 1] _ rfl) (fun x K => by kernel_rfl)

def zc7 (N : Nat) (s : ((List ((List UInt8) × (Int × (Int × ((List (Int × ((List UInt8) × Unit))) × Unit))))) × (Int × Unit))) (x4 : (Int × ((List UInt8) × Unit))) (at_ : Int) (k0 : (Int × ((List UInt8) × Unit)) -> Bool -> Option ((Int × ((List UInt8) × Unit)) × Bool × Unit)) (k1 : Option ((Int × ((List UInt8) × Unit)) × Bool × Unit)) : Option ((Int × ((List UInt8) × Unit)) × Bool × Unit) :=
 zc6 N s x4 at_
 (fun x22 => cond x22
 (k0 ((0 : Int), (([] : List UInt8), ())) false)
 (k1))

def zj0 (N : Nat) (x : z29 [(2, .box (.pair (.sl (.pair .str (.pair (.int .i64) (.pair (.int .i64) (.pair (.sl (.pair (.int .i64) (.pair .str .unit))) .unit))))) (.pair (.int .i64) .unit))), (1, .box (.pair (.int .i64) (.pair .str .unit))), (1, .v (.int .i64))]) (K : Ex -> List A -> Option ((Int × ((List UInt8) × Unit)) × Bool × Unit)) : Option ((Int × ((List UInt8) × Unit)) × Bool × Unit) :=
 zc7 N x.1 x.2.1 x.2.2.1 (fun a0 a1 => (K .ret (mkS [(4, .box (.pair (.int .i64) (.pair .str .unit))), (0, .v .bool)] 30 (a0, a1, ())))) (K .normal (mkS [(2, .box (.pair (.sl (.pair .str (.pair (.int .i64) (.pair (.int .i64) (.pair (.sl (.pair (.int .i64) (.pair .str .unit))) .unit))))) (.pair (.int .i64) .unit))), (1, .box (.pair (.int .i64) (.pair .str .unit))), (1, .v (.int .i64))] 29 (x.1, x.2.1, x.2.2.1, ())))

def ziy (N : Nat) : Hd ((Int × ((List UInt8) × Unit)) × Bool × Unit) := fun st K => (unS [(2, .box (.pair (.sl (.pair .str (.pair (.int .i64) (.pair (.int .i64) (.pair (.sl (.pair (.int .i64) (.pair .str .unit))) .unit))))) (.pair (.int .i64) .unit))), (1, .box (.pair (.int .i64) (.pair .str .unit))), (1, .v (.int .i64))] 29 (restr [6, 2, 4] 0 st)).bind fun x => zj0 N x K

def zsf (N : Nat) : Tab ((Int × ((List UInt8) × Unit)) × Bool × Unit) := [([0, 0, 1, 1], zix N)]

theorem zqh {N : Nat} {c : Ctx} (hb : Base Go.Proofs.Try.prog (z6s N) c) : z11 Go.Proofs.Try.prog c (zj z3u [0, 1, 1]) (ziy N) :=
  z1a (s := [(2, .box (.pair (.sl (.pair .str (.pair (.int .i64) (.pair (.int .i64) (.pair (.sl (.pair (.int .i64) (.pair .str .unit))) .unit))))) (.pair (.int .i64) .unit))), (1, .box (.pair (.int .i64) (.pair .str .unit))), (1, .v (.int .i64))]) (m := 29) (g := zj0 N) [6, 2, 4] (zd hb N (zsf N) z9k z3u (TabOk.cons (zqg hb) TabOk.nil) [0, 1, 1] _ rfl) (fun x K => by kernel_rfl)

def z5u (N : Nat) (s : ((List ((List UInt8) × (Int × (Int × ((List (Int × ((List UInt8) × Unit))) × Unit))))) × (Int × Unit))) (tenant : (List UInt8)) : Option ((Int × ((List UInt8) × Unit)) × Bool × Unit) :=
 (z6t N s tenant).bind fun y =>
 zc7 N s ((0 : Int), (([] : List UInt8), ())) y
 (fun x4 x5 => some (x4, (x5, ())))
 (cond (Go.Lift.inR y (List.length s.1))
 (cond (Go.Lift.inR (Go.IntKind.wrap Go.IntKind.i64 ((((List.length (List.getD s.1 (Int.toNat y) (([] : List UInt8), ((0 : Int), ((0 : Int), (([] : List (Int × ((List UInt8) × Unit))), ()))))).2.2.2.1) : Nat) : Int) - (1 : Int))) (List.length (List.getD s.1 (Int.toNat y) (([] : List UInt8), ((0 : Int), ((0 : Int), (([] : List (Int × ((List UInt8) × Unit))), ()))))).2.2.2.1))
 (some ((List.getD (List.getD s.1 (Int.toNat y) (([] : List UInt8), ((0 : Int), ((0 : Int), (([] : List (Int × ((List UInt8) × Unit))), ()))))).2.2.2.1 (Int.toNat (Go.IntKind.wrap Go.IntKind.i64 ((((List.length (List.getD s.1 (Int.toNat y) (([] : List UInt8), ((0 : Int), ((0 : Int), (([] : List (Int × ((List UInt8) × Unit))), ()))))).2.2.2.1) : Nat) : Int) - (1 : Int)))) ((0 : Int), (([] : List UInt8), ()))), (true, ())))
 (none))
 (none))

def zlc (N : Nat) : Tab ((Int × ((List UInt8) × Unit)) × Bool × Unit) := [([0, 1, 1], ziy N)]

theorem zp4 (N : Nat) (x : z29 [(0, .v (.pair (.sl (.pair .str (.pair (.int .i64) (.pair (.int .i64) (.pair (.sl (.pair (.int .i64) (.pair .str .unit))) .unit))))) (.pair (.int .i64) .unit))), (0, .v .str)]) : z9s (z6s N) N (zlc N) z9k Go.Proofs.Try.f17 (mkS [(0, .v (.pair (.sl (.pair .str (.pair (.int .i64) (.pair (.int .i64) (.pair (.sl (.pair (.int .i64) (.pair .str .unit))) .unit))))) (.pair (.int .i64) .unit))), (0, .v .str)] 0 x) (z49 (.tup [(.pair (.int .i64) (.pair .str .unit)), .bool]) 2) = z5u N x.1 x.2.1 := by kernel_rfl

def zqf (N : Nat) : List A -> Res := z1x [(0, .v (.pair (.sl (.pair .str (.pair (.int .i64) (.pair (.int .i64) (.pair (.sl (.pair (.int .i64) (.pair .str .unit))) .unit))))) (.pair (.int .i64) .unit))), (0, .v .str)] (fun x => z5u N x.1 x.2.1) (z4j (.tup [(.pair (.int .i64) (.pair .str .unit)), .bool]) 2)

theorem zsg (N : Nat) : Contract Go.Proofs.Try.prog zh 17 (zqf N) :=
  Contract.of (E := z6s N) (H := zlc N) (L := z9k) (N := N) (body := z3u) (K := (z49 (.tup [(.pair (.int .i64) (.pair .str .unit)), .bool]) 2)) (zqi N) Go.Proofs.Try.func17 (by kernel_rfl) (by decide) (fun _ hb => (TabOk.cons (zqh hb) TabOk.nil)) (fun x y h => by rw [zp4]; exact h) (z1n (s := (.tup [(.pair (.int .i64) (.pair .str .unit)), .bool])) (m := 2))

def z1k : Code := (Go.Proofs.Try.f6.body).getD .skip

def z2p : List (List Nat × List Nat) := [([0], [1]), ([0, 0, 1], [7, 1]), ([1, 0, 1], [1]), ([0, 0, 1, 0, 1], [2]), ([1, 0, 1, 0, 1], [2]), ([0, 0, 1, 1], [3, 1]), ([0, 1, 0, 1, 1], [3, 1]), ([0, 0, 0, 0, 1, 0, 1, 1], [12, 1, 3]), ([1, 0, 0, 0, 1, 0, 1, 1], [1, 3]), ([1, 1, 0, 0, 0, 1, 0, 1, 1], []), ([0, 0, 0, 1, 0, 0, 1, 0, 1, 1], [32, 3, 1]), ([1, 0, 0, 1, 0, 0, 1, 0, 1, 1], [3, 1]), ([0, 0, 1, 0, 0, 1, 0, 0, 1, 0, 1, 1], [2]), ([1, 0, 1, 0, 0, 1, 0, 0, 1, 0, 1, 1], [2]), ([0, 1, 0, 0, 1, 0, 1, 1], [3, 1]), ([1, 1, 0, 0, 1, 0, 1, 1], [3, 1]), ([1, 0, 1, 1], []), ([0, 1, 1, 1], [2]), ([1, 1, 1, 1], [2])]

def z2a (N : Nat) : Env := z30 tys zh [] [] [] [] false [] []

theorem zgc (N : Nat) : EnvOk Go.Proofs.Try.prog (z2a N) := zz mixed z1w (FnsOk.nil) (ItsOk.nil)

def z5d (N : Nat) (s : ((List ((List UInt8) × (Int × (Int × ((List (Int × ((List UInt8) × Unit))) × Unit))))) × (Int × Unit))) (i : Int) (k0 : Bool -> Option Bool) : Option Bool :=
 cond (Go.Lift.inR i (List.length s.1))
 (cond (decide ((12 : Int) < (((List.length (List.getD s.1 (Int.toNat i) (([] : List UInt8), ((0 : Int), ((0 : Int), (([] : List (Int × ((List UInt8) × Unit))), ()))))).2.2.2.1) : Nat) : Int)))
 (k0 true)
 (cond (Go.Lift.inR i (List.length s.1))
 (k0 (decide ((100 : Int) < (((List.length (List.getD s.1 (Int.toNat i) (([] : List UInt8), ((0 : Int), ((0 : Int), (([] : List (Int × ((List UInt8) × Unit))), ()))))).1) : Nat) : Int))))
 (none)))
 (none)

def z9c (N : Nat) (x : z29 [(1, .box (.pair (.sl (.pair .str (.pair (.int .i64) (.pair (.int .i64) (.pair (.sl (.pair (.int .i64) (.pair .str .unit))) .unit))))) (.pair (.int .i64) .unit))), (1, .v (.int .i64))]) (K : Ex -> List A -> Option Bool) : Option Bool :=
 z5d N x.1 x.2.1 (fun a2 => (K .normal (mkS [(1, .box (.pair (.sl (.pair .str (.pair (.int .i64) (.pair (.int .i64) (.pair (.sl (.pair (.int .i64) (.pair .str .unit))) .unit))))) (.pair (.int .i64) .unit))), (1, .v (.int .i64)), (28, .v .bool)] 0 (x.1, x.2.1, a2, ()))))

def z99 (N : Nat) : Hd Bool := fun st K => (unS [(1, .box (.pair (.sl (.pair .str (.pair (.int .i64) (.pair (.int .i64) (.pair (.sl (.pair (.int .i64) (.pair .str .unit))) .unit))))) (.pair (.int .i64) .unit))), (1, .v (.int .i64))] 29 (restr [1, 3] 0 st)).bind fun x => z9c N x K

def zi9 (N : Nat) : Tab Bool := []

theorem zg9 {N : Nat} {c : Ctx} (hb : Base Go.Proofs.Try.prog (z2a N) c) : z11 Go.Proofs.Try.prog c (zj z1k [0, 0, 0, 1, 0, 0, 1, 0, 1, 1]) (z99 N) :=
  z1a (s := [(1, .box (.pair (.sl (.pair .str (.pair (.int .i64) (.pair (.int .i64) (.pair (.sl (.pair (.int .i64) (.pair .str .unit))) .unit))))) (.pair (.int .i64) .unit))), (1, .v (.int .i64))]) (m := 29) (g := z9c N) [1, 3] (zd hb N (zi9 N) z2p z1k TabOk.nil [0, 0, 0, 1, 0, 0, 1, 0, 1, 1] _ rfl) (fun x K => by kernel_rfl)

def z5e (N : Nat) (s : ((List ((List UInt8) × (Int × (Int × ((List (Int × ((List UInt8) × Unit))) × Unit))))) × (Int × Unit))) (i : Int) (k0 : Bool -> Option Bool) (k1 : Option Bool) : Option Bool :=
 z5d N s i
 (fun x32 => cond x32
 (k0 true)
 (k1))

def z9d (N : Nat) (x : z29 [(1, .box (.pair (.sl (.pair .str (.pair (.int .i64) (.pair (.int .i64) (.pair (.sl (.pair (.int .i64) (.pair .str .unit))) .unit))))) (.pair (.int .i64) .unit))), (1, .v (.int .i64))]) (K : Ex -> List A -> Option Bool) : Option Bool :=
 z5e N x.1 x.2.1 (fun a0 => (K .ret (mkS [(2, .v .bool)] 30 (a0, ())))) (K .normal (mkS [(1, .box (.pair (.sl (.pair .str (.pair (.int .i64) (.pair (.int .i64) (.pair (.sl (.pair (.int .i64) (.pair .str .unit))) .unit))))) (.pair (.int .i64) .unit))), (1, .v (.int .i64))] 29 (x.1, x.2.1, ())))

def z9a (N : Nat) : Hd Bool := fun st K => (unS [(1, .box (.pair (.sl (.pair .str (.pair (.int .i64) (.pair (.int .i64) (.pair (.sl (.pair (.int .i64) (.pair .str .unit))) .unit))))) (.pair (.int .i64) .unit))), (1, .v (.int .i64))] 29 (restr [1, 3] 0 st)).bind fun x => z9d N x K

def zia (N : Nat) : Tab Bool := [([0, 0, 0, 1, 0, 0, 1, 0, 1, 1], z99 N)]

theorem zga {N : Nat} {c : Ctx} (hb : Base Go.Proofs.Try.prog (z2a N) c) : z11 Go.Proofs.Try.prog c (zj z1k [0, 1, 0, 0, 1, 0, 1, 1]) (z9a N) :=
  z1a (s := [(1, .box (.pair (.sl (.pair .str (.pair (.int .i64) (.pair (.int .i64) (.pair (.sl (.pair (.int .i64) (.pair .str .unit))) .unit))))) (.pair (.int .i64) .unit))), (1, .v (.int .i64))]) (m := 29) (g := z9d N) [1, 3] (zd hb N (zia N) z2p z1k (TabOk.cons (zg9 hb) TabOk.nil) [0, 1, 0, 0, 1, 0, 1, 1] _ rfl) (fun x K => by kernel_rfl)

def z5c (N : Nat) (s : ((List ((List UInt8) × (Int × (Int × ((List (Int × ((List UInt8) × Unit))) × Unit))))) × (Int × Unit))) (i : Int) (rec : Int -> Option Bool) (k0 : Bool -> Option Bool) (k1 : Option Bool) : Option Bool :=
 cond (decide (i < (((List.length s.1) : Nat) : Int)))
 (z5e N s i
 (fun x2 => k0 x2)
 (rec (Go.IntKind.wrap Go.IntKind.i64 (i + (1 : Int)))))
 (k1)

def z98 (N : Nat) (s : ((List ((List UInt8) × (Int × (Int × ((List (Int × ((List UInt8) × Unit))) × Unit))))) × (Int × Unit))) (i : Int) (k0 : Bool -> Option Bool) (k1 : Option Bool) : Option Bool :=
 iter (fun (v : Int) r => z5c N s v (fun i => (r i)) k0 k1) N i

def z9e (N : Nat) (i : ((List ((List UInt8) × (Int × (Int × ((List (Int × ((List UInt8) × Unit))) × Unit))))) × (Int × Unit))) (v : Int) (r : Int -> Option Bool) (K : Ex -> List A -> Option Bool) : Option Bool :=
 z5c N i v (fun i => (r i)) (fun a0 => (K .ret (mkS [(2, .v .bool)] 30 (a0, ())))) (K (.exit 0) (mkS [] 33 ()))

def z9b (N : Nat) : Hd Bool := fun st K => (unS [(1, .box (.pair (.sl (.pair .str (.pair (.int .i64) (.pair (.int .i64) (.pair (.sl (.pair (.int .i64) (.pair .str .unit))) .unit))))) (.pair (.int .i64) .unit))), (1, .v (.int .i64))] 29 (restr [3, 1] 0 st)).bind fun x => iter (fun v r => z9e N ((fun x => x.1) x) v r K) N ((fun x => x.2.1) x)

def zib (N : Nat) : Tab Bool := [([0, 1, 0, 0, 1, 0, 1, 1], z9a N)]

theorem zgb {N : Nat} {c : Ctx} (hb : Base Go.Proofs.Try.prog (z2a N) c) : z11 Go.Proofs.Try.prog c (zj z1k [0, 1, 0, 1, 1]) (z9b N) :=
  z3p (s := [(1, .box (.pair (.sl (.pair .str (.pair (.int .i64) (.pair (.int .i64) (.pair (.sl (.pair (.int .i64) (.pair .str .unit))) .unit))))) (.pair (.int .i64) .unit))), (1, .v (.int .i64))]) (m := 29) (z9e N) [3, 1] N (fun x => x.1) (fun x => x.2.1) (fun i v => (i, v, ())) (fun _ => rfl) (zd hb N (zib N) z2p z1k (TabOk.cons (zga hb) TabOk.nil) [0, 0, 1, 0, 1, 1] _ rfl) (fun i v r K => by kernel_rfl)

def z35 (N : Nat) (s : ((List ((List UInt8) × (Int × (Int × ((List (Int × ((List UInt8) × Unit))) × Unit))))) × (Int × Unit))) : Option Bool :=
 cond (decide ((20 : Int) < (((List.length s.1) : Nat) : Int)))
 (some true)
 (z98 N s (0 : Int)
 (fun x2 => some x2)
 (some false))

def zaf (N : Nat) : Tab Bool := [([0, 1, 0, 1, 1], z9b N)]

theorem zf8 (N : Nat) (x : z29 [(0, .v (.pair (.sl (.pair .str (.pair (.int .i64) (.pair (.int .i64) (.pair (.sl (.pair (.int .i64) (.pair .str .unit))) .unit))))) (.pair (.int .i64) .unit)))]) : z9s (z2a N) N (zaf N) z2p Go.Proofs.Try.f6 (mkS [(0, .v (.pair (.sl (.pair .str (.pair (.int .i64) (.pair (.int .i64) (.pair (.sl (.pair (.int .i64) (.pair .str .unit))) .unit))))) (.pair (.int .i64) .unit)))] 0 x) (z49 (.v .bool) 1) = z35 N x.1 := by kernel_rfl

def z7x (N : Nat) : List A -> Res := z1x [(0, .v (.pair (.sl (.pair .str (.pair (.int .i64) (.pair (.int .i64) (.pair (.sl (.pair (.int .i64) (.pair .str .unit))) .unit))))) (.pair (.int .i64) .unit)))] (fun x => z35 N x.1) (z4j (.v .bool) 1)

theorem zic (N : Nat) : Contract Go.Proofs.Try.prog zh 6 (z7x N) :=
  Contract.of (E := z2a N) (H := zaf N) (L := z2p) (N := N) (body := z1k) (K := (z49 (.v .bool) 1)) (zgc N) Go.Proofs.Try.func6 (by kernel_rfl) (by decide) (fun _ hb => (TabOk.cons (zgb hb) TabOk.nil)) (fun x y h => by rw [zf8]; exact h) (z1n (s := (.v .bool)) (m := 1))

def zk3 : Code := (Go.Proofs.Try.f45.body).getD .skip

def zet : List (List Nat × List Nat) := [([0], [0, 1]), ([0, 1], [4]), ([1, 1], [4])]

def z89 (N : Nat) : Env := z30 tys zh [] [] [] [] false [] []

theorem zlj (N : Nat) : EnvOk Go.Proofs.Try.prog (z89 N) := zz mixed z1w (FnsOk.nil) (ItsOk.nil)

def z2z (N : Nat) (n : Int) (first : Int) : Option Bool :=
 cond (decide (first <= n))
 (some (decide (n <= (1099511627776 : Int))))
 (some false)

def zes (N : Nat) : Tab Bool := []

theorem zk2 (N : Nat) (x : z29 [(0, .v (.int .i64)), (0, .v (.int .i64))]) : z9s (z89 N) N (zes N) zet Go.Proofs.Try.f45 (mkS [(0, .v (.int .i64)), (0, .v (.int .i64))] 0 x) (z49 (.v .bool) 2) = z2z N x.1 x.2.1 := by kernel_rfl

def zbq (N : Nat) : List A -> Res := z1x [(0, .v (.int .i64)), (0, .v (.int .i64))] (fun x => z2z N x.1 x.2.1) (z4j (.v .bool) 2)

theorem zmu (N : Nat) : Contract Go.Proofs.Try.prog zh 45 (zbq N) :=
  Contract.of (E := z89 N) (H := zes N) (L := zet) (N := N) (body := zk3) (K := (z49 (.v .bool) 2)) (zlj N) Go.Proofs.Try.func45 (by kernel_rfl) (by decide) (fun _ hb => TabOk.nil) (fun x y h => by rw [zk2]; exact h) (z1n (s := (.v .bool)) (m := 2))

def zi : Code := (Go.Proofs.Try.f26.body).getD .skip

def z1m : List (List Nat × List Nat) := [([0], [0]), ([0, 0, 1], [13, 0]), ([1, 0, 1], [0]), ([0, 0, 1, 0, 1], [2]), ([1, 0, 1, 0, 1], [2]), ([0, 0, 1, 1], [3, 0]), ([0, 1, 0, 1, 1], [3, 0]), ([0, 0, 0, 0, 1, 0, 1, 1], [17, 0, 3]), ([1, 0, 0, 0, 1, 0, 1, 1], [0, 3]), ([1, 1, 0, 0, 0, 1, 0, 1, 1], []), ([0, 0, 0, 1, 0, 0, 1, 0, 1, 1], [0, 3, 4]), ([0, 1, 0, 0, 1, 0, 0, 1, 0, 1, 1], [4, 3, 5, 0]), ([0, 1, 1, 0, 0, 1, 0, 0, 1, 0, 1, 1], [55, 3, 0]), ([1, 1, 1, 0, 0, 1, 0, 0, 1, 0, 1, 1], [3, 0]), ([0, 0, 1, 1, 1, 0, 0, 1, 0, 0, 1, 0, 1, 1], [2]), ([1, 0, 1, 1, 1, 0, 0, 1, 0, 0, 1, 0, 1, 1], [2]), ([0, 1, 0, 0, 1, 0, 1, 1], [3, 0]), ([1, 1, 0, 0, 1, 0, 1, 1], [3, 0]), ([1, 0, 1, 1], []), ([0, 1, 1, 1], [2]), ([1, 1, 1, 1], [2])]

def z1e (N : Nat) : Env := z30 tys zh [] [] [] [] false [] []

theorem zim (N : Nat) : EnvOk Go.Proofs.Try.prog (z1e N) := zz mixed z1w (FnsOk.nil) (ItsOk.nil)

def z61 (N : Nat) (s : (List UInt8)) (k0 : Bool -> Option Bool) : Option Bool :=
 cond (decide ((((List.length s) : Nat) : Int) < (1 : Int)))
 (k0 true)
 (k0 (decide ((32 : Int) < (((List.length s) : Nat) : Int))))

def zax (N : Nat) (x : z29 [(0, .v .str)]) (K : Ex -> List A -> Option Bool) : Option Bool :=
 z61 N x.1 (fun a1 => (K .normal (mkS [(0, .v .str), (12, .v .bool)] 42 (x.1, a1, ()))))

def zaq (N : Nat) : Hd Bool := fun st K => (unS [(0, .v .str)] 55 (restr [0] 0 st)).bind fun x => zax N x K

def zkb (N : Nat) : Tab Bool := []

theorem zik {N : Nat} {c : Ctx} (hb : Base Go.Proofs.Try.prog (z1e N) c) : z11 Go.Proofs.Try.prog c (zj zi [0, 0, 1]) (zaq N) :=
  z1a (s := [(0, .v .str)]) (m := 55) (g := zax N) [0] (zd hb N (zkb N) z1m zi TabOk.nil [0, 0, 1] _ rfl) (fun x K => by kernel_rfl)

def z62 (N : Nat) (s : (List UInt8)) (k0 : Bool -> Option Bool) (k1 : Option Bool) : Option Bool :=
 z61 N s
 (fun x13 => cond x13
 (k0 false)
 (k1))

def zay (N : Nat) (x : z29 [(0, .v .str)]) (K : Ex -> List A -> Option Bool) : Option Bool :=
 z62 N x.1 (fun a0 => (K .ret (mkS [(2, .v .bool)] 53 (a0, ())))) (K .normal (mkS [(0, .v .str)] 55 (x.1, ())))

def zar (N : Nat) : Hd Bool := fun st K => (unS [(0, .v .str)] 55 (restr [0] 0 st)).bind fun x => zay N x K

def zkc (N : Nat) : Tab Bool := [([0, 0, 1], zaq N)]

theorem zil {N : Nat} {c : Ctx} (hb : Base Go.Proofs.Try.prog (z1e N) c) : z11 Go.Proofs.Try.prog c (zj zi [0, 1]) (zar N) :=
  z1a (s := [(0, .v .str)]) (m := 55) (g := zay N) [0] (zd hb N (zkc N) z1m zi (TabOk.cons (zik hb) TabOk.nil) [0, 1] _ rfl) (fun x K => by kernel_rfl)

def z3n (N : Nat) (s : (List UInt8)) (i : Int) (k0 : Bool -> Option Bool) : Option Bool :=
 cond (Go.Lift.inR i (List.length s))
 (cond (decide ((97 : Int) <= (((UInt8.toNat (List.getD s (Int.toNat i) (0 : UInt8))) : Nat) : Int)))
 (cond (Go.Lift.inR i (List.length s))
 (k0 (decide ((((UInt8.toNat (List.getD s (Int.toNat i) (0 : UInt8))) : Nat) : Int) <= (122 : Int))))
 (none))
 (k0 false))
 (none)

def zau (N : Nat) (x : z29 [(0, .v .str), (2, .v (.int .i64))]) (K : Ex -> List A -> Option Bool) : Option Bool :=
 z3n N x.1 x.2.1 (fun a2 => (K .normal (mkS [(0, .v .str), (2, .v (.int .i64)), (0, .v .bool)] 51 (x.1, x.2.1, a2, ()))))

def zan (N : Nat) : Hd Bool := fun st K => (unS [(0, .v .str), (2, .v (.int .i64))] 52 (restr [0, 3] 0 st)).bind fun x => zau N x K

def zk8 (N : Nat) : Tab Bool := []

theorem zih {N : Nat} {c : Ctx} (hb : Base Go.Proofs.Try.prog (z1e N) c) : z11 Go.Proofs.Try.prog c (zj zi [0, 0, 0, 1, 0, 0, 1, 0, 1, 1]) (zan N) :=
  z1a (s := [(0, .v .str), (2, .v (.int .i64))]) (m := 52) (g := zau N) [0, 3] (zd hb N (zk8 N) z1m zi TabOk.nil [0, 0, 0, 1, 0, 0, 1, 0, 1, 1] _ rfl) (fun x K => by kernel_rfl)

def z3m (N : Nat) (s : (List UInt8)) (i : Int) (small : Bool) (k0 : Bool -> Option Bool) : Option Bool :=
 cond (Go.Lift.inR i (List.length s))
 (cond ((((UInt8.toNat (List.getD s (Int.toNat i) (0 : UInt8))) : Nat) : Int) == (45 : Int))
 (k0 true)
 (cond (Go.Lift.inR i (List.length s))
 (cond (decide ((48 : Int) <= (((UInt8.toNat (List.getD s (Int.toNat i) (0 : UInt8))) : Nat) : Int)))
 (cond (Go.Lift.inR i (List.length s))
 (k0 (decide ((((UInt8.toNat (List.getD s (Int.toNat i) (0 : UInt8))) : Nat) : Int) <= (57 : Int))))
 (none))
 (k0 false))
 (none)))
 (none)

def zat (N : Nat) (x : z29 [(0, .v .str), (2, .v (.int .i64)), (0, .v .bool)]) (K : Ex -> List A -> Option Bool) : Option Bool :=
 z3m N x.1 x.2.1 x.2.2.1 (fun a3 => (K .normal (mkS [(0, .v .str), (2, .v (.int .i64)), (0, .v .bool), (0, .v .bool)] 50 (x.1, x.2.1, x.2.2.1, a3, ()))))

def zam (N : Nat) : Hd Bool := fun st K => (unS [(0, .v .str), (2, .v (.int .i64)), (0, .v .bool)] 51 (restr [0, 3, 4] 0 st)).bind fun x => zat N x K

def zk7 (N : Nat) : Tab Bool := []

theorem zig {N : Nat} {c : Ctx} (hb : Base Go.Proofs.Try.prog (z1e N) c) : z11 Go.Proofs.Try.prog c (zj zi [0, 1, 0, 0, 1, 0, 0, 1, 0, 1, 1]) (zam N) :=
  z1a (s := [(0, .v .str), (2, .v (.int .i64)), (0, .v .bool)]) (m := 51) (g := zat N) [0, 3, 4] (zd hb N (zk7 N) z1m zi TabOk.nil [0, 1, 0, 0, 1, 0, 0, 1, 0, 1, 1] _ rfl) (fun x K => by kernel_rfl)

def z5z (N : Nat) (s : (List UInt8)) (i : Int) (small : Bool) (other : Bool) (k0 : Bool -> Option Bool) : Option Bool :=
 cond (!small)
 (cond (i == (0 : Int))
 (k0 true)
 (k0 (!other)))
 (k0 false)

def zas (N : Nat) (x : z29 [(0, .v .str), (2, .v (.int .i64)), (0, .v .bool), (0, .v .bool)]) (K : Ex -> List A -> Option Bool) : Option Bool :=
 z5z N x.1 x.2.1 x.2.2.1 x.2.2.2.1 (fun a2 => (K .normal (mkS [(0, .v .str), (2, .v (.int .i64)), (51, .v .bool)] 0 (x.1, x.2.1, a2, ()))))

def zal (N : Nat) : Hd Bool := fun st K => (unS [(0, .v .str), (2, .v (.int .i64)), (0, .v .bool), (0, .v .bool)] 50 (restr [4, 3, 5, 0] 0 st)).bind fun x => zas N x K

def zk6 (N : Nat) : Tab Bool := []

theorem zif {N : Nat} {c : Ctx} (hb : Base Go.Proofs.Try.prog (z1e N) c) : z11 Go.Proofs.Try.prog c (zj zi [0, 1, 1, 0, 0, 1, 0, 0, 1, 0, 1, 1]) (zal N) :=
  z1a (s := [(0, .v .str), (2, .v (.int .i64)), (0, .v .bool), (0, .v .bool)]) (m := 50) (g := zas N) [4, 3, 5, 0] (zd hb N (zk6 N) z1m zi TabOk.nil [0, 1, 1, 0, 0, 1, 0, 0, 1, 0, 1, 1] _ rfl) (fun x K => by kernel_rfl)

def z60 (N : Nat) (s : (List UInt8)) (i : Int) (k0 : Bool -> Option Bool) (k1 : Option Bool) : Option Bool :=
 z3n N s i
 (fun small => z3m N s i small
 (fun other => z5z N s i small other
 (fun x55 => cond x55
 (k0 false)
 (k1))))

def zav (N : Nat) (x : z29 [(0, .v .str), (2, .v (.int .i64))]) (K : Ex -> List A -> Option Bool) : Option Bool :=
 z60 N x.1 x.2.1 (fun a0 => (K .ret (mkS [(2, .v .bool)] 53 (a0, ())))) (K .normal (mkS [(0, .v .str), (2, .v (.int .i64))] 52 (x.1, x.2.1, ())))

def zao (N : Nat) : Hd Bool := fun st K => (unS [(0, .v .str), (2, .v (.int .i64))] 52 (restr [0, 3] 0 st)).bind fun x => zav N x K

def zk9 (N : Nat) : Tab Bool := [([0, 0, 0, 1, 0, 0, 1, 0, 1, 1], zan N), ([0, 1, 0, 0, 1, 0, 0, 1, 0, 1, 1], zam N), ([0, 1, 1, 0, 0, 1, 0, 0, 1, 0, 1, 1], zal N)]

theorem zii {N : Nat} {c : Ctx} (hb : Base Go.Proofs.Try.prog (z1e N) c) : z11 Go.Proofs.Try.prog c (zj zi [0, 1, 0, 0, 1, 0, 1, 1]) (zao N) :=
  z1a (s := [(0, .v .str), (2, .v (.int .i64))]) (m := 52) (g := zav N) [0, 3] (zd hb N (zk9 N) z1m zi (TabOk.cons (zih hb) (TabOk.cons (zig hb) (TabOk.cons (zif hb) TabOk.nil))) [0, 1, 0, 0, 1, 0, 1, 1] _ rfl) (fun x K => by kernel_rfl)

def z5y (N : Nat) (s : (List UInt8)) (i : Int) (rec : Int -> Option Bool) (k0 : Bool -> Option Bool) (k1 : Option Bool) : Option Bool :=
 cond (decide (i < (((List.length s) : Nat) : Int)))
 (z60 N s i
 (fun x2 => k0 x2)
 (rec (Go.IntKind.wrap Go.IntKind.i64 (i + (1 : Int)))))
 (k1)

def zak (N : Nat) (s : (List UInt8)) (i : Int) (k0 : Bool -> Option Bool) (k1 : Option Bool) : Option Bool :=
 iter (fun (v : Int) r => z5y N s v (fun i => (r i)) k0 k1) N i

def zaw (N : Nat) (i : (List UInt8)) (v : Int) (r : Int -> Option Bool) (K : Ex -> List A -> Option Bool) : Option Bool :=
 z5y N i v (fun i => (r i)) (fun a0 => (K .ret (mkS [(2, .v .bool)] 53 (a0, ())))) (K (.exit 0) (mkS [] 56 ()))

def zap (N : Nat) : Hd Bool := fun st K => (unS [(0, .v .str), (2, .v (.int .i64))] 52 (restr [3, 0] 0 st)).bind fun x => iter (fun v r => zaw N ((fun x => x.1) x) v r K) N ((fun x => x.2.1) x)

def zka (N : Nat) : Tab Bool := [([0, 1, 0, 0, 1, 0, 1, 1], zao N)]

theorem zij {N : Nat} {c : Ctx} (hb : Base Go.Proofs.Try.prog (z1e N) c) : z11 Go.Proofs.Try.prog c (zj zi [0, 1, 0, 1, 1]) (zap N) :=
  z3p (s := [(0, .v .str), (2, .v (.int .i64))]) (m := 52) (zaw N) [3, 0] N (fun x => x.1) (fun x => x.2.1) (fun i v => (i, v, ())) (fun _ => rfl) (zd hb N (zka N) z1m zi (TabOk.cons (zii hb) TabOk.nil) [0, 0, 1, 0, 1, 1] _ rfl) (fun i v r K => by kernel_rfl)

def z2v (N : Nat) (s : (List UInt8)) : Option Bool :=
 z62 N s
 (fun x2 => some x2)
 (zak N s (0 : Int)
 (fun x21 => some x21)
 (some true))

def zbs (N : Nat) : Tab Bool := [([0, 1], zar N), ([0, 1, 0, 1, 1], zap N)]

theorem zge (N : Nat) (x : z29 [(0, .v .str)]) : z9s (z1e N) N (zbs N) z1m Go.Proofs.Try.f26 (mkS [(0, .v .str)] 0 x) (z49 (.v .bool) 1) = z2v N x.1 := by kernel_rfl

def z5g (N : Nat) : List A -> Res := z1x [(0, .v .str)] (fun x => z2v N x.1) (z4j (.v .bool) 1)

theorem zaz (N : Nat) : Contract Go.Proofs.Try.prog zh 26 (z5g N) :=
  Contract.of (E := z1e N) (H := zbs N) (L := z1m) (N := N) (body := zi) (K := (z49 (.v .bool) 1)) (zim N) Go.Proofs.Try.func26 (by kernel_rfl) (by decide) (fun _ hb => (TabOk.cons (zil hb) (TabOk.cons (zij hb) TabOk.nil))) (fun x y h => by rw [zge]; exact h) (z1n (s := (.v .bool)) (m := 1))

def z1d : Code := (Go.Proofs.Try.f46.body).getD .skip

def z2e : List (List Nat × List Nat) := [([0], [0, 1]), ([0, 0, 1], [5, 0, 1]), ([0, 1, 0, 1], [5, 0, 1]), ([0, 0, 0, 0, 1, 0, 1], [15, 0, 5, 1]), ([1, 0, 0, 0, 1, 0, 1], [0, 5, 1]), ([1, 1, 0, 0, 0, 1, 0, 1], [0, 1]), ([0, 0, 0, 0, 1, 0, 0, 1, 0, 1], [24, 0, 5, 1]), ([1, 0, 0, 0, 1, 0, 0, 1, 0, 1], [0, 5, 1]), ([0, 0, 1, 0, 0, 0, 1, 0, 0, 1, 0, 1], [4]), ([1, 0, 1, 0, 0, 0, 1, 0, 0, 1, 0, 1], [4]), ([0, 1, 0, 0, 1, 0, 0, 1, 0, 1], [31, 5, 0, 1]), ([1, 1, 0, 0, 1, 0, 0, 1, 0, 1], [5, 0, 1]), ([0, 0, 1, 1, 0, 0, 1, 0, 0, 1, 0, 1], [4]), ([1, 0, 1, 1, 0, 0, 1, 0, 0, 1, 0, 1], [4]), ([0, 1, 0, 0, 1, 0, 1], [5, 0, 1]), ([1, 1, 0, 0, 1, 0, 1], [5, 0, 1]), ([1, 0, 1], [0, 1]), ([0, 0, 1, 1], [36, 0, 1]), ([1, 0, 1, 1], [0, 1]), ([0, 0, 1, 0, 1, 1], [4]), ([1, 0, 1, 0, 1, 1], [4]), ([0, 0, 1, 1, 1], [41]), ([1, 0, 1, 1, 1], []), ([0, 0, 1, 0, 1, 1, 1], [4]), ([1, 0, 1, 0, 1, 1, 1], [4]), ([0, 1, 1, 1, 1], [4]), ([1, 1, 1, 1, 1], [4])]

def z1y (N : Nat) : Env := z30 tys zh [] [] [] [] false [] []

theorem ze3 (N : Nat) : EnvOk Go.Proofs.Try.prog (z1y N) := zz mixed z1w (FnsOk.nil) (ItsOk.nil)

def z43 (N : Nat) (a : (List UInt8)) (b : (List UInt8)) (i : Int) (k0 : Option Int) (k1 : Option Int) : Option Int :=
 cond (decide (i < (((List.length a) : Nat) : Int)))
 (cond (decide (i < (((List.length b) : Nat) : Int)))
 (k0)
 (k1))
 (k1)

def z7c (N : Nat) (x : z29 [(0, .v .str), (0, .v .str), (3, .v (.int .i64))]) (K : Ex -> List A -> Option Int) : Option Int :=
 z43 N x.1 x.2.1 x.2.2.1 (K .normal (mkS [(0, .v .str), (0, .v .str), (3, .v (.int .i64))] 36 (x.1, x.2.1, x.2.2.1, ()))) (K (.exit 0) (mkS [(0, .v .str), (0, .v .str)] 40 (x.1, x.2.1, ())))

def z79 (N : Nat) : Hd Int := fun st K => (unS [(0, .v .str), (0, .v .str), (3, .v (.int .i64))] 36 (restr [5, 0, 1] 0 st)).bind fun x => z7c N x K

def zf9 (N : Nat) : Tab Int := []

theorem ze0 {N : Nat} {c : Ctx} (hb : Base Go.Proofs.Try.prog (z1y N) c) : z11 Go.Proofs.Try.prog c (zj z1d [0, 0, 0, 1, 0, 1]) (z79 N) :=
  z1a (s := [(0, .v .str), (0, .v .str), (3, .v (.int .i64))]) (m := 36) (g := z7c N) [5, 0, 1] (zd hb N (zf9 N) z2e z1d TabOk.nil [0, 0, 0, 1, 0, 1] _ rfl) (fun x K => by kernel_rfl)

def z42 (N : Nat) (a : (List UInt8)) (b : (List UInt8)) (i : Int) (rec : Int -> Option Int) (k0 : Int -> Option Int) (k1 : Option Int) : Option Int :=
 z43 N a b i
 (cond (Go.Lift.inR i (List.length a))
 (cond (Go.Lift.inR i (List.length b))
 (cond (decide ((((UInt8.toNat (List.getD a (Int.toNat i) (0 : UInt8))) : Nat) : Int) < (((UInt8.toNat (List.getD b (Int.toNat i) (0 : UInt8))) : Nat) : Int)))
 (k0 (-(1 : Int)))
 (cond (Go.Lift.inR i (List.length a))
 (cond (Go.Lift.inR i (List.length b))
 (cond (decide ((((UInt8.toNat (List.getD b (Int.toNat i) (0 : UInt8))) : Nat) : Int) < (((UInt8.toNat (List.getD a (Int.toNat i) (0 : UInt8))) : Nat) : Int)))
 (k0 (1 : Int))
 (rec (Go.IntKind.wrap Go.IntKind.i64 (i + (1 : Int)))))
 (none))
 (none)))
 (none))
 (none))
 (k1)

def z78 (N : Nat) (a : (List UInt8)) (b : (List UInt8)) (i : Int) (k0 : Int -> Option Int) (k1 : Option Int) : Option Int :=
 iter (fun (v : Int) r => z42 N a b v (fun i => (r i)) k0 k1) N i

def z7d (N : Nat) (i : ((List UInt8) × (List UInt8))) (v : Int) (r : Int -> Option Int) (K : Ex -> List A -> Option Int) : Option Int :=
 z42 N i.1 i.2 v (fun i => (r i)) (fun a0 => (K .ret (mkS [(4, .v (.int .i64))] 37 (a0, ())))) (K (.exit 0) (mkS [(0, .v .str), (0, .v .str)] 40 (i.1, i.2, ())))

def z7a (N : Nat) : Hd Int := fun st K => (unS [(0, .v .str), (0, .v .str), (3, .v (.int .i64))] 36 (restr [5, 0, 1] 0 st)).bind fun x => iter (fun v r => z7d N ((fun x => (x.1, x.2.1)) x) v r K) N ((fun x => x.2.2.1) x)

def zfa (N : Nat) : Tab Int := [([0, 0, 0, 1, 0, 1], z79 N)]

theorem ze1 {N : Nat} {c : Ctx} (hb : Base Go.Proofs.Try.prog (z1y N) c) : z11 Go.Proofs.Try.prog c (zj z1d [0, 1, 0, 1]) (z7a N) :=
  z3p (s := [(0, .v .str), (0, .v .str), (3, .v (.int .i64))]) (m := 36) (z7d N) [5, 0, 1] N (fun x => (x.1, x.2.1)) (fun x => x.2.2.1) (fun i v => (i.1, i.2, v, ())) (fun _ => rfl) (zd hb N (zfa N) z2e z1d (TabOk.cons (ze0 hb) TabOk.nil) [0, 0, 1, 0, 1] _ rfl) (fun i v r K => by kernel_rfl)

def z44 (N : Nat) (a : (List UInt8)) (b : (List UInt8)) (k0 : Int -> Option Int) (k1 : Option Int) : Option Int :=
 z78 N a b (0 : Int)
 (fun x4 => k0 x4)
 (k1)

def z7e (N : Nat) (x : z29 [(0, .v .str), (0, .v .str)]) (K : Ex -> List A -> Option Int) : Option Int :=
 z44 N x.1 x.2.1 (fun a0 => (K .ret (mkS [(4, .v (.int .i64))] 37 (a0, ())))) (K .normal (mkS [(0, .v .str), (0, .v .str)] 40 (x.1, x.2.1, ())))

def z7b (N : Nat) : Hd Int := fun st K => (unS [(0, .v .str), (0, .v .str)] 40 (restr [0, 1] 0 st)).bind fun x => z7e N x K

def zfb (N : Nat) : Tab Int := [([0, 1, 0, 1], z7a N)]

theorem ze2 {N : Nat} {c : Ctx} (hb : Base Go.Proofs.Try.prog (z1y N) c) : z11 Go.Proofs.Try.prog c (zj z1d [0, 1]) (z7b N) :=
  z1a (s := [(0, .v .str), (0, .v .str)]) (m := 40) (g := z7e N) [0, 1] (zd hb N (zfb N) z2e z1d (TabOk.cons (ze1 hb) TabOk.nil) [0, 1] _ rfl) (fun x K => by kernel_rfl)

def z2q (N : Nat) (a : (List UInt8)) (b : (List UInt8)) : Option Int :=
 z44 N a b
 (fun x4 => some x4)
 (cond (decide ((((List.length a) : Nat) : Int) < (((List.length b) : Nat) : Int)))
 (some (-(1 : Int)))
 (cond (decide ((((List.length b) : Nat) : Int) < (((List.length a) : Nat) : Int)))
 (some (1 : Int))
 (some (0 : Int))))

def z7y (N : Nat) : Tab Int := [([0, 1], z7b N)]

theorem zd3 (N : Nat) (x : z29 [(0, .v .str), (0, .v .str)]) : z9s (z1y N) N (z7y N) z2e Go.Proofs.Try.f46 (mkS [(0, .v .str), (0, .v .str)] 0 x) (z49 (.v (.int .i64)) 2) = z2q N x.1 x.2.1 := by kernel_rfl

def z6w (N : Nat) : List A -> Res := z1x [(0, .v .str), (0, .v .str)] (fun x => z2q N x.1 x.2.1) (z4j (.v (.int .i64)) 2)

theorem zfc (N : Nat) : Contract Go.Proofs.Try.prog zh 46 (z6w N) :=
  Contract.of (E := z1y N) (H := z7y N) (L := z2e) (N := N) (body := z1d) (K := (z49 (.v (.int .i64)) 2)) (ze3 N) Go.Proofs.Try.func46 (by kernel_rfl) (by decide) (fun _ hb => (TabOk.cons (ze2 hb) TabOk.nil)) (fun x y h => by rw [zd3]; exact h) (z1n (s := (.v (.int .i64))) (m := 2))

def z7 : Code := (Go.Proofs.Try.f24.body).getD .skip

def z14 : List (List Nat × List Nat) := [([0], [1]), ([0, 0, 1], [15, 1]), ([1, 0, 1], [1]), ([0, 0, 1, 0, 1], [2]), ([1, 0, 1, 0, 1], [2]), ([0, 0, 1, 1], [3, 1]), ([0, 1, 0, 1, 1], [3, 1]), ([0, 0, 0, 0, 1, 0, 1, 1], [20, 1, 3]), ([1, 0, 0, 0, 1, 0, 1, 1], [1, 3]), ([1, 1, 0, 0, 0, 1, 0, 1, 1], []), ([0, 0, 0, 1, 0, 0, 1, 0, 1, 1], [4, 3, 1]), ([0, 0, 1, 0, 0, 1, 0, 0, 1, 0, 1, 1], [66, 4, 3, 1]), ([1, 0, 1, 0, 0, 1, 0, 0, 1, 0, 1, 1], [4, 3, 1]), ([0, 0, 1, 0, 1, 0, 0, 1, 0, 0, 1, 0, 1, 1], [2]), ([1, 0, 1, 0, 1, 0, 0, 1, 0, 0, 1, 0, 1, 1], [2]), ([0, 1, 1, 0, 0, 1, 0, 0, 1, 0, 1, 1], [5, 4, 3, 1]), ([0, 1, 1, 1, 0, 0, 1, 0, 0, 1, 0, 1, 1], [5, 4, 3, 1]), ([0, 0, 0, 0, 1, 1, 1, 0, 0, 1, 0, 0, 1, 0, 1, 1], [71, 4, 5, 3, 1]), ([1, 0, 0, 0, 1, 1, 1, 0, 0, 1, 0, 0, 1, 0, 1, 1], [4, 5, 3, 1]), ([1, 1, 0, 0, 0, 1, 1, 1, 0, 0, 1, 0, 0, 1, 0, 1, 1], [3, 1]), ([0, 0, 0, 1, 0, 0, 1, 1, 1, 0, 0, 1, 0, 0, 1, 0, 1, 1], [121, 5, 4, 3, 1]), ([1, 0, 0, 1, 0, 0, 1, 1, 1, 0, 0, 1, 0, 0, 1, 0, 1, 1], [5, 4, 3, 1]), ([0, 0, 1, 0, 0, 1, 0, 0, 1, 1, 1, 0, 0, 1, 0, 0, 1, 0, 1, 1], [2]), ([1, 0, 1, 0, 0, 1, 0, 0, 1, 1, 1, 0, 0, 1, 0, 0, 1, 0, 1, 1], [2]), ([0, 1, 0, 0, 1, 1, 1, 0, 0, 1, 0, 0, 1, 0, 1, 1], [5, 4, 3, 1]), ([1, 1, 0, 0, 1, 1, 1, 0, 0, 1, 0, 0, 1, 0, 1, 1], [5, 4, 3, 1]), ([1, 1, 1, 0, 0, 1, 0, 0, 1, 0, 1, 1], [3, 1]), ([0, 1, 0, 0, 1, 0, 1, 1], [3, 1]), ([1, 1, 0, 0, 1, 0, 1, 1], [3, 1]), ([1, 0, 1, 1], []), ([0, 1, 1, 1], [2]), ([1, 1, 1, 1], [2])]

def z10 (N : Nat) : Env := z30 tys zh [(46, z6w N), (26, z5g N), (45, zbq N)] [] [] [] false [] []

theorem zg8 (N : Nat) : EnvOk Go.Proofs.Try.prog (z10 N) := zz mixed z1w (FnsOk.cons (zfc N) (FnsOk.cons (zaz N) (FnsOk.cons (zmu N) (FnsOk.nil)))) (ItsOk.nil)

def z5a (N : Nat) (s : ((List ((List UInt8) × (Int × (Int × ((List (Int × ((List UInt8) × Unit))) × Unit))))) × (Int × Unit))) (k0 : Bool -> Option Bool) : Option Bool :=
 cond (decide ((16 : Int) < (((List.length s.1) : Nat) : Int)))
 (k0 true)
 ((z2z N s.2.1 (0 : Int)).bind fun y =>
 k0 (!y))

def z95 (N : Nat) (x : z29 [(1, .box (.pair (.sl (.pair .str (.pair (.int .i64) (.pair (.int .i64) (.pair (.sl (.pair (.int .i64) (.pair .str .unit))) .unit))))) (.pair (.int .i64) .unit)))]) (K : Ex -> List A -> Option Bool) : Option Bool :=
 z5a N x.1 (fun a1 => (K .normal (mkS [(1, .box (.pair (.sl (.pair .str (.pair (.int .i64) (.pair (.int .i64) (.pair (.sl (.pair (.int .i64) (.pair .str .unit))) .unit))))) (.pair (.int .i64) .unit))), (13, .v .bool)] 106 (x.1, a1, ()))))

def z8w (N : Nat) : Hd Bool := fun st K => (unS [(1, .box (.pair (.sl (.pair .str (.pair (.int .i64) (.pair (.int .i64) (.pair (.sl (.pair (.int .i64) (.pair .str .unit))) .unit))))) (.pair (.int .i64) .unit)))] 120 (restr [1] 0 st)).bind fun x => z95 N x K

def zi5 (N : Nat) : Tab Bool := []

theorem zg6 {N : Nat} {c : Ctx} (hb : Base Go.Proofs.Try.prog (z10 N) c) : z11 Go.Proofs.Try.prog c (zj z7 [0, 0, 1]) (z8w N) :=
  z1a (s := [(1, .box (.pair (.sl (.pair .str (.pair (.int .i64) (.pair (.int .i64) (.pair (.sl (.pair (.int .i64) (.pair .str .unit))) .unit))))) (.pair (.int .i64) .unit)))]) (m := 120) (g := z95 N) [1] (zd hb N (zi5 N) z14 z7 TabOk.nil [0, 0, 1] _ rfl) (fun x K => by kernel_rfl)

def z5b (N : Nat) (s : ((List ((List UInt8) × (Int × (Int × ((List (Int × ((List UInt8) × Unit))) × Unit))))) × (Int × Unit))) (k0 : Bool -> Option Bool) (k1 : Option Bool) : Option Bool :=
 z5a N s
 (fun x15 => cond x15
 (k0 false)
 (k1))

def z96 (N : Nat) (x : z29 [(1, .box (.pair (.sl (.pair .str (.pair (.int .i64) (.pair (.int .i64) (.pair (.sl (.pair (.int .i64) (.pair .str .unit))) .unit))))) (.pair (.int .i64) .unit)))]) (K : Ex -> List A -> Option Bool) : Option Bool :=
 z5b N x.1 (fun a0 => (K .ret (mkS [(2, .v .bool)] 119 (a0, ())))) (K .normal (mkS [(1, .box (.pair (.sl (.pair .str (.pair (.int .i64) (.pair (.int .i64) (.pair (.sl (.pair (.int .i64) (.pair .str .unit))) .unit))))) (.pair (.int .i64) .unit)))] 120 (x.1, ())))

def z8x (N : Nat) : Hd Bool := fun st K => (unS [(1, .box (.pair (.sl (.pair .str (.pair (.int .i64) (.pair (.int .i64) (.pair (.sl (.pair (.int .i64) (.pair .str .unit))) .unit))))) (.pair (.int .i64) .unit)))] 120 (restr [1] 0 st)).bind fun x => z96 N x K

def zi6 (N : Nat) : Tab Bool := [([0, 0, 1], z8w N)]

theorem zg7 {N : Nat} {c : Ctx} (hb : Base Go.Proofs.Try.prog (z10 N) c) : z11 Go.Proofs.Try.prog c (zj z7 [0, 1]) (z8x N) :=
  z1a (s := [(1, .box (.pair (.sl (.pair .str (.pair (.int .i64) (.pair (.int .i64) (.pair (.sl (.pair (.int .i64) (.pair .str .unit))) .unit))))) (.pair (.int .i64) .unit)))]) (m := 120) (g := z96 N) [1] (zd hb N (zi6 N) z14 z7 (TabOk.cons (zg6 hb) TabOk.nil) [0, 1] _ rfl) (fun x K => by kernel_rfl)

def z33 (N : Nat) (s : ((List ((List UInt8) × (Int × (Int × ((List (Int × ((List UInt8) × Unit))) × Unit))))) × (Int × Unit))) (i : Int) (t : ((List UInt8) × (Int × (Int × ((List (Int × ((List UInt8) × Unit))) × Unit))))) (k0 : Bool -> Option Bool) : Option Bool :=
 (z2v N t.1).bind fun y =>
 cond (!y)
 (k0 true)
 ((z2z N t.2.1 (0 : Int)).bind fun y1 =>
 cond (!y1)
 (k0 true)
 ((z2z N t.2.2.1 (1 : Int)).bind fun y2 =>
 cond (!y2)
 (k0 true)
 (cond (decide ((8 : Int) < (((List.length t.2.2.2.1) : Nat) : Int)))
 (k0 true)
 (cond (decide ((0 : Int) < i))
 (cond (Go.Lift.inR (Go.IntKind.wrap Go.IntKind.i64 (i - (1 : Int))) (List.length s.1))
 ((z2q N (List.getD s.1 (Int.toNat (Go.IntKind.wrap Go.IntKind.i64 (i - (1 : Int)))) (([] : List UInt8), ((0 : Int), ((0 : Int), (([] : List (Int × ((List UInt8) × Unit))), ()))))).1 t.1).bind fun y3 =>
 k0 (decide ((0 : Int) <= y3)))
 (none))
 (k0 false)))))

def z91 (N : Nat) (x : z29 [(1, .box (.pair (.sl (.pair .str (.pair (.int .i64) (.pair (.int .i64) (.pair (.sl (.pair (.int .i64) (.pair .str .unit))) .unit))))) (.pair (.int .i64) .unit))), (1, .v (.int .i64)), (0, .box (.pair .str (.pair (.int .i64) (.pair (.int .i64) (.pair (.sl (.pair (.int .i64) (.pair .str .unit))) .unit)))))]) (K : Ex -> List A -> Option Bool) : Option Bool :=
 z33 N x.1 x.2.1 x.2.2.1 (fun a3 => (K .normal (mkS [(1, .box (.pair (.sl (.pair .str (.pair (.int .i64) (.pair (.int .i64) (.pair (.sl (.pair (.int .i64) (.pair .str .unit))) .unit))))) (.pair (.int .i64) .unit))), (1, .v (.int .i64)), (0, .box (.pair .str (.pair (.int .i64) (.pair (.int .i64) (.pair (.sl (.pair (.int .i64) (.pair .str .unit))) .unit))))), (61, .v .bool)] 55 (x.1, x.2.1, x.2.2.1, a3, ()))))

def z8s (N : Nat) : Hd Bool := fun st K => (unS [(1, .box (.pair (.sl (.pair .str (.pair (.int .i64) (.pair (.int .i64) (.pair (.sl (.pair (.int .i64) (.pair .str .unit))) .unit))))) (.pair (.int .i64) .unit))), (1, .v (.int .i64)), (0, .box (.pair .str (.pair (.int .i64) (.pair (.int .i64) (.pair (.sl (.pair (.int .i64) (.pair .str .unit))) .unit)))))] 117 (restr [4, 3, 1] 0 st)).bind fun x => z91 N x K

def zi1 (N : Nat) : Tab Bool := []

theorem zg2 {N : Nat} {c : Ctx} (hb : Base Go.Proofs.Try.prog (z10 N) c) : z11 Go.Proofs.Try.prog c (zj z7 [0, 0, 1, 0, 0, 1, 0, 0, 1, 0, 1, 1]) (z8s N) :=
  z1a (s := [(1, .box (.pair (.sl (.pair .str (.pair (.int .i64) (.pair (.int .i64) (.pair (.sl (.pair (.int .i64) (.pair .str .unit))) .unit))))) (.pair (.int .i64) .unit))), (1, .v (.int .i64)), (0, .box (.pair .str (.pair (.int .i64) (.pair (.int .i64) (.pair (.sl (.pair (.int .i64) (.pair .str .unit))) .unit)))))]) (m := 117) (g := z91 N) [4, 3, 1] (zd hb N (zi1 N) z14 z7 TabOk.nil [0, 0, 1, 0, 0, 1, 0, 0, 1, 0, 1, 1] _ rfl) (fun x K => by kernel_rfl)

def z57 (N : Nat) (s : ((List ((List UInt8) × (Int × (Int × ((List (Int × ((List UInt8) × Unit))) × Unit))))) × (Int × Unit))) (i : Int) (t : ((List UInt8) × (Int × (Int × ((List (Int × ((List UInt8) × Unit))) × Unit))))) (k0 : Bool -> Option Bool) (k1 : Option Bool) : Option Bool :=
 z33 N s i t
 (fun x66 => cond x66
 (k0 false)
 (k1))

def z92 (N : Nat) (x : z29 [(1, .box (.pair (.sl (.pair .str (.pair (.int .i64) (.pair (.int .i64) (.pair (.sl (.pair (.int .i64) (.pair .str .unit))) .unit))))) (.pair (.int .i64) .unit))), (1, .v (.int .i64)), (0, .box (.pair .str (.pair (.int .i64) (.pair (.int .i64) (.pair (.sl (.pair (.int .i64) (.pair .str .unit))) .unit)))))]) (K : Ex -> List A -> Option Bool) : Option Bool :=
 z57 N x.1 x.2.1 x.2.2.1 (fun a0 => (K .ret (mkS [(2, .v .bool)] 119 (a0, ())))) (K .normal (mkS [(1, .box (.pair (.sl (.pair .str (.pair (.int .i64) (.pair (.int .i64) (.pair (.sl (.pair (.int .i64) (.pair .str .unit))) .unit))))) (.pair (.int .i64) .unit))), (1, .v (.int .i64)), (0, .box (.pair .str (.pair (.int .i64) (.pair (.int .i64) (.pair (.sl (.pair (.int .i64) (.pair .str .unit))) .unit)))))] 117 (x.1, x.2.1, x.2.2.1, ())))

def z8t (N : Nat) : Hd Bool := fun st K => (unS [(1, .box (.pair (.sl (.pair .str (.pair (.int .i64) (.pair (.int .i64) (.pair (.sl (.pair (.int .i64) (.pair .str .unit))) .unit))))) (.pair (.int .i64) .unit))), (1, .v (.int .i64)), (0, .box (.pair .str (.pair (.int .i64) (.pair (.int .i64) (.pair (.sl (.pair (.int .i64) (.pair .str .unit))) .unit)))))] 117 (restr [4, 3, 1] 0 st)).bind fun x => z92 N x K

def zi2 (N : Nat) : Tab Bool := [([0, 0, 1, 0, 0, 1, 0, 0, 1, 0, 1, 1], z8s N)]

theorem zg3 {N : Nat} {c : Ctx} (hb : Base Go.Proofs.Try.prog (z10 N) c) : z11 Go.Proofs.Try.prog c (zj z7 [0, 1, 0, 0, 1, 0, 0, 1, 0, 1, 1]) (z8t N) :=
  z1a (s := [(1, .box (.pair (.sl (.pair .str (.pair (.int .i64) (.pair (.int .i64) (.pair (.sl (.pair (.int .i64) (.pair .str .unit))) .unit))))) (.pair (.int .i64) .unit))), (1, .v (.int .i64)), (0, .box (.pair .str (.pair (.int .i64) (.pair (.int .i64) (.pair (.sl (.pair (.int .i64) (.pair .str .unit))) .unit)))))]) (m := 117) (g := z92 N) [4, 3, 1] (zd hb N (zi2 N) z14 z7 (TabOk.cons (zg2 hb) TabOk.nil) [0, 1, 0, 0, 1, 0, 0, 1, 0, 1, 1] _ rfl) (fun x K => by kernel_rfl)

def z54 (N : Nat) (s : ((List ((List UInt8) × (Int × (Int × ((List (Int × ((List UInt8) × Unit))) × Unit))))) × (Int × Unit))) (i : Int) (t : ((List UInt8) × (Int × (Int × ((List (Int × ((List UInt8) × Unit))) × Unit))))) (k : Int) (k0 : Bool -> Option Bool) : Option Bool :=
 cond (Go.Lift.inR k (List.length t.2.2.2.1))
 (cond (decide ((List.getD t.2.2.2.1 (Int.toNat k) ((0 : Int), (([] : List UInt8), ()))).1 < (1 : Int)))
 (k0 true)
 (cond (Go.Lift.inR k (List.length t.2.2.2.1))
 (cond (decide (t.2.2.1 <= (List.getD t.2.2.2.1 (Int.toNat k) ((0 : Int), (([] : List UInt8), ()))).1))
 (k0 true)
 (cond (Go.Lift.inR k (List.length t.2.2.2.1))
 (cond ((((List.length (List.getD t.2.2.2.1 (Int.toNat k) ((0 : Int), (([] : List UInt8), ()))).2.1) : Nat) : Int) != (32 : Int))
 (k0 true)
 (cond (decide ((0 : Int) < k))
 (cond (Go.Lift.inR (Go.IntKind.wrap Go.IntKind.i64 (k - (1 : Int))) (List.length t.2.2.2.1))
 (cond (Go.Lift.inR k (List.length t.2.2.2.1))
 (k0 (decide ((List.getD t.2.2.2.1 (Int.toNat k) ((0 : Int), (([] : List UInt8), ()))).1 <= (List.getD t.2.2.2.1 (Int.toNat (Go.IntKind.wrap Go.IntKind.i64 (k - (1 : Int)))) ((0 : Int), (([] : List UInt8), ()))).1)))
 (none))
 (none))
 (k0 false)))
 (none)))
 (none)))
 (none)

def z8y (N : Nat) (x : z29 [(1, .box (.pair (.sl (.pair .str (.pair (.int .i64) (.pair (.int .i64) (.pair (.sl (.pair (.int .i64) (.pair .str .unit))) .unit))))) (.pair (.int .i64) .unit))), (1, .v (.int .i64)), (0, .box (.pair .str (.pair (.int .i64) (.pair (.int .i64) (.pair (.sl (.pair (.int .i64) (.pair .str .unit))) .unit))))), (0, .v (.int .i64))]) (K : Ex -> List A -> Option Bool) : Option Bool :=
 z54 N x.1 x.2.1 x.2.2.1 x.2.2.2.1 (fun a4 => (K .normal (mkS [(1, .box (.pair (.sl (.pair .str (.pair (.int .i64) (.pair (.int .i64) (.pair (.sl (.pair (.int .i64) (.pair .str .unit))) .unit))))) (.pair (.int .i64) .unit))), (1, .v (.int .i64)), (0, .box (.pair .str (.pair (.int .i64) (.pair (.int .i64) (.pair (.sl (.pair (.int .i64) (.pair .str .unit))) .unit))))), (0, .v (.int .i64)), (115, .v .bool)] 0 (x.1, x.2.1, x.2.2.1, x.2.2.2.1, a4, ()))))

def z8p (N : Nat) : Hd Bool := fun st K => (unS [(1, .box (.pair (.sl (.pair .str (.pair (.int .i64) (.pair (.int .i64) (.pair (.sl (.pair (.int .i64) (.pair .str .unit))) .unit))))) (.pair (.int .i64) .unit))), (1, .v (.int .i64)), (0, .box (.pair .str (.pair (.int .i64) (.pair (.int .i64) (.pair (.sl (.pair (.int .i64) (.pair .str .unit))) .unit))))), (0, .v (.int .i64))] 116 (restr [4, 5, 3, 1] 0 st)).bind fun x => z8y N x K

def zhy (N : Nat) : Tab Bool := []

theorem zfz {N : Nat} {c : Ctx} (hb : Base Go.Proofs.Try.prog (z10 N) c) : z11 Go.Proofs.Try.prog c (zj z7 [0, 0, 0, 1, 0, 0, 1, 1, 1, 0, 0, 1, 0, 0, 1, 0, 1, 1]) (z8p N) :=
  z1a (s := [(1, .box (.pair (.sl (.pair .str (.pair (.int .i64) (.pair (.int .i64) (.pair (.sl (.pair (.int .i64) (.pair .str .unit))) .unit))))) (.pair (.int .i64) .unit))), (1, .v (.int .i64)), (0, .box (.pair .str (.pair (.int .i64) (.pair (.int .i64) (.pair (.sl (.pair (.int .i64) (.pair .str .unit))) .unit))))), (0, .v (.int .i64))]) (m := 116) (g := z8y N) [4, 5, 3, 1] (zd hb N (zhy N) z14 z7 TabOk.nil [0, 0, 0, 1, 0, 0, 1, 1, 1, 0, 0, 1, 0, 0, 1, 0, 1, 1] _ rfl) (fun x K => by kernel_rfl)

def z55 (N : Nat) (s : ((List ((List UInt8) × (Int × (Int × ((List (Int × ((List UInt8) × Unit))) × Unit))))) × (Int × Unit))) (i : Int) (t : ((List UInt8) × (Int × (Int × ((List (Int × ((List UInt8) × Unit))) × Unit))))) (k : Int) (k0 : Bool -> Option Bool) (k1 : Option Bool) : Option Bool :=
 z54 N s i t k
 (fun x121 => cond x121
 (k0 false)
 (k1))

def z8z (N : Nat) (x : z29 [(1, .box (.pair (.sl (.pair .str (.pair (.int .i64) (.pair (.int .i64) (.pair (.sl (.pair (.int .i64) (.pair .str .unit))) .unit))))) (.pair (.int .i64) .unit))), (1, .v (.int .i64)), (0, .box (.pair .str (.pair (.int .i64) (.pair (.int .i64) (.pair (.sl (.pair (.int .i64) (.pair .str .unit))) .unit))))), (0, .v (.int .i64))]) (K : Ex -> List A -> Option Bool) : Option Bool :=
 z55 N x.1 x.2.1 x.2.2.1 x.2.2.2.1 (fun a0 => (K .ret (mkS [(2, .v .bool)] 119 (a0, ())))) (K .normal (mkS [(1, .box (.pair (.sl (.pair .str (.pair (.int .i64) (.pair (.int .i64) (.pair (.sl (.pair (.int .i64) (.pair .str .unit))) .unit))))) (.pair (.int .i64) .unit))), (1, .v (.int .i64)), (0, .box (.pair .str (.pair (.int .i64) (.pair (.int .i64) (.pair (.sl (.pair (.int .i64) (.pair .str .unit))) .unit))))), (0, .v (.int .i64))] 116 (x.1, x.2.1, x.2.2.1, x.2.2.2.1, ())))

def z8q (N : Nat) : Hd Bool := fun st K => (unS [(1, .box (.pair (.sl (.pair .str (.pair (.int .i64) (.pair (.int .i64) (.pair (.sl (.pair (.int .i64) (.pair .str .unit))) .unit))))) (.pair (.int .i64) .unit))), (1, .v (.int .i64)), (0, .box (.pair .str (.pair (.int .i64) (.pair (.int .i64) (.pair (.sl (.pair (.int .i64) (.pair .str .unit))) .unit))))), (0, .v (.int .i64))] 116 (restr [4, 5, 3, 1] 0 st)).bind fun x => z8z N x K

def zhz (N : Nat) : Tab Bool := [([0, 0, 0, 1, 0, 0, 1, 1, 1, 0, 0, 1, 0, 0, 1, 0, 1, 1], z8p N)]

theorem zg0 {N : Nat} {c : Ctx} (hb : Base Go.Proofs.Try.prog (z10 N) c) : z11 Go.Proofs.Try.prog c (zj z7 [0, 1, 0, 0, 1, 1, 1, 0, 0, 1, 0, 0, 1, 0, 1, 1]) (z8q N) :=
  z1a (s := [(1, .box (.pair (.sl (.pair .str (.pair (.int .i64) (.pair (.int .i64) (.pair (.sl (.pair (.int .i64) (.pair .str .unit))) .unit))))) (.pair (.int .i64) .unit))), (1, .v (.int .i64)), (0, .box (.pair .str (.pair (.int .i64) (.pair (.int .i64) (.pair (.sl (.pair (.int .i64) (.pair .str .unit))) .unit))))), (0, .v (.int .i64))]) (m := 116) (g := z8z N) [4, 5, 3, 1] (zd hb N (zhz N) z14 z7 (TabOk.cons (zfz hb) TabOk.nil) [0, 1, 0, 0, 1, 1, 1, 0, 0, 1, 0, 0, 1, 0, 1, 1] _ rfl) (fun x K => by kernel_rfl)

def z52 (N : Nat) (s : ((List ((List UInt8) × (Int × (Int × ((List (Int × ((List UInt8) × Unit))) × Unit))))) × (Int × Unit))) (i : Int) (t : ((List UInt8) × (Int × (Int × ((List (Int × ((List UInt8) × Unit))) × Unit))))) (k : Int) (rec : Int -> Option Bool) (k0 : Bool -> Option Bool) (k1 : Option Bool) : Option Bool :=
 cond (decide (k < (((List.length t.2.2.2.1) : Nat) : Int)))
 (z55 N s i t k
 (fun x2 => k0 x2)
 (rec (Go.IntKind.wrap Go.IntKind.i64 (k + (1 : Int)))))
 (k1)

def z56 (N : Nat) (s : ((List ((List UInt8) × (Int × (Int × ((List (Int × ((List UInt8) × Unit))) × Unit))))) × (Int × Unit))) (i : Int) (t : ((List UInt8) × (Int × (Int × ((List (Int × ((List UInt8) × Unit))) × Unit))))) (k : Int) (k0 : Bool -> Option Bool) (k1 : Option Bool) : Option Bool :=
 iter (fun (v : Int) r => z52 N s i t v (fun k => (r k)) k0 k1) N k

def z90 (N : Nat) (i : (((List ((List UInt8) × (Int × (Int × ((List (Int × ((List UInt8) × Unit))) × Unit))))) × (Int × Unit)) × Int × ((List UInt8) × (Int × (Int × ((List (Int × ((List UInt8) × Unit))) × Unit)))))) (v : Int) (r : Int -> Option Bool) (K : Ex -> List A -> Option Bool) : Option Bool :=
 z52 N i.1 i.2.1 i.2.2 v (fun k => (r k)) (fun a0 => (K .ret (mkS [(2, .v .bool)] 119 (a0, ())))) (K (.exit 2) (mkS [(1, .box (.pair (.sl (.pair .str (.pair (.int .i64) (.pair (.int .i64) (.pair (.sl (.pair (.int .i64) (.pair .str .unit))) .unit))))) (.pair (.int .i64) .unit))), (1, .v (.int .i64))] 118 (i.1, i.2.1, ())))

def z8r (N : Nat) : Hd Bool := fun st K => (unS [(1, .box (.pair (.sl (.pair .str (.pair (.int .i64) (.pair (.int .i64) (.pair (.sl (.pair (.int .i64) (.pair .str .unit))) .unit))))) (.pair (.int .i64) .unit))), (1, .v (.int .i64)), (0, .box (.pair .str (.pair (.int .i64) (.pair (.int .i64) (.pair (.sl (.pair (.int .i64) (.pair .str .unit))) .unit))))), (0, .v (.int .i64))] 116 (restr [5, 4, 3, 1] 0 st)).bind fun x => iter (fun v r => z90 N ((fun x => (x.1, x.2.1, x.2.2.1)) x) v r K) N ((fun x => x.2.2.2.1) x)

def zi0 (N : Nat) : Tab Bool := [([0, 1, 0, 0, 1, 1, 1, 0, 0, 1, 0, 0, 1, 0, 1, 1], z8q N)]

theorem zg1 {N : Nat} {c : Ctx} (hb : Base Go.Proofs.Try.prog (z10 N) c) : z11 Go.Proofs.Try.prog c (zj z7 [0, 1, 1, 1, 0, 0, 1, 0, 0, 1, 0, 1, 1]) (z8r N) :=
  z3p (s := [(1, .box (.pair (.sl (.pair .str (.pair (.int .i64) (.pair (.int .i64) (.pair (.sl (.pair (.int .i64) (.pair .str .unit))) .unit))))) (.pair (.int .i64) .unit))), (1, .v (.int .i64)), (0, .box (.pair .str (.pair (.int .i64) (.pair (.int .i64) (.pair (.sl (.pair (.int .i64) (.pair .str .unit))) .unit))))), (0, .v (.int .i64))]) (m := 116) (z90 N) [5, 4, 3, 1] N (fun x => (x.1, x.2.1, x.2.2.1)) (fun x => x.2.2.2.1) (fun i v => (i.1, i.2.1, i.2.2, v, ())) (fun _ => rfl) (zd hb N (zi0 N) z14 z7 (TabOk.cons (zg0 hb) TabOk.nil) [0, 0, 1, 1, 1, 0, 0, 1, 0, 0, 1, 0, 1, 1] _ rfl) (fun i v r K => by kernel_rfl)

def z58 (N : Nat) (s : ((List ((List UInt8) × (Int × (Int × ((List (Int × ((List UInt8) × Unit))) × Unit))))) × (Int × Unit))) (i : Int) (k0 : Bool -> Option Bool) (k1 : Option Bool) : Option Bool :=
 cond (Go.Lift.inR i (List.length s.1))
 (z57 N s i (List.getD s.1 (Int.toNat i) (([] : List UInt8), ((0 : Int), ((0 : Int), (([] : List (Int × ((List UInt8) × Unit))), ())))))
 (fun x2 => k0 x2)
 (z56 N s i (List.getD s.1 (Int.toNat i) (([] : List UInt8), ((0 : Int), ((0 : Int), (([] : List (Int × ((List UInt8) × Unit))), ()))))) (0 : Int)
 (fun x21 => k0 x21)
 (k1)))
 (none)

def z93 (N : Nat) (x : z29 [(1, .box (.pair (.sl (.pair .str (.pair (.int .i64) (.pair (.int .i64) (.pair (.sl (.pair (.int .i64) (.pair .str .unit))) .unit))))) (.pair (.int .i64) .unit))), (1, .v (.int .i64))]) (K : Ex -> List A -> Option Bool) : Option Bool :=
 z58 N x.1 x.2.1 (fun a0 => (K .ret (mkS [(2, .v .bool)] 119 (a0, ())))) (K .normal (mkS [(1, .box (.pair (.sl (.pair .str (.pair (.int .i64) (.pair (.int .i64) (.pair (.sl (.pair (.int .i64) (.pair .str .unit))) .unit))))) (.pair (.int .i64) .unit))), (1, .v (.int .i64))] 118 (x.1, x.2.1, ())))

def z8u (N : Nat) : Hd Bool := fun st K => (unS [(1, .box (.pair (.sl (.pair .str (.pair (.int .i64) (.pair (.int .i64) (.pair (.sl (.pair (.int .i64) (.pair .str .unit))) .unit))))) (.pair (.int .i64) .unit))), (1, .v (.int .i64))] 118 (restr [1, 3] 0 st)).bind fun x => z93 N x K

def zi3 (N : Nat) : Tab Bool := [([0, 1, 0, 0, 1, 0, 0, 1, 0, 1, 1], z8t N), ([0, 1, 1, 1, 0, 0, 1, 0, 0, 1, 0, 1, 1], z8r N)]

theorem zg4 {N : Nat} {c : Ctx} (hb : Base Go.Proofs.Try.prog (z10 N) c) : z11 Go.Proofs.Try.prog c (zj z7 [0, 1, 0, 0, 1, 0, 1, 1]) (z8u N) :=
  z1a (s := [(1, .box (.pair (.sl (.pair .str (.pair (.int .i64) (.pair (.int .i64) (.pair (.sl (.pair (.int .i64) (.pair .str .unit))) .unit))))) (.pair (.int .i64) .unit))), (1, .v (.int .i64))]) (m := 118) (g := z93 N) [1, 3] (zd hb N (zi3 N) z14 z7 (TabOk.cons (zg3 hb) (TabOk.cons (zg1 hb) TabOk.nil)) [0, 1, 0, 0, 1, 0, 1, 1] _ rfl) (fun x K => by kernel_rfl)

def z53 (N : Nat) (s : ((List ((List UInt8) × (Int × (Int × ((List (Int × ((List UInt8) × Unit))) × Unit))))) × (Int × Unit))) (i : Int) (rec : Int -> Option Bool) (k0 : Bool -> Option Bool) (k1 : Option Bool) : Option Bool :=
 cond (decide (i < (((List.length s.1) : Nat) : Int)))
 (z58 N s i
 (fun x2 => k0 x2)
 (rec (Go.IntKind.wrap Go.IntKind.i64 (i + (1 : Int)))))
 (k1)

def z59 (N : Nat) (s : ((List ((List UInt8) × (Int × (Int × ((List (Int × ((List UInt8) × Unit))) × Unit))))) × (Int × Unit))) (i : Int) (k0 : Bool -> Option Bool) (k1 : Option Bool) : Option Bool :=
 iter (fun (v : Int) r => z53 N s v (fun i => (r i)) k0 k1) N i

def z94 (N : Nat) (i : ((List ((List UInt8) × (Int × (Int × ((List (Int × ((List UInt8) × Unit))) × Unit))))) × (Int × Unit))) (v : Int) (r : Int -> Option Bool) (K : Ex -> List A -> Option Bool) : Option Bool :=
 z53 N i v (fun i => (r i)) (fun a0 => (K .ret (mkS [(2, .v .bool)] 119 (a0, ())))) (K (.exit 0) (mkS [] 122 ()))

def z8v (N : Nat) : Hd Bool := fun st K => (unS [(1, .box (.pair (.sl (.pair .str (.pair (.int .i64) (.pair (.int .i64) (.pair (.sl (.pair (.int .i64) (.pair .str .unit))) .unit))))) (.pair (.int .i64) .unit))), (1, .v (.int .i64))] 118 (restr [3, 1] 0 st)).bind fun x => iter (fun v r => z94 N ((fun x => x.1) x) v r K) N ((fun x => x.2.1) x)

def zi4 (N : Nat) : Tab Bool := [([0, 1, 0, 0, 1, 0, 1, 1], z8u N)]

theorem zg5 {N : Nat} {c : Ctx} (hb : Base Go.Proofs.Try.prog (z10 N) c) : z11 Go.Proofs.Try.prog c (zj z7 [0, 1, 0, 1, 1]) (z8v N) :=
  z3p (s := [(1, .box (.pair (.sl (.pair .str (.pair (.int .i64) (.pair (.int .i64) (.pair (.sl (.pair (.int .i64) (.pair .str .unit))) .unit))))) (.pair (.int .i64) .unit))), (1, .v (.int .i64))]) (m := 118) (z94 N) [3, 1] N (fun x => x.1) (fun x => x.2.1) (fun i v => (i, v, ())) (fun _ => rfl) (zd hb N (zi4 N) z14 z7 (TabOk.cons (zg4 hb) TabOk.nil) [0, 0, 1, 0, 1, 1] _ rfl) (fun i v r K => by kernel_rfl)

def z2l (N : Nat) (s : ((List ((List UInt8) × (Int × (Int × ((List (Int × ((List UInt8) × Unit))) × Unit))))) × (Int × Unit))) : Option Bool :=
 z5b N s
 (fun x2 => some x2)
 (z59 N s (0 : Int)
 (fun x21 => some x21)
 (some true))

def zad (N : Nat) : Tab Bool := [([0, 1], z8x N), ([0, 1, 0, 1, 1], z8v N)]

theorem zf7 (N : Nat) (x : z29 [(0, .v (.pair (.sl (.pair .str (.pair (.int .i64) (.pair (.int .i64) (.pair (.sl (.pair (.int .i64) (.pair .str .unit))) .unit))))) (.pair (.int .i64) .unit)))]) : z9s (z10 N) N (zad N) z14 Go.Proofs.Try.f24 (mkS [(0, .v (.pair (.sl (.pair .str (.pair (.int .i64) (.pair (.int .i64) (.pair (.sl (.pair (.int .i64) (.pair .str .unit))) .unit))))) (.pair (.int .i64) .unit)))] 0 x) (z49 (.v .bool) 1) = z2l N x.1 := by kernel_rfl

def z4e (N : Nat) : List A -> Res := z1x [(0, .v (.pair (.sl (.pair .str (.pair (.int .i64) (.pair (.int .i64) (.pair (.sl (.pair (.int .i64) (.pair .str .unit))) .unit))))) (.pair (.int .i64) .unit)))] (fun x => z2l N x.1) (z4j (.v .bool) 1)

theorem z97 (N : Nat) : Contract Go.Proofs.Try.prog zh 24 (z4e N) :=
  Contract.of (E := z10 N) (H := zad N) (L := z14) (N := N) (body := z7) (K := (z49 (.v .bool) 1)) (zg8 N) Go.Proofs.Try.func24 (by kernel_rfl) (by decide) (fun _ hb => (TabOk.cons (zg7 hb) (TabOk.cons (zg5 hb) TabOk.nil))) (fun x y h => by rw [zf7]; exact h) (z1n (s := (.v .bool)) (m := 1))

def z4g : Code := (Go.Proofs.Try.f25.body).getD .skip

def z6v : List (List Nat × List Nat) := [([0], [2, 1]), ([0, 0, 1], [5, 2, 1]), ([0, 1, 0, 1], [5, 2, 1]), ([0, 0, 0, 0, 1, 0, 1], [10, 2, 5, 1]), ([1, 0, 0, 0, 1, 0, 1], [2, 5, 1]), ([1, 1, 0, 0, 0, 1, 0, 1], []), ([0, 0, 0, 1, 0, 0, 1, 0, 1], [20, 5, 2, 1]), ([1, 0, 0, 1, 0, 0, 1, 0, 1], [5, 2, 1]), ([0, 0, 1, 0, 0, 1, 0, 0, 1, 0, 1], [4]), ([1, 0, 1, 0, 0, 1, 0, 0, 1, 0, 1], [4]), ([0, 1, 0, 0, 1, 0, 1], [5, 2, 1]), ([1, 1, 0, 0, 1, 0, 1], [5, 2, 1]), ([1, 0, 1], []), ([0, 1, 1], [4]), ([1, 1, 1], [4])]

def z48 (N : Nat) : Env := z30 tys zh [] [] [] [] false [] []

theorem zie (N : Nat) : EnvOk Go.Proofs.Try.prog (z48 N) := zz mixed z1w (FnsOk.nil) (ItsOk.nil)

def z5x (N : Nat) (tenant : (List UInt8)) (s : ((List ((List UInt8) × (Int × (Int × ((List (Int × ((List UInt8) × Unit))) × Unit))))) × (Int × Unit))) (i : Int) (rec : Int -> Option Int) (k0 : Int -> Option Int) (k1 : Option Int) : Option Int :=
 cond (decide (i < (((List.length s.1) : Nat) : Int)))
 (cond (Go.Lift.inR i (List.length s.1))
 (cond ((List.getD s.1 (Int.toNat i) (([] : List UInt8), ((0 : Int), ((0 : Int), (([] : List (Int × ((List UInt8) × Unit))), ()))))).1 == tenant)
 (k0 i)
 (rec (Go.IntKind.wrap Go.IntKind.i64 (i + (1 : Int)))))
 (none))
 (k1)

def zag (N : Nat) (tenant : (List UInt8)) (s : ((List ((List UInt8) × (Int × (Int × ((List (Int × ((List UInt8) × Unit))) × Unit))))) × (Int × Unit))) (i : Int) (k0 : Int -> Option Int) (k1 : Option Int) : Option Int :=
 iter (fun (v : Int) r => z5x N tenant s v (fun i => (r i)) k0 k1) N i

def zai (N : Nat) (i : ((List UInt8) × ((List ((List UInt8) × (Int × (Int × ((List (Int × ((List UInt8) × Unit))) × Unit))))) × (Int × Unit)))) (v : Int) (r : Int -> Option Int) (K : Ex -> List A -> Option Int) : Option Int :=
 z5x N i.1 i.2 v (fun i => (r i)) (fun a0 => (K .ret (mkS [(4, .v (.int .i64))] 17 (a0, ())))) (K (.exit 0) (mkS [] 22 ()))

def zah (N : Nat) : Hd Int := fun st K => (unS [(1, .v .str), (0, .box (.pair (.sl (.pair .str (.pair (.int .i64) (.pair (.int .i64) (.pair (.sl (.pair (.int .i64) (.pair .str .unit))) .unit))))) (.pair (.int .i64) .unit))), (2, .v (.int .i64))] 16 (restr [5, 2, 1] 0 st)).bind fun x => iter (fun v r => zai N ((fun x => (x.1, x.2.1)) x) v r K) N ((fun x => x.2.2.1) x)

def zk5 (N : Nat) : Tab Int := []

theorem zid {N : Nat} {c : Ctx} (hb : Base Go.Proofs.Try.prog (z48 N) c) : z11 Go.Proofs.Try.prog c (zj z4g [0, 1, 0, 1]) (zah N) :=
  z3p (s := [(1, .v .str), (0, .box (.pair (.sl (.pair .str (.pair (.int .i64) (.pair (.int .i64) (.pair (.sl (.pair (.int .i64) (.pair .str .unit))) .unit))))) (.pair (.int .i64) .unit))), (2, .v (.int .i64))]) (m := 16) (zai N) [5, 2, 1] N (fun x => (x.1, x.2.1)) (fun x => x.2.2.1) (fun i v => (i.1, i.2, v, ())) (fun _ => rfl) (zd hb N (zk5 N) z6v z4g TabOk.nil [0, 0, 1, 0, 1] _ rfl) (fun i v r K => by kernel_rfl)

def z2u (N : Nat) (s : ((List ((List UInt8) × (Int × (Int × ((List (Int × ((List UInt8) × Unit))) × Unit))))) × (Int × Unit))) (tenant : (List UInt8)) : Option Int :=
 zag N tenant s (0 : Int)
 (fun x4 => some x4)
 (some (-(1 : Int)))

def zbr (N : Nat) : Tab Int := [([0, 1, 0, 1], zah N)]

theorem zgd (N : Nat) (x : z29 [(0, .v (.pair (.sl (.pair .str (.pair (.int .i64) (.pair (.int .i64) (.pair (.sl (.pair (.int .i64) (.pair .str .unit))) .unit))))) (.pair (.int .i64) .unit))), (0, .v .str)]) : z9s (z48 N) N (zbr N) z6v Go.Proofs.Try.f25 (mkS [(0, .v (.pair (.sl (.pair .str (.pair (.int .i64) (.pair (.int .i64) (.pair (.sl (.pair (.int .i64) (.pair .str .unit))) .unit))))) (.pair (.int .i64) .unit))), (0, .v .str)] 0 x) (z49 (.v (.int .i64)) 2) = z2u N x.1 x.2.1 := by kernel_rfl

def z5f (N : Nat) : List A -> Res := z1x [(0, .v (.pair (.sl (.pair .str (.pair (.int .i64) (.pair (.int .i64) (.pair (.sl (.pair (.int .i64) (.pair .str .unit))) .unit))))) (.pair (.int .i64) .unit))), (0, .v .str)] (fun x => z2u N x.1 x.2.1) (z4j (.v (.int .i64)) 2)

theorem zaj (N : Nat) : Contract Go.Proofs.Try.prog zh 25 (z5f N) :=
  Contract.of (E := z48 N) (H := zbr N) (L := z6v) (N := N) (body := z4g) (K := (z49 (.v (.int .i64)) 2)) (zie N) Go.Proofs.Try.func25 (by kernel_rfl) (by decide) (fun _ hb => (TabOk.cons (zid hb) TabOk.nil)) (fun x y h => by rw [zgd]; exact h) (z1n (s := (.v (.int .i64))) (m := 2))

def z51 : Code := (Go.Proofs.Try.f47.body).getD .skip

def z7k : List (List Nat × List Nat) := [([0], [0, 1]), ([0, 0, 1], [5, 0, 1]), ([0, 1, 0, 1], [5, 0, 1]), ([0, 0, 0, 0, 1, 0, 1], [9, 0, 5, 1]), ([1, 0, 0, 0, 1, 0, 1], [0, 5, 1]), ([1, 1, 0, 0, 0, 1, 0, 1], []), ([0, 0, 0, 1, 0, 0, 1, 0, 1], [18, 5, 0, 1]), ([1, 0, 0, 1, 0, 0, 1, 0, 1], [5, 0, 1]), ([0, 0, 1, 0, 0, 1, 0, 0, 1, 0, 1], [4]), ([1, 0, 1, 0, 0, 1, 0, 0, 1, 0, 1], [4]), ([0, 1, 0, 0, 1, 0, 1], [5, 0, 1]), ([1, 1, 0, 0, 1, 0, 1], [5, 0, 1]), ([1, 0, 1], []), ([0, 1, 1], [4]), ([1, 1, 1], [4])]

def z4s (N : Nat) : Env := z30 tys zh [] [] [] [] false [] []

theorem zk1 (N : Nat) : EnvOk Go.Proofs.Try.prog (z4s N) := zz mixed z1w (FnsOk.nil) (ItsOk.nil)

def z6u (N : Nat) (l : (List (Int × ((List UInt8) × Unit)))) (num : Int) (i : Int) (rec : Int -> Option Int) (k0 : Int -> Option Int) (k1 : Option Int) : Option Int :=
 cond (decide (i < (((List.length l) : Nat) : Int)))
 (cond (Go.Lift.inR i (List.length l))
 (cond ((List.getD l (Int.toNat i) ((0 : Int), (([] : List UInt8), ()))).1 == num)
 (k0 i)
 (rec (Go.IntKind.wrap Go.IntKind.i64 (i + (1 : Int)))))
 (none))
 (k1)

def zbn (N : Nat) (l : (List (Int × ((List UInt8) × Unit)))) (num : Int) (i : Int) (k0 : Int -> Option Int) (k1 : Option Int) : Option Int :=
 iter (fun (v : Int) r => z6u N l num v (fun i => (r i)) k0 k1) N i

def zbp (N : Nat) (i : ((List (Int × ((List UInt8) × Unit))) × Int)) (v : Int) (r : Int -> Option Int) (K : Ex -> List A -> Option Int) : Option Int :=
 z6u N i.1 i.2 v (fun i => (r i)) (fun a0 => (K .ret (mkS [(4, .v (.int .i64))] 15 (a0, ())))) (K (.exit 0) (mkS [] 20 ()))

def zbo (N : Nat) : Hd Int := fun st K => (unS [(0, .v (.sl (.pair (.int .i64) (.pair .str .unit)))), (0, .v (.int .i64)), (3, .v (.int .i64))] 14 (restr [5, 0, 1] 0 st)).bind fun x => iter (fun v r => zbp N ((fun x => (x.1, x.2.1)) x) v r K) N ((fun x => x.2.2.1) x)

def zlh (N : Nat) : Tab Int := []

theorem zk0 {N : Nat} {c : Ctx} (hb : Base Go.Proofs.Try.prog (z4s N) c) : z11 Go.Proofs.Try.prog c (zj z51 [0, 1, 0, 1]) (zbo N) :=
  z3p (s := [(0, .v (.sl (.pair (.int .i64) (.pair .str .unit)))), (0, .v (.int .i64)), (3, .v (.int .i64))]) (m := 14) (zbp N) [5, 0, 1] N (fun x => (x.1, x.2.1)) (fun x => x.2.2.1) (fun i v => (i.1, i.2, v, ())) (fun _ => rfl) (zd hb N (zlh N) z7k z51 TabOk.nil [0, 0, 1, 0, 1] _ rfl) (fun i v r K => by kernel_rfl)

def z4d (N : Nat) (l : (List (Int × ((List UInt8) × Unit)))) (num : Int) : Option Int :=
 zbn N l num (0 : Int)
 (fun x4 => some x4)
 (some (-(1 : Int)))

def zd0 (N : Nat) : Tab Int := [([0, 1, 0, 1], zbo N)]

theorem zhx (N : Nat) (x : z29 [(0, .v (.sl (.pair (.int .i64) (.pair .str .unit)))), (0, .v (.int .i64))]) : z9s (z4s N) N (zd0 N) z7k Go.Proofs.Try.f47 (mkS [(0, .v (.sl (.pair (.int .i64) (.pair .str .unit)))), (0, .v (.int .i64))] 0 x) (z49 (.v (.int .i64)) 2) = z4d N x.1 x.2.1 := by kernel_rfl

def zac (N : Nat) : List A -> Res := z1x [(0, .v (.sl (.pair (.int .i64) (.pair .str .unit)))), (0, .v (.int .i64))] (fun x => z4d N x.1 x.2.1) (z4j (.v (.int .i64)) 2)

theorem zli (N : Nat) : Contract Go.Proofs.Try.prog zh 47 (zac N) :=
  Contract.of (E := z4s N) (H := zd0 N) (L := z7k) (N := N) (body := z51) (K := (z49 (.v (.int .i64)) 2)) (zk1 N) Go.Proofs.Try.func47 (by kernel_rfl) (by decide) (fun _ hb => (TabOk.cons (zk0 hb) TabOk.nil)) (fun x y h => by rw [zhx]; exact h) (z1n (s := (.v (.int .i64))) (m := 2))

def zi8 : Code := (Go.Proofs.Try.f27.body).getD .skip

def zd2 : List (List Nat × List Nat) := [([0], [3, 1, 2]), ([0, 1], [8, 3, 2]), ([0, 0, 1, 1], [14, 3, 8, 2]), ([1, 0, 1, 1], [3, 8, 2]), ([0, 0, 1, 0, 1, 1], [6, 7]), ([1, 0, 1, 0, 1, 1], [6, 7]), ([0, 1, 1, 1], [9, 3, 8]), ([0, 0, 1, 1, 1, 1], [24, 3, 8, 9]), ([1, 0, 1, 1, 1, 1], [3, 8, 9]), ([0, 0, 1, 0, 1, 1, 1, 1], [6, 7]), ([1, 0, 1, 0, 1, 1, 1, 1], [6, 7]), ([0, 1, 1, 1, 1, 1], [6, 7]), ([1, 1, 1, 1, 1, 1], [6, 7])]

def z7l (N : Nat) : Env := z30 tys zh [(47, zac N), (25, z5f N)] [] [] [] false [] []

theorem zk4 (N : Nat) : EnvOk Go.Proofs.Try.prog (z7l N) := zz mixed z1w (FnsOk.cons (zli N) (FnsOk.cons (zaj N) (FnsOk.nil))) (ItsOk.nil)

def z4f (N : Nat) (s : ((List ((List UInt8) × (Int × (Int × ((List (Int × ((List UInt8) × Unit))) × Unit))))) × (Int × Unit))) (tenant : (List UInt8)) (num : Int) : Option ((List UInt8) × Bool × Unit) :=
 (z2u N s tenant).bind fun y =>
 cond (decide (y < (0 : Int)))
 (some (([] : List UInt8), (false, ())))
 (cond (Go.Lift.inR y (List.length s.1))
 ((z4d N (List.getD s.1 (Int.toNat y) (([] : List UInt8), ((0 : Int), ((0 : Int), (([] : List (Int × ((List UInt8) × Unit))), ()))))).2.2.2.1 num).bind fun y1 =>
 cond (decide (y1 < (0 : Int)))
 (some (([] : List UInt8), (false, ())))
 (cond (Go.Lift.inR y (List.length s.1))
 (cond (Go.Lift.inR y1 (List.length (List.getD s.1 (Int.toNat y) (([] : List UInt8), ((0 : Int), ((0 : Int), (([] : List (Int × ((List UInt8) × Unit))), ()))))).2.2.2.1))
 (some ((List.getD (List.getD s.1 (Int.toNat y) (([] : List UInt8), ((0 : Int), ((0 : Int), (([] : List (Int × ((List UInt8) × Unit))), ()))))).2.2.2.1 (Int.toNat y1) ((0 : Int), (([] : List UInt8), ()))).2.1, (true, ())))
 (none))
 (none)))
 (none))

def zd1 (N : Nat) : Tab ((List UInt8) × Bool × Unit) := []

theorem zi7 (N : Nat) (x : z29 [(0, .v (.pair (.sl (.pair .str (.pair (.int .i64) (.pair (.int .i64) (.pair (.sl (.pair (.int .i64) (.pair .str .unit))) .unit))))) (.pair (.int .i64) .unit))), (0, .v .str), (0, .v (.int .i64))]) : z9s (z7l N) N (zd1 N) zd2 Go.Proofs.Try.f27 (mkS [(0, .v (.pair (.sl (.pair .str (.pair (.int .i64) (.pair (.int .i64) (.pair (.sl (.pair (.int .i64) (.pair .str .unit))) .unit))))) (.pair (.int .i64) .unit))), (0, .v .str), (0, .v (.int .i64))] 0 x) (z49 (.tup [.str, .bool]) 3) = z4f N x.1 x.2.1 x.2.2.1 := by kernel_rfl

def zae (N : Nat) : List A -> Res := z1x [(0, .v (.pair (.sl (.pair .str (.pair (.int .i64) (.pair (.int .i64) (.pair (.sl (.pair (.int .i64) (.pair .str .unit))) .unit))))) (.pair (.int .i64) .unit))), (0, .v .str), (0, .v (.int .i64))] (fun x => z4f N x.1 x.2.1 x.2.2.1) (z4j (.tup [.str, .bool]) 3)

theorem zlk (N : Nat) : Contract Go.Proofs.Try.prog zh 27 (zae N) :=
  Contract.of (E := z7l N) (H := zd1 N) (L := zd2) (N := N) (body := zi8) (K := (z49 (.tup [.str, .bool]) 3)) (zk4 N) Go.Proofs.Try.func27 (by kernel_rfl) (by decide) (fun _ hb => TabOk.nil) (fun x y h => by rw [zi7]; exact h) (z1n (s := (.tup [.str, .bool])) (m := 3))

def z2d : Code := (Go.Proofs.Try.f9.body).getD .skip

def z47 : List (List Nat × List Nat) := [([0], [6, 2, 0, 3, 4]), ([0, 0, 1], [18, 6, 2, 0, 3, 4]), ([1, 0, 1], [6, 2, 0, 3, 4]), ([0, 0, 1, 0, 1], [10, 11]), ([1, 0, 1, 0, 1], [10, 11]), ([0, 1, 1], [0, 2, 3, 12, 6, 4]), ([0, 0, 1, 1, 1], [23, 2, 3, 12, 6, 0, 4]), ([1, 0, 1, 1, 1], [12, 6, 0, 3, 2, 4]), ([0, 0, 0, 1, 0, 1, 1, 1], [26, 3, 12, 6, 2]), ([1, 0, 0, 1, 0, 1, 1, 1], [3, 12, 6, 2]), ([0, 0, 1, 0, 0, 1, 0, 1, 1, 1], [10, 11]), ([1, 0, 1, 0, 0, 1, 0, 1, 1, 1], [10, 11]), ([0, 0, 1, 0, 1, 0, 1, 1, 1], [29, 12, 6, 2, 3]), ([1, 0, 1, 0, 1, 0, 1, 1, 1], [12, 6, 2, 3]), ([0, 0, 1, 0, 1, 0, 1, 0, 1, 1, 1], [10, 11]), ([1, 0, 1, 0, 1, 0, 1, 0, 1, 1, 1], [10, 11]), ([0, 0, 1, 1, 0, 1, 0, 1, 1, 1], [31, 6, 2, 3]), ([1, 0, 1, 1, 0, 1, 0, 1, 1, 1], [6, 2, 3]), ([0, 0, 1, 0, 1, 1, 0, 1, 0, 1, 1, 1], [10, 11]), ([1, 0, 1, 0, 1, 1, 0, 1, 0, 1, 1, 1], [10, 11]), ([0, 0, 1, 1, 1, 0, 1, 0, 1, 1, 1], [35, 2, 3]), ([1, 0, 1, 1, 1, 0, 1, 0, 1, 1, 1], [2, 3]), ([0, 0, 1, 0, 1, 1, 1, 0, 1, 0, 1, 1, 1], [10, 11]), ([1, 0, 1, 0, 1, 1, 1, 0, 1, 0, 1, 1, 1], [10, 11]), ([0, 1, 1, 1, 1, 0, 1, 0, 1, 1, 1], [10, 11]), ([1, 1, 1, 1, 1, 0, 1, 0, 1, 1, 1], [10, 11]), ([0, 0, 1, 1, 1, 1], [43, 6, 12, 0, 3, 2, 4]), ([1, 0, 1, 1, 1, 1], [6, 12, 0, 3, 2, 4]), ([0, 0, 1, 0, 1, 1, 1, 1], [10, 11]), ([1, 0, 1, 0, 1, 1, 1, 1], [10, 11]), ([0, 1, 1, 1, 1, 1], [0, 3, 13, 2, 6, 4]), ([0, 0, 1, 1, 1, 1, 1, 1], [50, 3, 13, 2, 0, 6, 4]), ([1, 0, 1, 1, 1, 1, 1, 1], [0, 6, 2, 4, 13]), ([0, 0, 0, 1, 0, 1, 1, 1, 1, 1, 1], [53, 13, 2, 3]), ([1, 0, 0, 1, 0, 1, 1, 1, 1, 1, 1], [13, 2, 3]), ([0, 0, 1, 0, 0, 1, 0, 1, 1, 1, 1, 1, 1], [10, 11]), ([1, 0, 1, 0, 0, 1, 0, 1, 1, 1, 1, 1, 1], [10, 11]), ([0, 0, 1, 0, 1, 0, 1, 1, 1, 1, 1, 1], [62, 2, 13, 3]), ([1, 0, 1, 0, 1, 0, 1, 1, 1, 1, 1, 1], [2, 13, 3]), ([0, 0, 1, 0, 1, 0, 1, 0, 1, 1, 1, 1, 1, 1], [10, 11]), ([1, 0, 1, 0, 1, 0, 1, 0, 1, 1, 1, 1, 1, 1], [10, 11]), ([0, 1, 1, 0, 1, 0, 1, 1, 1, 1, 1, 1], [10, 11]), ([1, 1, 1, 0, 1, 0, 1, 1, 1, 1, 1, 1], [10, 11]), ([0, 0, 1, 1, 1, 1, 1, 1, 1], [77, 6, 2, 4, 13, 0]), ([1, 0, 1, 1, 1, 1, 1, 1, 1], [0, 13, 2, 6]), ([0, 0, 1, 0, 1, 1, 1, 1, 1, 1, 1], [15, 13, 4, 2]), ([0, 0, 1, 0, 1, 0, 1, 1, 1, 1, 1, 1, 1], [86, 13, 4, 2]), ([1, 0, 1, 0, 1, 0, 1, 1, 1, 1, 1, 1, 1], [13, 4, 2]), ([0, 0, 1, 0, 1, 0, 1, 0, 1, 1, 1, 1, 1, 1, 1], [10, 11]), ([1, 0, 1, 0, 1, 0, 1, 0, 1, 1, 1, 1, 1, 1, 1], [10, 11]), ([0, 0, 1, 1, 0, 1, 0, 1, 1, 1, 1, 1, 1, 1], [97, 2, 4]), ([1, 0, 1, 1, 0, 1, 0, 1, 1, 1, 1, 1, 1, 1], [2, 4]), ([0, 0, 1, 0, 1, 1, 0, 1, 0, 1, 1, 1, 1, 1, 1, 1], [10, 11]), ([1, 0, 1, 0, 1, 1, 0, 1, 0, 1, 1, 1, 1, 1, 1, 1], [10, 11]), ([0, 1, 1, 1, 0, 1, 0, 1, 1, 1, 1, 1, 1, 1], [10, 11]), ([1, 1, 1, 1, 0, 1, 0, 1, 1, 1, 1, 1, 1, 1], [10, 11]), ([0, 0, 1, 1, 1, 1, 1, 1, 1, 1], [103, 13, 2, 6]), ([1, 0, 1, 1, 1, 1, 1, 1, 1, 1], [13, 6]), ([0, 0, 0, 1, 0, 1, 1, 1, 1, 1, 1, 1, 1], [106, 2, 13]), ([1, 0, 0, 1, 0, 1, 1, 1, 1, 1, 1, 1, 1], [2, 13]), ([0, 0, 1, 0, 0, 1, 0, 1, 1, 1, 1, 1, 1, 1, 1], [10, 11]), ([1, 0, 1, 0, 0, 1, 0, 1, 1, 1, 1, 1, 1, 1, 1], [10, 11]), ([0, 1, 0, 1, 0, 1, 1, 1, 1, 1, 1, 1, 1], [10, 11]), ([1, 1, 0, 1, 0, 1, 1, 1, 1, 1, 1, 1, 1], [10, 11]), ([0, 0, 1, 1, 1, 1, 1, 1, 1, 1, 1], [118, 6]), ([1, 0, 1, 1, 1, 1, 1, 1, 1, 1, 1], [6]), ([0, 0, 1, 0, 1, 1, 1, 1, 1, 1, 1, 1, 1], [10, 11]), ([1, 0, 1, 0, 1, 1, 1, 1, 1, 1, 1, 1, 1], [10, 11]), ([0, 0, 1, 1, 1, 1, 1, 1, 1, 1, 1, 1], [121, 6]), ([1, 0, 1, 1, 1, 1, 1, 1, 1, 1, 1, 1], [6]), ([0, 0, 1, 0, 1, 1, 1, 1, 1, 1, 1, 1, 1, 1], [10, 11]), ([1, 0, 1, 0, 1, 1, 1, 1, 1, 1, 1, 1, 1, 1], [10, 11]), ([0, 1, 1, 1, 1, 1, 1, 1, 1, 1, 1, 1], [10, 11]), ([1, 1, 1, 1, 1, 1, 1, 1, 1, 1, 1, 1], [10, 11])]

def z2x (N : Nat) : Env := z30 tys zh [(27, zae N), (25, z5f N), (24, z4e N), (26, z5g N)] [(10, (.pair (.int .i64) (.pair .str (.pair (.int .i64) (.pair (.int .i64) (.pair .str .unit))))))] [] [] false [] []

theorem zht (N : Nat) : EnvOk Go.Proofs.Try.prog (z2x N) := zz mixed z1w (FnsOk.cons (zlk N) (FnsOk.cons (zaj N) (FnsOk.cons (z97 N) (FnsOk.cons (zaz N) (FnsOk.nil))))) (ItsOk.nil)

def z5v (N : Nat) (name : (List UInt8)) (key : (List UInt8)) (t : ((List UInt8) × (Int × (Int × ((List (Int × ((List UInt8) × Unit))) × Unit))))) (k0 : Bool -> Option ((List (Int × ((List UInt8) × (Int × (Int × ((List UInt8) × Unit)))))) × Int × Unit)) : Option ((List (Int × ((List UInt8) × (Int × (Int × ((List UInt8) × Unit)))))) × Int × Unit) :=
 cond ((((List.length t.2.2.2.1) : Nat) : Int) == (8 : Int))
 (k0 true)
 (k0 (t.2.2.1 == (1099511627776 : Int)))

def za9 (N : Nat) (x : z29 [(2, .v .str), (0, .v .str), (9, .box (.pair .str (.pair (.int .i64) (.pair (.int .i64) (.pair (.sl (.pair (.int .i64) (.pair .str .unit))) .unit)))))]) (K : Ex -> List A -> Option ((List (Int × ((List UInt8) × (Int × (Int × ((List UInt8) × Unit)))))) × Int × Unit)) : Option ((List (Int × ((List UInt8) × (Int × (Int × ((List UInt8) × Unit)))))) × Int × Unit) :=
 z5v N x.1 x.2.1 x.2.2.1 (fun a3 => (K .normal (mkS [(2, .v .str), (0, .v .str), (9, .box (.pair .str (.pair (.int .i64) (.pair (.int .i64) (.pair (.sl (.pair (.int .i64) (.pair .str .unit))) .unit))))), (48, .v .bool)] 64 (x.1, x.2.1, x.2.2.1, a3, ()))))

def za7 (N : Nat) : Hd ((List (Int × ((List UInt8) × (Int × (Int × ((List UInt8) × Unit)))))) × Int × Unit) := fun st K => (unS [(2, .v .str), (0, .v .str), (9, .box (.pair .str (.pair (.int .i64) (.pair (.int .i64) (.pair (.sl (.pair (.int .i64) (.pair .str .unit))) .unit)))))] 113 (restr [13, 2, 3] 0 st)).bind fun x => za9 N x K

def zjx (N : Nat) : Tab ((List (Int × ((List UInt8) × (Int × (Int × ((List UInt8) × Unit)))))) × Int × Unit) := []

theorem zhr {N : Nat} {c : Ctx} (hb : Base Go.Proofs.Try.prog (z2x N) c) : z11 Go.Proofs.Try.prog c (zj z2d [0, 0, 1, 0, 1, 0, 1, 1, 1, 1, 1, 1]) (za7 N) :=
  z1a (s := [(2, .v .str), (0, .v .str), (9, .box (.pair .str (.pair (.int .i64) (.pair (.int .i64) (.pair (.sl (.pair (.int .i64) (.pair .str .unit))) .unit)))))]) (m := 113) (g := za9 N) [13, 2, 3] (zd hb N (zjx N) z47 z2d TabOk.nil [0, 0, 1, 0, 1, 0, 1, 1, 1, 1, 1, 1] _ rfl) (fun x K => by kernel_rfl)

def z5w (N : Nat) (name : (List UInt8)) (key : (List UInt8)) (t : ((List UInt8) × (Int × (Int × ((List (Int × ((List UInt8) × Unit))) × Unit))))) (k0 : (List (Int × ((List UInt8) × (Int × (Int × ((List UInt8) × Unit)))))) -> Int -> Option ((List (Int × ((List UInt8) × (Int × (Int × ((List UInt8) × Unit)))))) × Int × Unit)) (k1 : Option ((List (Int × ((List UInt8) × (Int × (Int × ((List UInt8) × Unit)))))) × Int × Unit)) : Option ((List (Int × ((List UInt8) × (Int × (Int × ((List UInt8) × Unit)))))) × Int × Unit) :=
 z5v N name key t
 (fun x62 => cond x62
 (k0 ([] : List (Int × ((List UInt8) × (Int × (Int × ((List UInt8) × Unit)))))) (3 : Int))
 (k1))

def zaa (N : Nat) (x : z29 [(2, .v .str), (0, .v .str), (9, .box (.pair .str (.pair (.int .i64) (.pair (.int .i64) (.pair (.sl (.pair (.int .i64) (.pair .str .unit))) .unit)))))]) (K : Ex -> List A -> Option ((List (Int × ((List UInt8) × (Int × (Int × ((List UInt8) × Unit)))))) × Int × Unit)) : Option ((List (Int × ((List UInt8) × (Int × (Int × ((List UInt8) × Unit)))))) × Int × Unit) :=
 z5w N x.1 x.2.1 x.2.2.1 (fun a0 a1 => (K .ret (mkS [(10, .row (.pair (.int .i64) (.pair .str (.pair (.int .i64) (.pair (.int .i64) (.pair .str .unit)))))), (0, .v (.int .i64))] 115 (a0, a1, ())))) (K .normal (mkS [(2, .v .str), (0, .v .str), (9, .box (.pair .str (.pair (.int .i64) (.pair (.int .i64) (.pair (.sl (.pair (.int .i64) (.pair .str .unit))) .unit)))))] 113 (x.1, x.2.1, x.2.2.1, ())))

def za8 (N : Nat) : Hd ((List (Int × ((List UInt8) × (Int × (Int × ((List UInt8) × Unit)))))) × Int × Unit) := fun st K => (unS [(2, .v .str), (0, .v .str), (9, .box (.pair .str (.pair (.int .i64) (.pair (.int .i64) (.pair (.sl (.pair (.int .i64) (.pair .str .unit))) .unit)))))] 113 (restr [13, 2, 3] 0 st)).bind fun x => zaa N x K

def zjy (N : Nat) : Tab ((List (Int × ((List UInt8) × (Int × (Int × ((List UInt8) × Unit)))))) × Int × Unit) := [([0, 0, 1, 0, 1, 0, 1, 1, 1, 1, 1, 1], za7 N)]

theorem zhs {N : Nat} {c : Ctx} (hb : Base Go.Proofs.Try.prog (z2x N) c) : z11 Go.Proofs.Try.prog c (zj z2d [0, 1, 0, 1, 0, 1, 1, 1, 1, 1, 1]) (za8 N) :=
  z1a (s := [(2, .v .str), (0, .v .str), (9, .box (.pair .str (.pair (.int .i64) (.pair (.int .i64) (.pair (.sl (.pair (.int .i64) (.pair .str .unit))) .unit)))))]) (m := 113) (g := zaa N) [13, 2, 3] (zd hb N (zjy N) z47 z2d (TabOk.cons (zhr hb) TabOk.nil) [0, 1, 0, 1, 0, 1, 1, 1, 1, 1, 1] _ rfl) (fun x K => by kernel_rfl)

def z3v (N : Nat) (op : Int) (s : ((List ((List UInt8) × (Int × (Int × ((List (Int × ((List UInt8) × Unit))) × Unit))))) × (Int × Unit))) (name : (List UInt8)) (key : (List UInt8)) (num : Int) : Option ((List (Int × ((List UInt8) × (Int × (Int × ((List UInt8) × Unit)))))) × Int × Unit) :=
 (z2l N s).bind fun y =>
 cond (!y)
 (some (([] : List (Int × ((List UInt8) × (Int × (Int × ((List UInt8) × Unit)))))), ((7 : Int), ())))
 ((z2u N s name).bind fun y1 =>
 cond (op == (1 : Int))
 ((z2v N name).bind fun y2 =>
 cond (!y2)
 (some (([] : List (Int × ((List UInt8) × (Int × (Int × ((List UInt8) × Unit)))))), ((4 : Int), ())))
 (cond ((((List.length key) : Nat) : Int) != (32 : Int))
 (some (([] : List (Int × ((List UInt8) × (Int × (Int × ((List UInt8) × Unit)))))), ((7 : Int), ())))
 (cond (decide ((0 : Int) <= y1))
 (some (([] : List (Int × ((List UInt8) × (Int × (Int × ((List UInt8) × Unit)))))), ((5 : Int), ())))
 (cond ((((List.length s.1) : Nat) : Int) == (16 : Int))
 (some (([] : List (Int × ((List UInt8) × (Int × (Int × ((List UInt8) × Unit)))))), ((3 : Int), ())))
 (some (([((1 : Int), (name, ((2 : Int), ((0 : Int), (([] : List UInt8), ()))))), ((2 : Int), (name, ((1 : Int), ((0 : Int), (key, ())))))] : List (Int × ((List UInt8) × (Int × (Int × ((List UInt8) × Unit)))))), ((0 : Int), ())))))))
 (cond (decide (y1 < (0 : Int)))
 (some (([] : List (Int × ((List UInt8) × (Int × (Int × ((List UInt8) × Unit)))))), ((6 : Int), ())))
 (cond (Go.Lift.inR y1 (List.length s.1))
 (cond (op == (2 : Int))
 (cond ((((List.length key) : Nat) : Int) != (32 : Int))
 (some (([] : List (Int × ((List UInt8) × (Int × (Int × ((List UInt8) × Unit)))))), ((7 : Int), ())))
 (z5w N name key (List.getD s.1 (Int.toNat y1) (([] : List UInt8), ((0 : Int), ((0 : Int), (([] : List (Int × ((List UInt8) × Unit))), ())))))
 (fun x10 x11 => some (x10, (x11, ())))
 (some (([((1 : Int), (name, ((Go.IntKind.wrap Go.IntKind.i64 ((List.getD s.1 (Int.toNat y1) (([] : List UInt8), ((0 : Int), ((0 : Int), (([] : List (Int × ((List UInt8) × Unit))), ()))))).2.2.1 + (1 : Int))), ((List.getD s.1 (Int.toNat y1) (([] : List UInt8), ((0 : Int), ((0 : Int), (([] : List (Int × ((List UInt8) × Unit))), ()))))).2.1, (([] : List UInt8), ()))))), ((2 : Int), (name, ((List.getD s.1 (Int.toNat y1) (([] : List UInt8), ((0 : Int), ((0 : Int), (([] : List (Int × ((List UInt8) × Unit))), ()))))).2.2.1, ((0 : Int), (key, ())))))] : List (Int × ((List UInt8) × (Int × (Int × ((List UInt8) × Unit)))))), ((0 : Int), ())))))
 (cond (op == (3 : Int))
 ((z4f N s name num).bind fun y3 =>
 cond (!y3.2.1)
 (some (([] : List (Int × ((List UInt8) × (Int × (Int × ((List UInt8) × Unit)))))), ((6 : Int), ())))
 (cond (Go.Lift.inR (Go.IntKind.wrap Go.IntKind.i64 ((((List.length (List.getD s.1 (Int.toNat y1) (([] : List UInt8), ((0 : Int), ((0 : Int), (([] : List (Int × ((List UInt8) × Unit))), ()))))).2.2.2.1) : Nat) : Int) - (1 : Int))) (List.length (List.getD s.1 (Int.toNat y1) (([] : List UInt8), ((0 : Int), ((0 : Int), (([] : List (Int × ((List UInt8) × Unit))), ()))))).2.2.2.1))
 (cond ((List.getD (List.getD s.1 (Int.toNat y1) (([] : List UInt8), ((0 : Int), ((0 : Int), (([] : List (Int × ((List UInt8) × Unit))), ()))))).2.2.2.1 (Int.toNat (Go.IntKind.wrap Go.IntKind.i64 ((((List.length (List.getD s.1 (Int.toNat y1) (([] : List UInt8), ((0 : Int), ((0 : Int), (([] : List (Int × ((List UInt8) × Unit))), ()))))).2.2.2.1) : Nat) : Int) - (1 : Int)))) ((0 : Int), (([] : List UInt8), ()))).1 == num)
 (some (([] : List (Int × ((List UInt8) × (Int × (Int × ((List UInt8) × Unit)))))), ((7 : Int), ())))
 (some (([((3 : Int), (name, (num, ((0 : Int), (([] : List UInt8), ())))))] : List (Int × ((List UInt8) × (Int × (Int × ((List UInt8) × Unit)))))), ((0 : Int), ()))))
 (none)))
 (cond (op == (4 : Int))
 (cond ((List.getD s.1 (Int.toNat y1) (([] : List UInt8), ((0 : Int), ((0 : Int), (([] : List (Int × ((List UInt8) × Unit))), ()))))).2.1 == (1099511627776 : Int))
 (some (([] : List (Int × ((List UInt8) × (Int × (Int × ((List UInt8) × Unit)))))), ((3 : Int), ())))
 (some (([((1 : Int), (name, ((List.getD s.1 (Int.toNat y1) (([] : List UInt8), ((0 : Int), ((0 : Int), (([] : List (Int × ((List UInt8) × Unit))), ()))))).2.2.1, ((Go.IntKind.wrap Go.IntKind.i64 ((List.getD s.1 (Int.toNat y1) (([] : List UInt8), ((0 : Int), ((0 : Int), (([] : List (Int × ((List UInt8) × Unit))), ()))))).2.1 + (1 : Int))), (([] : List UInt8), ())))))] : List (Int × ((List UInt8) × (Int × (Int × ((List UInt8) × Unit)))))), ((0 : Int), ()))))
 (cond ((((List.length (List.getD s.1 (Int.toNat y1) (([] : List UInt8), ((0 : Int), ((0 : Int), (([] : List (Int × ((List UInt8) × Unit))), ()))))).2.2.2.1) : Nat) : Int) == (0 : Int))
 (some (([] : List (Int × ((List UInt8) × (Int × (Int × ((List UInt8) × Unit)))))), ((6 : Int), ())))
 (cond (s.2.1 == (1099511627776 : Int))
 (some (([] : List (Int × ((List UInt8) × (Int × (Int × ((List UInt8) × Unit)))))), ((3 : Int), ())))
 (some (([((4 : Int), (([] : List UInt8), ((Go.IntKind.wrap Go.IntKind.i64 (s.2.1 + (1 : Int))), ((0 : Int), (([] : List UInt8), ())))))] : List (Int × ((List UInt8) × (Int × (Int × ((List UInt8) × Unit)))))), ((0 : Int), ()))))))))
 (none))))

def zbm (N : Nat) : Tab ((List (Int × ((List UInt8) × (Int × (Int × ((List UInt8) × Unit)))))) × Int × Unit) := [([0, 1, 0, 1, 0, 1, 1, 1, 1, 1, 1], za8 N)]

theorem zfv (N : Nat) (x : z29 [(0, .v (.int .i64)), (0, .v (.pair (.sl (.pair .str (.pair (.int .i64) (.pair (.int .i64) (.pair (.sl (.pair (.int .i64) (.pair .str .unit))) .unit))))) (.pair (.int .i64) .unit))), (0, .v .str), (0, .v .str), (0, .v (.int .i64))]) : z9s (z2x N) N (zbm N) z47 Go.Proofs.Try.f9 (mkS [(0, .v (.int .i64)), (0, .v (.pair (.sl (.pair .str (.pair (.int .i64) (.pair (.int .i64) (.pair (.sl (.pair (.int .i64) (.pair .str .unit))) .unit))))) (.pair (.int .i64) .unit))), (0, .v .str), (0, .v .str), (0, .v (.int .i64))] 0 x) (z49 (.tup [(.sl (.pair (.int .i64) (.pair .str (.pair (.int .i64) (.pair (.int .i64) (.pair .str .unit)))))), (.int .i64)]) 5) = z3v N x.1 x.2.1 x.2.2.1 x.2.2.2.1 x.2.2.2.2.1 := by kernel_rfl

def z8j (N : Nat) : List A -> Res := z1x [(0, .v (.int .i64)), (0, .v (.pair (.sl (.pair .str (.pair (.int .i64) (.pair (.int .i64) (.pair (.sl (.pair (.int .i64) (.pair .str .unit))) .unit))))) (.pair (.int .i64) .unit))), (0, .v .str), (0, .v .str), (0, .v (.int .i64))] (fun x => z3v N x.1 x.2.1 x.2.2.1 x.2.2.2.1 x.2.2.2.2.1) (z4j (.tup [(.sl (.pair (.int .i64) (.pair .str (.pair (.int .i64) (.pair (.int .i64) (.pair .str .unit)))))), (.int .i64)]) 5)

theorem zjz (N : Nat) : Contract Go.Proofs.Try.prog zh 9 (z8j N) :=
  Contract.of (E := z2x N) (H := zbm N) (L := z47) (N := N) (body := z2d) (K := (z49 (.tup [(.sl (.pair (.int .i64) (.pair .str (.pair (.int .i64) (.pair (.int .i64) (.pair .str .unit)))))), (.int .i64)]) 5)) (zht N) Go.Proofs.Try.func9 (by kernel_rfl) (by decide) (fun _ hb => (TabOk.cons (zhs hb) TabOk.nil)) (fun x y h => by rw [zfv]; exact h) (z1n (s := (.tup [(.sl (.pair (.int .i64) (.pair .str (.pair (.int .i64) (.pair (.int .i64) (.pair .str .unit)))))), (.int .i64)])) (m := 5))

def z28 : Code := (Go.Proofs.Try.f12.body).getD .skip

def z3l : List (List Nat × List Nat) := [([0], [1]), ([0, 0, 1], [9, 1]), ([1, 0, 1], [1]), ([0, 0, 1, 0, 1], [2]), ([1, 0, 1, 0, 1], [2]), ([0, 1, 1], [1, 3]), ([0, 0, 1, 1, 1], [4, 1, 3]), ([0, 1, 0, 1, 1, 1], [4, 1, 3]), ([0, 0, 0, 0, 1, 0, 1, 1, 1], [14, 1, 4, 3]), ([1, 0, 0, 0, 1, 0, 1, 1, 1], [1, 4, 3]), ([1, 1, 0, 0, 0, 1, 0, 1, 1, 1], [3, 1]), ([0, 0, 0, 1, 0, 0, 1, 0, 1, 1, 1], [3, 5, 4, 1]), ([0, 1, 0, 0, 1, 0, 0, 1, 0, 1, 1, 1], [5, 3, 4, 1]), ([0, 1, 1, 0, 0, 1, 0, 0, 1, 0, 1, 1, 1], [6, 5, 3, 4, 1]), ([0, 1, 1, 1, 0, 0, 1, 0, 0, 1, 0, 1, 1, 1], [6, 5, 3, 4, 1]), ([0, 0, 0, 0, 1, 1, 1, 0, 0, 1, 0, 0, 1, 0, 1, 1, 1], [36, 3, 5, 6, 4, 1]), ([1, 0, 0, 0, 1, 1, 1, 0, 0, 1, 0, 0, 1, 0, 1, 1, 1], [3, 5, 6, 4, 1]), ([1, 1, 0, 0, 0, 1, 1, 1, 0, 0, 1, 0, 0, 1, 0, 1, 1, 1], [4, 1, 3]), ([0, 0, 1, 0, 0, 1, 1, 1, 0, 0, 1, 0, 0, 1, 0, 1, 1, 1], [6, 5, 3, 4, 1]), ([0, 1, 0, 0, 1, 1, 1, 0, 0, 1, 0, 0, 1, 0, 1, 1, 1], [6, 5, 3, 4, 1]), ([1, 1, 0, 0, 1, 1, 1, 0, 0, 1, 0, 0, 1, 0, 1, 1, 1], [6, 5, 3, 4, 1]), ([1, 1, 1, 0, 0, 1, 0, 0, 1, 0, 1, 1, 1], [4, 1, 3]), ([0, 1, 0, 0, 1, 0, 1, 1, 1], [4, 1, 3]), ([1, 1, 0, 0, 1, 0, 1, 1, 1], [4, 1, 3]), ([1, 0, 1, 1, 1], [3, 1]), ([0, 1, 1, 1, 1], [2]), ([1, 1, 1, 1, 1], [2])]

def z2o (N : Nat) : Env := z30 tys zh [(24, z4e N)] [(3, (.pair (.int .i64) (.pair .str (.pair (.int .i64) (.pair (.int .i64) (.pair .str .unit)))))), (2, (.pair (.int .i64) (.pair .str (.pair (.int .i64) (.pair (.int .i64) (.pair .str .unit))))))] [] [] false [] []

theorem zfy (N : Nat) : EnvOk Go.Proofs.Try.prog (z2o N) := zz mixed z1w (FnsOk.cons (z97 N) (FnsOk.nil)) (ItsOk.nil)

def z4y (N : Nat) (s : ((List ((List UInt8) × (Int × (Int × ((List (Int × ((List UInt8) × Unit))) × Unit))))) × (Int × Unit))) (i : Int) (t : ((List UInt8) × (Int × (Int × ((List (Int × ((List UInt8) × Unit))) × Unit))))) (out : (List (Int × ((List UInt8) × (Int × (Int × ((List UInt8) × Unit))))))) (k : Int) (rec : (List (Int × ((List UInt8) × (Int × (Int × ((List UInt8) × Unit)))))) -> Int -> Option (List (Int × ((List UInt8) × (Int × (Int × ((List UInt8) × Unit))))))) (k0 : (List (Int × ((List UInt8) × (Int × (Int × ((List UInt8) × Unit)))))) -> Option (List (Int × ((List UInt8) × (Int × (Int × ((List UInt8) × Unit))))))) : Option (List (Int × ((List UInt8) × (Int × (Int × ((List UInt8) × Unit)))))) :=
 cond (decide (k < (((List.length t.2.2.2.1) : Nat) : Int)))
 (cond (Go.Lift.inR k (List.length t.2.2.2.1))
 (cond (Go.Lift.inR k (List.length t.2.2.2.1))
 (cond (decide ((((List.length out) + 1) * 56) <= 70368744177664))
 (rec (out ++ ([((2 : Int), (t.1, ((List.getD t.2.2.2.1 (Int.toNat k) ((0 : Int), (([] : List UInt8), ()))).1, ((0 : Int), ((List.getD t.2.2.2.1 (Int.toNat k) ((0 : Int), (([] : List UInt8), ()))).2.1, ())))))] : List (Int × ((List UInt8) × (Int × (Int × ((List UInt8) × Unit))))))) (Go.IntKind.wrap Go.IntKind.i64 (k + (1 : Int))))
 (none))
 (none))
 (none))
 (k0 out)

def z50 (N : Nat) (s : ((List ((List UInt8) × (Int × (Int × ((List (Int × ((List UInt8) × Unit))) × Unit))))) × (Int × Unit))) (out : (List (Int × ((List UInt8) × (Int × (Int × ((List UInt8) × Unit))))))) (i : Int) (t : ((List UInt8) × (Int × (Int × ((List (Int × ((List UInt8) × Unit))) × Unit))))) (k : Int) (k0 : (List (Int × ((List UInt8) × (Int × (Int × ((List UInt8) × Unit)))))) -> Option (List (Int × ((List UInt8) × (Int × (Int × ((List UInt8) × Unit))))))) : Option (List (Int × ((List UInt8) × (Int × (Int × ((List UInt8) × Unit)))))) :=
 iter (fun (v : ((List (Int × ((List UInt8) × (Int × (Int × ((List UInt8) × Unit)))))) × Int)) r => z4y N s i t v.1 v.2 (fun out k => (r (out, k))) k0) N (out, k)

def z8n (N : Nat) (i : (((List ((List UInt8) × (Int × (Int × ((List (Int × ((List UInt8) × Unit))) × Unit))))) × (Int × Unit)) × Int × ((List UInt8) × (Int × (Int × ((List (Int × ((List UInt8) × Unit))) × Unit)))))) (v : ((List (Int × ((List UInt8) × (Int × (Int × ((List UInt8) × Unit)))))) × Int)) (r : ((List (Int × ((List UInt8) × (Int × (Int × ((List UInt8) × Unit)))))) × Int) -> Option (List (Int × ((List UInt8) × (Int × (Int × ((List UInt8) × Unit))))))) (K : Ex -> List A -> Option (List (Int × ((List UInt8) × (Int × (Int × ((List UInt8) × Unit))))))) : Option (List (Int × ((List UInt8) × (Int × (Int × ((List UInt8) × Unit)))))) :=
 z4y N i.1 i.2.1 i.2.2 v.1 v.2 (fun out k => (r (out, k))) (fun a1 => (K (.exit 2) (mkS [(1, .box (.pair (.sl (.pair .str (.pair (.int .i64) (.pair (.int .i64) (.pair (.sl (.pair (.int .i64) (.pair .str .unit))) .unit))))) (.pair (.int .i64) .unit))), (1, .row (.pair (.int .i64) (.pair .str (.pair (.int .i64) (.pair (.int .i64) (.pair .str .unit)))))), (0, .v (.int .i64))] 58 (i.1, a1, i.2.1, ()))))

def z8l (N : Nat) : Hd (List (Int × ((List UInt8) × (Int × (Int × ((List UInt8) × Unit)))))) := fun st K => (unS [(1, .box (.pair (.sl (.pair .str (.pair (.int .i64) (.pair (.int .i64) (.pair (.sl (.pair (.int .i64) (.pair .str .unit))) .unit))))) (.pair (.int .i64) .unit))), (1, .row (.pair (.int .i64) (.pair .str (.pair (.int .i64) (.pair (.int .i64) (.pair .str .unit)))))), (0, .v (.int .i64)), (0, .box (.pair .str (.pair (.int .i64) (.pair (.int .i64) (.pair (.sl (.pair (.int .i64) (.pair .str .unit))) .unit))))), (0, .v (.int .i64))] 56 (restr [6, 5, 3, 4, 1] 0 st)).bind fun x => iter (fun v r => z8n N ((fun x => (x.1, x.2.2.1, x.2.2.2.1)) x) v r K) N ((fun x => (x.2.1, x.2.2.2.2.1)) x)

def zhu (N : Nat) : Tab (List (Int × ((List UInt8) × (Int × (Int × ((List UInt8) × Unit)))))) := []

theorem zfw {N : Nat} {c : Ctx} (hb : Base Go.Proofs.Try.prog (z2o N) c) : z11 Go.Proofs.Try.prog c (zj z28 [0, 1, 1, 1, 0, 0, 1, 0, 0, 1, 0, 1, 1, 1]) (z8l N) :=
  z3p (s := [(1, .box (.pair (.sl (.pair .str (.pair (.int .i64) (.pair (.int .i64) (.pair (.sl (.pair (.int .i64) (.pair .str .unit))) .unit))))) (.pair (.int .i64) .unit))), (1, .row (.pair (.int .i64) (.pair .str (.pair (.int .i64) (.pair (.int .i64) (.pair .str .unit)))))), (0, .v (.int .i64)), (0, .box (.pair .str (.pair (.int .i64) (.pair (.int .i64) (.pair (.sl (.pair (.int .i64) (.pair .str .unit))) .unit))))), (0, .v (.int .i64))]) (m := 56) (z8n N) [6, 5, 3, 4, 1] N (fun x => (x.1, x.2.2.1, x.2.2.2.1)) (fun x => (x.2.1, x.2.2.2.2.1)) (fun i v => (i.1, v.1, i.2.1, i.2.2, v.2, ())) (fun _ => rfl) (zd hb N (zhu N) z3l z28 TabOk.nil [0, 0, 1, 1, 1, 0, 0, 1, 0, 0, 1, 0, 1, 1, 1] _ rfl) (fun i v r K => by kernel_rfl)

def z4z (N : Nat) (s : ((List ((List UInt8) × (Int × (Int × ((List (Int × ((List UInt8) × Unit))) × Unit))))) × (Int × Unit))) (out : (List (Int × ((List UInt8) × (Int × (Int × ((List UInt8) × Unit))))))) (i : Int) (rec : (List (Int × ((List UInt8) × (Int × (Int × ((List UInt8) × Unit)))))) -> Int -> Option (List (Int × ((List UInt8) × (Int × (Int × ((List UInt8) × Unit))))))) (k0 : (List (Int × ((List UInt8) × (Int × (Int × ((List UInt8) × Unit)))))) -> Option (List (Int × ((List UInt8) × (Int × (Int × ((List UInt8) × Unit))))))) : Option (List (Int × ((List UInt8) × (Int × (Int × ((List UInt8) × Unit)))))) :=
 cond (decide (i < (((List.length s.1) : Nat) : Int)))
 (cond (Go.Lift.inR i (List.length s.1))
 (cond (decide ((((List.length out) + 1) * 56) <= 70368744177664))
 (z50 N s (out ++ ([((1 : Int), ((List.getD s.1 (Int.toNat i) (([] : List UInt8), ((0 : Int), ((0 : Int), (([] : List (Int × ((List UInt8) × Unit))), ()))))).1, ((List.getD s.1 (Int.toNat i) (([] : List UInt8), ((0 : Int), ((0 : Int), (([] : List (Int × ((List UInt8) × Unit))), ()))))).2.2.1, ((List.getD s.1 (Int.toNat i) (([] : List UInt8), ((0 : Int), ((0 : Int), (([] : List (Int × ((List UInt8) × Unit))), ()))))).2.1, (([] : List UInt8), ())))))] : List (Int × ((List UInt8) × (Int × (Int × ((List UInt8) × Unit))))))) i (List.getD s.1 (Int.toNat i) (([] : List UInt8), ((0 : Int), ((0 : Int), (([] : List (Int × ((List UInt8) × Unit))), ()))))) (0 : Int)
 (fun out1 => rec out1 (Go.IntKind.wrap Go.IntKind.i64 (i + (1 : Int)))))
 (none))
 (none))
 (k0 out)

def z8k (N : Nat) (s : ((List ((List UInt8) × (Int × (Int × ((List (Int × ((List UInt8) × Unit))) × Unit))))) × (Int × Unit))) (out : (List (Int × ((List UInt8) × (Int × (Int × ((List UInt8) × Unit))))))) (i : Int) (k0 : (List (Int × ((List UInt8) × (Int × (Int × ((List UInt8) × Unit)))))) -> Option (List (Int × ((List UInt8) × (Int × (Int × ((List UInt8) × Unit))))))) : Option (List (Int × ((List UInt8) × (Int × (Int × ((List UInt8) × Unit)))))) :=
 iter (fun (v : ((List (Int × ((List UInt8) × (Int × (Int × ((List UInt8) × Unit)))))) × Int)) r => z4z N s v.1 v.2 (fun out i => (r (out, i))) k0) N (out, i)

def z8o (N : Nat) (i : ((List ((List UInt8) × (Int × (Int × ((List (Int × ((List UInt8) × Unit))) × Unit))))) × (Int × Unit))) (v : ((List (Int × ((List UInt8) × (Int × (Int × ((List UInt8) × Unit)))))) × Int)) (r : ((List (Int × ((List UInt8) × (Int × (Int × ((List UInt8) × Unit)))))) × Int) -> Option (List (Int × ((List UInt8) × (Int × (Int × ((List UInt8) × Unit))))))) (K : Ex -> List A -> Option (List (Int × ((List UInt8) × (Int × (Int × ((List UInt8) × Unit))))))) : Option (List (Int × ((List UInt8) × (Int × (Int × ((List UInt8) × Unit)))))) :=
 z4z N i v.1 v.2 (fun out i => (r (out, i))) (fun a1 => (K (.exit 0) (mkS [(1, .box (.pair (.sl (.pair .str (.pair (.int .i64) (.pair (.int .i64) (.pair (.sl (.pair (.int .i64) (.pair .str .unit))) .unit))))) (.pair (.int .i64) .unit))), (1, .row (.pair (.int .i64) (.pair .str (.pair (.int .i64) (.pair (.int .i64) (.pair .str .unit))))))] 59 (i, a1, ()))))

def z8m (N : Nat) : Hd (List (Int × ((List UInt8) × (Int × (Int × ((List UInt8) × Unit)))))) := fun st K => (unS [(1, .box (.pair (.sl (.pair .str (.pair (.int .i64) (.pair (.int .i64) (.pair (.sl (.pair (.int .i64) (.pair .str .unit))) .unit))))) (.pair (.int .i64) .unit))), (1, .row (.pair (.int .i64) (.pair .str (.pair (.int .i64) (.pair (.int .i64) (.pair .str .unit)))))), (0, .v (.int .i64))] 58 (restr [4, 1, 3] 0 st)).bind fun x => iter (fun v r => z8o N ((fun x => x.1) x) v r K) N ((fun x => (x.2.1, x.2.2.1)) x)

def zhv (N : Nat) : Tab (List (Int × ((List UInt8) × (Int × (Int × ((List UInt8) × Unit)))))) := [([0, 1, 1, 1, 0, 0, 1, 0, 0, 1, 0, 1, 1, 1], z8l N)]

theorem zfx {N : Nat} {c : Ctx} (hb : Base Go.Proofs.Try.prog (z2o N) c) : z11 Go.Proofs.Try.prog c (zj z28 [0, 1, 0, 1, 1, 1]) (z8m N) :=
  z3p (s := [(1, .box (.pair (.sl (.pair .str (.pair (.int .i64) (.pair (.int .i64) (.pair (.sl (.pair (.int .i64) (.pair .str .unit))) .unit))))) (.pair (.int .i64) .unit))), (1, .row (.pair (.int .i64) (.pair .str (.pair (.int .i64) (.pair (.int .i64) (.pair .str .unit)))))), (0, .v (.int .i64))]) (m := 58) (z8o N) [4, 1, 3] N (fun x => x.1) (fun x => (x.2.1, x.2.2.1)) (fun i v => (i, v.1, v.2, ())) (fun _ => rfl) (zd hb N (zhv N) z3l z28 (TabOk.cons (zfw hb) TabOk.nil) [0, 0, 1, 0, 1, 1, 1] _ rfl) (fun i v r K => by kernel_rfl)

def z34 (N : Nat) (s : ((List ((List UInt8) × (Int × (Int × ((List (Int × ((List UInt8) × Unit))) × Unit))))) × (Int × Unit))) : Option (List (Int × ((List UInt8) × (Int × (Int × ((List UInt8) × Unit)))))) :=
 (z2l N s).bind fun y =>
 cond (!y)
 (some ([] : List (Int × ((List UInt8) × (Int × (Int × ((List UInt8) × Unit)))))))
 (z8k N s ([] : List (Int × ((List UInt8) × (Int × (Int × ((List UInt8) × Unit)))))) (0 : Int)
 (fun out => cond (decide ((((List.length out) + 1) * 56) <= 70368744177664))
 (some (out ++ ([((4 : Int), (([] : List UInt8), (s.2.1, ((0 : Int), (([] : List UInt8), ())))))] : List (Int × ((List UInt8) × (Int × (Int × ((List UInt8) × Unit))))))))
 (none)))

def zab (N : Nat) : Tab (List (Int × ((List UInt8) × (Int × (Int × ((List UInt8) × Unit)))))) := [([0, 1, 0, 1, 1, 1], z8m N)]

theorem zf6 (N : Nat) (x : z29 [(0, .v (.pair (.sl (.pair .str (.pair (.int .i64) (.pair (.int .i64) (.pair (.sl (.pair (.int .i64) (.pair .str .unit))) .unit))))) (.pair (.int .i64) .unit)))]) : z9s (z2o N) N (zab N) z3l Go.Proofs.Try.f12 (mkS [(0, .v (.pair (.sl (.pair .str (.pair (.int .i64) (.pair (.int .i64) (.pair (.sl (.pair (.int .i64) (.pair .str .unit))) .unit))))) (.pair (.int .i64) .unit)))] 0 x) (z49 (.v (.sl (.pair (.int .i64) (.pair .str (.pair (.int .i64) (.pair (.int .i64) (.pair .str .unit))))))) 1) = z34 N x.1 := by kernel_rfl

def z7w (N : Nat) : List A -> Res := z1x [(0, .v (.pair (.sl (.pair .str (.pair (.int .i64) (.pair (.int .i64) (.pair (.sl (.pair (.int .i64) (.pair .str .unit))) .unit))))) (.pair (.int .i64) .unit)))] (fun x => z34 N x.1) (z4j (.v (.sl (.pair (.int .i64) (.pair .str (.pair (.int .i64) (.pair (.int .i64) (.pair .str .unit))))))) 1)

theorem zhw (N : Nat) : Contract Go.Proofs.Try.prog zh 12 (z7w N) :=
  Contract.of (E := z2o N) (H := zab N) (L := z3l) (N := N) (body := z28) (K := (z49 (.v (.sl (.pair (.int .i64) (.pair .str (.pair (.int .i64) (.pair (.int .i64) (.pair .str .unit))))))) 1)) (zfy N) Go.Proofs.Try.func12 (by kernel_rfl) (by decide) (fun _ hb => (TabOk.cons (zfx hb) TabOk.nil)) (fun x y h => by rw [zf6]; exact h) (z1n (s := (.v (.sl (.pair (.int .i64) (.pair .str (.pair (.int .i64) (.pair (.int .i64) (.pair .str .unit)))))))) (m := 1))

def z2s : Code := (Go.Proofs.Try.f10.body).getD .skip

def z3o : List (List Nat × List Nat) := [([0], [0, 1]), ([0, 0, 1], [10, 0, 1]), ([1, 0, 1], [0, 1]), ([0, 0, 1, 0, 1], [4]), ([1, 0, 1, 0, 1], [4]), ([0, 0, 1, 1], [5, 0, 1]), ([0, 1, 0, 1, 1], [5, 0, 1]), ([0, 0, 0, 0, 1, 0, 1, 1], [14, 0, 5, 1]), ([1, 0, 0, 0, 1, 0, 1, 1], [0, 5, 1]), ([1, 1, 0, 0, 0, 1, 0, 1, 1], []), ([0, 0, 0, 1, 0, 0, 1, 0, 1, 1], [25, 5, 0, 1]), ([1, 0, 0, 1, 0, 0, 1, 0, 1, 1], [5, 0, 1]), ([0, 0, 1, 0, 0, 1, 0, 0, 1, 0, 1, 1], [4]), ([1, 0, 1, 0, 0, 1, 0, 0, 1, 0, 1, 1], [4]), ([0, 1, 0, 0, 1, 0, 1, 1], [5, 0, 1]), ([1, 1, 0, 0, 1, 0, 1, 1], [5, 0, 1]), ([1, 0, 1, 1], []), ([0, 1, 1, 1], [4]), ([1, 1, 1, 1], [4])]

def z2j (N : Nat) : Env := z30 tys zh [] [] [] [] false [] []

theorem zci (N : Nat) : EnvOk Go.Proofs.Try.prog (z2j N) := zz mixed z1w (FnsOk.nil) (ItsOk.nil)

def z3c (N : Nat) (a : (List (Int × ((List UInt8) × (Int × (Int × ((List UInt8) × Unit))))))) (b : (List (Int × ((List UInt8) × (Int × (Int × ((List UInt8) × Unit))))))) (i : Int) (rec : Int -> Option Bool) (k0 : Bool -> Option Bool) (k1 : Option Bool) : Option Bool :=
 cond (decide (i < (((List.length a) : Nat) : Int)))
 (cond (Go.Lift.inR i (List.length a))
 (cond (Go.Lift.inR i (List.length b))
 (cond (!(Go.Lift.eqD (Go.Lift.unT (Go.Lift.T.pair (Go.Lift.T.int Go.IntKind.i64) (Go.Lift.T.pair Go.Lift.T.str (Go.Lift.T.pair (Go.Lift.T.int Go.IntKind.i64) (Go.Lift.T.pair (Go.Lift.T.int Go.IntKind.i64) (Go.Lift.T.pair Go.Lift.T.str Go.Lift.T.unit)))))) (List.getD a (Int.toNat i) ((0 : Int), (([] : List UInt8), ((0 : Int), ((0 : Int), (([] : List UInt8), ())))))) (List.getD b (Int.toNat i) ((0 : Int), (([] : List UInt8), ((0 : Int), ((0 : Int), (([] : List UInt8), ()))))))))
 (k0 false)
 (rec (Go.IntKind.wrap Go.IntKind.i64 (i + (1 : Int)))))
 (none))
 (none))
 (k1)

def z6n (N : Nat) (a : (List (Int × ((List UInt8) × (Int × (Int × ((List UInt8) × Unit))))))) (b : (List (Int × ((List UInt8) × (Int × (Int × ((List UInt8) × Unit))))))) (i : Int) (k0 : Bool -> Option Bool) (k1 : Option Bool) : Option Bool :=
 iter (fun (v : Int) r => z3c N a b v (fun i => (r i)) k0 k1) N i

def z6p (N : Nat) (i : ((List (Int × ((List UInt8) × (Int × (Int × ((List UInt8) × Unit)))))) × (List (Int × ((List UInt8) × (Int × (Int × ((List UInt8) × Unit)))))))) (v : Int) (r : Int -> Option Bool) (K : Ex -> List A -> Option Bool) : Option Bool :=
 z3c N i.1 i.2 v (fun i => (r i)) (fun a0 => (K .ret (mkS [(4, .v .bool)] 21 (a0, ())))) (K (.exit 0) (mkS [] 26 ()))

def z6o (N : Nat) : Hd Bool := fun st K => (unS [(0, .v (.sl (.pair (.int .i64) (.pair .str (.pair (.int .i64) (.pair (.int .i64) (.pair .str .unit))))))), (0, .v (.sl (.pair (.int .i64) (.pair .str (.pair (.int .i64) (.pair (.int .i64) (.pair .str .unit))))))), (3, .v (.int .i64))] 20 (restr [5, 0, 1] 0 st)).bind fun x => iter (fun v r => z6p N ((fun x => (x.1, x.2.1)) x) v r K) N ((fun x => x.2.2.1) x)

def zda (N : Nat) : Tab Bool := []

theorem zch {N : Nat} {c : Ctx} (hb : Base Go.Proofs.Try.prog (z2j N) c) : z11 Go.Proofs.Try.prog c (zj z2s [0, 1, 0, 1, 1]) (z6o N) :=
  z3p (s := [(0, .v (.sl (.pair (.int .i64) (.pair .str (.pair (.int .i64) (.pair (.int .i64) (.pair .str .unit))))))), (0, .v (.sl (.pair (.int .i64) (.pair .str (.pair (.int .i64) (.pair (.int .i64) (.pair .str .unit))))))), (3, .v (.int .i64))]) (m := 20) (z6p N) [5, 0, 1] N (fun x => (x.1, x.2.1)) (fun x => x.2.2.1) (fun i v => (i.1, i.2, v, ())) (fun _ => rfl) (zd hb N (zda N) z3o z2s TabOk.nil [0, 0, 1, 0, 1, 1] _ rfl) (fun i v r K => by kernel_rfl)

def z20 (N : Nat) (a : (List (Int × ((List UInt8) × (Int × (Int × ((List UInt8) × Unit))))))) (b : (List (Int × ((List UInt8) × (Int × (Int × ((List UInt8) × Unit))))))) : Option Bool :=
 cond ((((List.length a) : Nat) : Int) != (((List.length b) : Nat) : Int))
 (some false)
 (z6n N a b (0 : Int)
 (fun x4 => some x4)
 (some true))

def z6z (N : Nat) : Tab Bool := [([0, 1, 0, 1, 1], z6o N)]

theorem zbg (N : Nat) (x : z29 [(0, .v (.sl (.pair (.int .i64) (.pair .str (.pair (.int .i64) (.pair (.int .i64) (.pair .str .unit))))))), (0, .v (.sl (.pair (.int .i64) (.pair .str (.pair (.int .i64) (.pair (.int .i64) (.pair .str .unit)))))))]) : z9s (z2j N) N (z6z N) z3o Go.Proofs.Try.f10 (mkS [(0, .v (.sl (.pair (.int .i64) (.pair .str (.pair (.int .i64) (.pair (.int .i64) (.pair .str .unit))))))), (0, .v (.sl (.pair (.int .i64) (.pair .str (.pair (.int .i64) (.pair (.int .i64) (.pair .str .unit)))))))] 0 x) (z49 (.v .bool) 2) = z20 N x.1 x.2.1 := by kernel_rfl

def z5j (N : Nat) : List A -> Res := z1x [(0, .v (.sl (.pair (.int .i64) (.pair .str (.pair (.int .i64) (.pair (.int .i64) (.pair .str .unit))))))), (0, .v (.sl (.pair (.int .i64) (.pair .str (.pair (.int .i64) (.pair (.int .i64) (.pair .str .unit)))))))] (fun x => z20 N x.1 x.2.1) (z4j (.v .bool) 2)

theorem zdb (N : Nat) : Contract Go.Proofs.Try.prog zh 10 (z5j N) :=
  Contract.of (E := z2j N) (H := z6z N) (L := z3o) (N := N) (body := z2s) (K := (z49 (.v .bool) 2)) (zci N) Go.Proofs.Try.func10 (by kernel_rfl) (by decide) (fun _ hb => (TabOk.cons (zch hb) TabOk.nil)) (fun x y h => by rw [zbg]; exact h) (z1n (s := (.v .bool)) (m := 2))

def zgj : Code := (Go.Proofs.Try.f28.body).getD .skip

def zbw : List (List Nat × List Nat) := [([0], [0, 1, 2, 6]), ([0, 1], [6]), ([1, 1], [6])]

def z70 (N : Nat) : Env := z30 tys zh [] [] [] [] false [] []

theorem ziq (N : Nat) : EnvOk Go.Proofs.Try.prog (z70 N) := zz mixed z1w (FnsOk.nil) (ItsOk.nil)

def zeu (N : Nat) (tenant : (List UInt8)) (epoch : Int) (next : Int) : Option (Int × ((List UInt8) × (Int × (Int × ((List UInt8) × Unit))))) :=
 some ((1 : Int), (tenant, (next, (epoch, (([] : List UInt8), ())))))

def zbv (N : Nat) : Tab (Int × ((List UInt8) × (Int × (Int × ((List UInt8) × Unit))))) := []

theorem zgi (N : Nat) (x : z29 [(0, .v .str), (0, .v (.int .i64)), (0, .v (.int .i64))]) : z9s (z70 N) N (zbv N) zbw Go.Proofs.Try.f28 (mkS [(0, .v .str), (0, .v (.int .i64)), (0, .v (.int .i64))] 0 x) (z49 (.v (.pair (.int .i64) (.pair .str (.pair (.int .i64) (.pair (.int .i64) (.pair .str .unit)))))) 3) = zeu N x.1 x.2.1 x.2.2.1 := by kernel_rfl

def z9g (N : Nat) : List A -> Res := z1x [(0, .v .str), (0, .v (.int .i64)), (0, .v (.int .i64))] (fun x => zeu N x.1 x.2.1 x.2.2.1) (z4j (.v (.pair (.int .i64) (.pair .str (.pair (.int .i64) (.pair (.int .i64) (.pair .str .unit)))))) 3)

theorem zb2 (N : Nat) : Contract Go.Proofs.Try.prog zh 28 (z9g N) :=
  Contract.of (E := z70 N) (H := zbv N) (L := zbw) (N := N) (body := zgj) (K := (z49 (.v (.pair (.int .i64) (.pair .str (.pair (.int .i64) (.pair (.int .i64) (.pair .str .unit)))))) 3)) (ziq N) Go.Proofs.Try.func28 (by kernel_rfl) (by decide) (fun _ hb => TabOk.nil) (fun x y h => by rw [zgi]; exact h) (z1n (s := (.v (.pair (.int .i64) (.pair .str (.pair (.int .i64) (.pair (.int .i64) (.pair .str .unit))))))) (m := 3))

def zlm : Code := (Go.Proofs.Try.f29.body).getD .skip

def zgl : List (List Nat × List Nat) := [([0], [0, 1, 2, 6]), ([0, 1], [6]), ([1, 1], [6])]

def zb3 (N : Nat) : Env := z30 tys zh [] [] [] [] false [] []

theorem zmv (N : Nat) : EnvOk Go.Proofs.Try.prog (zb3 N) := zz mixed z1w (FnsOk.nil) (ItsOk.nil)

def zln (N : Nat) (tenant : (List UInt8)) (num : Int) (key : (List UInt8)) : Option (Int × ((List UInt8) × (Int × (Int × ((List UInt8) × Unit))))) :=
 some ((2 : Int), (tenant, (num, ((0 : Int), (key, ())))))

def zgk (N : Nat) : Tab (Int × ((List UInt8) × (Int × (Int × ((List UInt8) × Unit))))) := []

theorem zll (N : Nat) (x : z29 [(0, .v .str), (0, .v (.int .i64)), (0, .v .str)]) : z9s (zb3 N) N (zgk N) zgl Go.Proofs.Try.f29 (mkS [(0, .v .str), (0, .v (.int .i64)), (0, .v .str)] 0 x) (z49 (.v (.pair (.int .i64) (.pair .str (.pair (.int .i64) (.pair (.int .i64) (.pair .str .unit)))))) 3) = zln N x.1 x.2.1 x.2.2.1 := by kernel_rfl

def zdc (N : Nat) : List A -> Res := z1x [(0, .v .str), (0, .v (.int .i64)), (0, .v .str)] (fun x => zln N x.1 x.2.1 x.2.2.1) (z4j (.v (.pair (.int .i64) (.pair .str (.pair (.int .i64) (.pair (.int .i64) (.pair .str .unit)))))) 3)

theorem zev (N : Nat) : Contract Go.Proofs.Try.prog zh 29 (zdc N) :=
  Contract.of (E := zb3 N) (H := zgk N) (L := zgl) (N := N) (body := zlm) (K := (z49 (.v (.pair (.int .i64) (.pair .str (.pair (.int .i64) (.pair (.int .i64) (.pair .str .unit)))))) 3)) (zmv N) Go.Proofs.Try.func29 (by kernel_rfl) (by decide) (fun _ hb => TabOk.nil) (fun x y h => by rw [zll]; exact h) (z1n (s := (.v (.pair (.int .i64) (.pair .str (.pair (.int .i64) (.pair (.int .i64) (.pair .str .unit))))))) (m := 3))

end
end Go.Proofs.YtlohplpnhopldaaLg

set_option linter.all false
set_option maxRecDepth 100000
namespace Go.Proofs.YtlohplpnhopldaaLg
noncomputable section
open Go Go.Lift Go.Proofs.YtlohplpnhopldaaPx

abbrev z10g := Int × (List UInt8 × Unit)
abbrev zhk := List UInt8 × (Int × (Int × (List z10g × Unit)))

def zm1 (next : Int) : Int -> List z10g -> Bool
  | _, [] => true
  | last, k :: l => decide (last < k.1) && (decide (k.1 < next) && (decide (k.2.1.length = 32) && zm1 next k.1 l))

theorem z13i (N : Nat) {t : zhk} (hN : t.2.2.2.1.length < N) (hl : t.2.2.2.1.length <= 1000000) :
    z5r N t 0 t.2.2.2.1 ((t.2.2.2.1.length : Nat) : Int) 0 (fun x21 => some x21) (some true) = some (zm1 t.2.2.1 0 t.2.2.2.1) := by
  rw [z5r]
  refine (z3q (fun v => ∃ (i : Nat) (last : Int), v = (t, last, (i : Int)) /\ i <= t.2.2.2.1.length) (fun v => t.2.2.2.1.length - v.2.2.toNat) (fun v => some (zm1 t.2.2.1 v.2.1 (t.2.2.2.1.drop v.2.2.toNat))) ?_ N (t, 0, 0) ⟨0, 0, rfl, by omega⟩ (by simp only; omega)).trans (by rfl)
  rintro v r ⟨i, last, rfl, hi⟩ hr
  simp only [Int.toNat_natCast]
  rw [z5p]
  by_cases hlt : i < t.2.2.2.1.length
  . rw [zf (decide_eq_true (by omega)), zf (z1o hlt), z5q, Int.toNat_natCast, z3e t.2.2.2.1 ((0 : Int), (([] : List UInt8), ())) i hlt, zm1]
    generalize List.getD t.2.2.2.1 i ((0 : Int), (([] : List UInt8), ())) = k
    rw [zhb]
    by_cases h1 : last < k.1
    . rw [zf (decide_eq_true h1), Option.bind_some, decide_eq_true h1, Bool.true_and]
      dsimp only
      by_cases h2 : k.1 < t.2.2.1
      . rw [decide_eq_true h2, Bool.not_true, cond_false, Bool.true_and]
        by_cases h3 : k.2.1.length = 32
        . rw [show ((((List.length k.2.1) : Nat) : Int) != (32 : Int)) = false by rw [h3]; rfl, cond_false, z2h (by omega), decide_eq_true h3, Bool.true_and, hr _ ⟨i + 1, k.1, rfl, by omega⟩ (by simp only; omega)]
          simp only [Int.toNat_natCast]
        . rw [show ((((List.length k.2.1) : Nat) : Int) != (32 : Int)) = true by rw [bne_iff_ne]; omega, cond_true, decide_eq_false h3, Bool.false_and]
      . rw [decide_eq_false h2, Bool.not_false, cond_true, cond_true, Bool.false_and]
    . rw [zy (decide_eq_false h1), Option.bind_some, decide_eq_false h1]
      rfl
  . rw [zy (decide_eq_false (by omega)), z88 _ (by omega), zm1]

end
end Go.Proofs.YtlohplpnhopldaaLg
