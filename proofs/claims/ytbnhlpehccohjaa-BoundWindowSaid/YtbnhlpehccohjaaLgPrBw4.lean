import Derived.Test.YtbnhlpehccohjaaLgPrBw2
import Derived.Test.YtbnhlpehccohjaaLgPrBw3
import Derived.WalkKit
import Derived.Tactics
import Derived.Tactics2
import Derived.Defers
import Derived.Lib.Hide
import Derived.Below
import Derived.Recover
import Derived.Orders
import Derived.WalkSmall
import Derived.LoopN
import Derived.Deep.RegionHeld3
import Derived.Laws.IdiomStrings
import Derived.Test.YtbnhlpehccohjaaLgW
import Derived.Test.YtbnhlpehccohjaaChecked
import Derived.KernelRfl
set_option linter.all false
set_option maxRecDepth 100000
namespace Go.Proofs.YtbnhlpehccohjaaLg
noncomputable section
open Go Go.Lift

def ty3 : TyI := ⟨(Go.TypeDesc.int Go.IntKind.i64), 1, 8, (.int .i64), (0 : Int), false⟩

theorem z14b : TyOk Go.Proofs.Try.prog 3 ty3 := TyOk.of (by kernel_rfl) (by kernel_rfl) (by kernel_rfl) (by kernel_rfl)

def ty4 : TyI := ⟨Go.TypeDesc.bool, 1, 1, .bool, false, false⟩

theorem z14a : TyOk Go.Proofs.Try.prog 4 ty4 := TyOk.of (by kernel_rfl) (by kernel_rfl) (by kernel_rfl) (by kernel_rfl)

def ty5 : TyI := ⟨(Go.TypeDesc.int Go.IntKind.u8), 1, 1, (.int .u8), (0 : Int), false⟩

theorem z149 : TyOk Go.Proofs.Try.prog 5 ty5 := TyOk.of (by kernel_rfl) (by kernel_rfl) (by kernel_rfl) (by kernel_rfl)

def ty9 : TyI := ⟨Go.TypeDesc.string, 1, 16, .str, ([] : List UInt8), false⟩

theorem z148 : TyOk Go.Proofs.Try.prog 9 ty9 := TyOk.of (by kernel_rfl) (by kernel_rfl) (by kernel_rfl) (by kernel_rfl)

def ty21 : TyI := ⟨(Go.TypeDesc.int Go.IntKind.i32), 1, 4, (.int .i32), (0 : Int), false⟩

theorem z135 : TyOk Go.Proofs.Try.prog 21 ty21 := TyOk.of (by kernel_rfl) (by kernel_rfl) (by kernel_rfl) (by kernel_rfl)

def ty23 : TyI := ⟨(Go.TypeDesc.struct (List.toArray ([(Go.Field.mk "Name" 9 0 false "" "" 0), (Go.Field.mk "Cap" 3 1 false "" "" 16), (Go.Field.mk "Fill" 3 2 false "" "" 24)] : List Go.Field))), 3, 32, (.pair .str (.pair (.int .i64) (.pair (.int .i64) .unit))), (([] : List UInt8), (0 : Int), (0 : Int), ()), true⟩

theorem zxm : TyOk Go.Proofs.Try.prog 23 ty23 := TyOk.of (by kernel_rfl) (by kernel_rfl) (by kernel_rfl) (by kernel_rfl)

def ty24 : TyI := ⟨(Go.TypeDesc.slice 33), 1, 24, (.sl (.pair .str (.pair .str (.pair (.int .i64) .unit)))), ([] : List ((List UInt8) × ((List UInt8) × (Int × Unit)))), false⟩

theorem z134 : TyOk Go.Proofs.Try.prog 24 ty24 := TyOk.of (by kernel_rfl) (by kernel_rfl) (by kernel_rfl) (by kernel_rfl)

def ty25 : TyI := ⟨(Go.TypeDesc.array 2 3), 2, 16, (.arr 2 (.int .i64)), ([(0 : Int), (0 : Int)] : List Int), true⟩

theorem z133 : TyOk Go.Proofs.Try.prog 25 ty25 := TyOk.of (by kernel_rfl) (by kernel_rfl) (by kernel_rfl) (by kernel_rfl)

def ty26 : TyI := ⟨(Go.TypeDesc.pointer 42), 1, 8, .opq, (Go.Value.pointer none), false⟩

theorem z132 : TyOk Go.Proofs.Try.prog 26 ty26 := TyOk.of (by kernel_rfl) (by kernel_rfl) (by kernel_rfl) (by kernel_rfl)

def ty27 : TyI := ⟨(Go.TypeDesc.int Go.IntKind.i64), 1, 8, (.int .i64), (0 : Int), false⟩

theorem z131 : TyOk Go.Proofs.Try.prog 27 ty27 := TyOk.of (by kernel_rfl) (by kernel_rfl) (by kernel_rfl) (by kernel_rfl)

def ty30 : TyI := ⟨(Go.TypeDesc.slice 23), 1, 24, (.sl (.pair .str (.pair (.int .i64) (.pair (.int .i64) .unit)))), ([] : List ((List UInt8) × (Int × (Int × Unit)))), false⟩

theorem z130 : TyOk Go.Proofs.Try.prog 30 ty30 := TyOk.of (by kernel_rfl) (by kernel_rfl) (by kernel_rfl) (by kernel_rfl)

def ty33 : TyI := ⟨(Go.TypeDesc.struct (List.toArray ([(Go.Field.mk "Tenant" 9 0 false "" "" 0), (Go.Field.mk "Class" 9 1 false "" "" 16), (Go.Field.mk "Now" 3 2 false "" "" 32)] : List Go.Field))), 3, 40, (.pair .str (.pair .str (.pair (.int .i64) .unit))), (([] : List UInt8), ([] : List UInt8), (0 : Int), ()), true⟩

theorem z12z : TyOk Go.Proofs.Try.prog 33 ty33 := TyOk.of (by kernel_rfl) (by kernel_rfl) (by kernel_rfl) (by kernel_rfl)

def ty40 : TyI := ⟨(Go.TypeDesc.map 49 51), 1, 8, .opq, (Go.Value.map none), false⟩

theorem z12y : TyOk Go.Proofs.Try.prog 40 ty40 := TyOk.of (by kernel_rfl) (by kernel_rfl) (by kernel_rfl) (by kernel_rfl)

def ty42 : TyI := ⟨(Go.TypeDesc.struct (List.toArray ([(Go.Field.mk "classes" 30 0 false "" "porter/rate" 0), (Go.Field.mk "start" 3 1 false "" "porter/rate" 24), (Go.Field.mk "buckets" 40 2 false "" "porter/rate" 32)] : List Go.Field))), 3, 40, (.pair (.sl (.pair .str (.pair (.int .i64) (.pair (.int .i64) .unit)))) (.pair (.int .i64) (.pair .opq .unit))), (([] : List ((List UInt8) × (Int × (Int × Unit)))), (0 : Int), (Go.Value.map none), ()), true⟩

theorem z12x : TyOk Go.Proofs.Try.prog 42 ty42 := TyOk.of (by kernel_rfl) (by kernel_rfl) (by kernel_rfl) (by kernel_rfl)

def ty45 : TyI := ⟨(Go.TypeDesc.slice 75), 1, 24, (.sl (.pair .str (.pair (.int .i64) (.pair (.int .i64) (.pair (.sl (.pair (.int .i64) (.pair .str .unit))) .unit))))), ([] : List ((List UInt8) × (Int × (Int × ((List (Int × ((List UInt8) × Unit))) × Unit))))), false⟩

theorem z12w : TyOk Go.Proofs.Try.prog 45 ty45 := TyOk.of (by kernel_rfl) (by kernel_rfl) (by kernel_rfl) (by kernel_rfl)

def ty47 : TyI := ⟨(Go.TypeDesc.struct (List.toArray ([(Go.Field.mk "Tenants" 45 0 false "" "" 0), (Go.Field.mk "Serial" 3 1 false "" "" 24)] : List Go.Field))), 2, 32, (.pair (.sl (.pair .str (.pair (.int .i64) (.pair (.int .i64) (.pair (.sl (.pair (.int .i64) (.pair .str .unit))) .unit))))) (.pair (.int .i64) .unit)), (([] : List ((List UInt8) × (Int × (Int × ((List (Int × ((List UInt8) × Unit))) × Unit))))), (0 : Int), ()), true⟩

theorem z12v : TyOk Go.Proofs.Try.prog 47 ty47 := TyOk.of (by kernel_rfl) (by kernel_rfl) (by kernel_rfl) (by kernel_rfl)

def ty49 : TyI := ⟨(Go.TypeDesc.struct (List.toArray ([(Go.Field.mk "tenant" 9 0 false "" "porter/rate" 0), (Go.Field.mk "class" 9 1 false "" "porter/rate" 16)] : List Go.Field))), 2, 32, (.pair .str (.pair .str .unit)), (([] : List UInt8), ([] : List UInt8), ()), true⟩

theorem z12u : TyOk Go.Proofs.Try.prog 49 ty49 := TyOk.of (by kernel_rfl) (by kernel_rfl) (by kernel_rfl) (by kernel_rfl)

def ty51 : TyI := ⟨(Go.TypeDesc.struct (List.toArray ([(Go.Field.mk "Cap" 3 0 false "" "" 0), (Go.Field.mk "Fill" 3 1 false "" "" 8), (Go.Field.mk "Have" 3 2 false "" "" 16), (Go.Field.mk "At" 3 3 false "" "" 24)] : List Go.Field))), 4, 32, (.pair (.int .i64) (.pair (.int .i64) (.pair (.int .i64) (.pair (.int .i64) .unit)))), ((0 : Int), (0 : Int), (0 : Int), (0 : Int), ()), true⟩

theorem z12t : TyOk Go.Proofs.Try.prog 51 ty51 := TyOk.of (by kernel_rfl) (by kernel_rfl) (by kernel_rfl) (by kernel_rfl)

def ty54 : TyI := ⟨(Go.TypeDesc.func (List.toArray ([49] : List Nat)) (List.toArray ([51, 4] : List Nat)) false), 1, 8, .opq, Go.Value.nilFunc, false⟩

theorem z12s : TyOk Go.Proofs.Try.prog 54 ty54 := TyOk.of (by kernel_rfl) (by kernel_rfl) (by kernel_rfl) (by kernel_rfl)

def ty59 : TyI := ⟨(Go.TypeDesc.slice 77), 1, 24, (.sl (.pair (.int .i64) (.pair .str (.pair (.int .i64) (.pair (.int .i64) (.pair .str .unit)))))), ([] : List (Int × ((List UInt8) × (Int × (Int × ((List UInt8) × Unit)))))), false⟩

theorem z12r : TyOk Go.Proofs.Try.prog 59 ty59 := TyOk.of (by kernel_rfl) (by kernel_rfl) (by kernel_rfl) (by kernel_rfl)

def ty69 : TyI := ⟨(Go.TypeDesc.func (List.toArray ([21, 4] : List Nat)) (List.toArray ([4] : List Nat)) false), 1, 8, .opq, Go.Value.nilFunc, false⟩

theorem z12q : TyOk Go.Proofs.Try.prog 69 ty69 := TyOk.of (by kernel_rfl) (by kernel_rfl) (by kernel_rfl) (by kernel_rfl)

def ty71 : TyI := ⟨(Go.TypeDesc.func (List.toArray ([23] : List Nat)) (List.toArray ([4] : List Nat)) false), 1, 8, .opq, Go.Value.nilFunc, false⟩

theorem z12p : TyOk Go.Proofs.Try.prog 71 ty71 := TyOk.of (by kernel_rfl) (by kernel_rfl) (by kernel_rfl) (by kernel_rfl)

def ty73 : TyI := ⟨(Go.TypeDesc.slice 80), 1, 24, (.sl (.pair (.int .i64) (.pair .str .unit))), ([] : List (Int × ((List UInt8) × Unit))), false⟩

theorem z12o : TyOk Go.Proofs.Try.prog 73 ty73 := TyOk.of (by kernel_rfl) (by kernel_rfl) (by kernel_rfl) (by kernel_rfl)

def ty75 : TyI := ⟨(Go.TypeDesc.struct (List.toArray ([(Go.Field.mk "Name" 9 0 false "" "" 0), (Go.Field.mk "Epoch" 3 1 false "" "" 16), (Go.Field.mk "Next" 3 2 false "" "" 24), (Go.Field.mk "Keys" 73 3 false "" "" 32)] : List Go.Field))), 4, 56, (.pair .str (.pair (.int .i64) (.pair (.int .i64) (.pair (.sl (.pair (.int .i64) (.pair .str .unit))) .unit)))), (([] : List UInt8), (0 : Int), (0 : Int), ([] : List (Int × ((List UInt8) × Unit))), ()), true⟩

theorem z12n : TyOk Go.Proofs.Try.prog 75 ty75 := TyOk.of (by kernel_rfl) (by kernel_rfl) (by kernel_rfl) (by kernel_rfl)

def ty77 : TyI := ⟨(Go.TypeDesc.struct (List.toArray ([(Go.Field.mk "Kind" 3 0 false "" "" 0), (Go.Field.mk "Tenant" 9 1 false "" "" 8), (Go.Field.mk "Num" 3 2 false "" "" 24), (Go.Field.mk "Epoch" 3 3 false "" "" 32), (Go.Field.mk "Text" 9 4 false "" "" 40)] : List Go.Field))), 5, 56, (.pair (.int .i64) (.pair .str (.pair (.int .i64) (.pair (.int .i64) (.pair .str .unit))))), ((0 : Int), ([] : List UInt8), (0 : Int), (0 : Int), ([] : List UInt8), ()), true⟩

theorem z12m : TyOk Go.Proofs.Try.prog 77 ty77 := TyOk.of (by kernel_rfl) (by kernel_rfl) (by kernel_rfl) (by kernel_rfl)

def ty80 : TyI := ⟨(Go.TypeDesc.struct (List.toArray ([(Go.Field.mk "Num" 3 0 false "" "" 0), (Go.Field.mk "Text" 9 1 false "" "" 8)] : List Go.Field))), 2, 24, (.pair (.int .i64) (.pair .str .unit)), ((0 : Int), ([] : List UInt8), ()), true⟩

theorem z12l : TyOk Go.Proofs.Try.prog 80 ty80 := TyOk.of (by kernel_rfl) (by kernel_rfl) (by kernel_rfl) (by kernel_rfl)

def ty82 : TyI := ⟨(Go.TypeDesc.pointer 85), 1, 8, .opq, (Go.Value.pointer none), false⟩

theorem z12k : TyOk Go.Proofs.Try.prog 82 ty82 := TyOk.of (by kernel_rfl) (by kernel_rfl) (by kernel_rfl) (by kernel_rfl)

def ty83 : TyI := ⟨(Go.TypeDesc.slice 5), 1, 24, (.sl (.int .u8)), ([] : List Int), false⟩

theorem z12j : TyOk Go.Proofs.Try.prog 83 ty83 := TyOk.of (by kernel_rfl) (by kernel_rfl) (by kernel_rfl) (by kernel_rfl)

def ty85 : TyI := ⟨(Go.TypeDesc.struct (List.toArray ([(Go.Field.mk "addr" 82 0 false "" "strings" 0), (Go.Field.mk "buf" 83 1 false "" "strings" 8)] : List Go.Field))), 2, 32, (.pair .opq (.pair (.sl (.int .u8)) .unit)), ((Go.Value.pointer none), ([] : List Int), ()), true⟩

theorem z12i : TyOk Go.Proofs.Try.prog 85 ty85 := TyOk.of (by kernel_rfl) (by kernel_rfl) (by kernel_rfl) (by kernel_rfl)

def ty87 : TyI := ⟨(Go.TypeDesc.interface (List.toArray ([("Error", 94)] : List (String × Nat)))), 1, 16, .opq, Go.Value.nilIface, false⟩

theorem z12h : TyOk Go.Proofs.Try.prog 87 ty87 := TyOk.of (by kernel_rfl) (by kernel_rfl) (by kernel_rfl) (by kernel_rfl)

def ty91 : TyI := ⟨(Go.TypeDesc.int Go.IntKind.u64), 1, 8, (.int .u64), (0 : Int), false⟩

theorem z12g : TyOk Go.Proofs.Try.prog 91 ty91 := TyOk.of (by kernel_rfl) (by kernel_rfl) (by kernel_rfl) (by kernel_rfl)

def ty98 : TyI := ⟨(Go.TypeDesc.pointer 3), 1, 8, .opq, (Go.Value.pointer none), false⟩

theorem z12f : TyOk Go.Proofs.Try.prog 98 ty98 := TyOk.of (by kernel_rfl) (by kernel_rfl) (by kernel_rfl) (by kernel_rfl)

def ty99 : TyI := ⟨(Go.TypeDesc.array 2 98), 2, 16, (.arr 2 .opq), ([(Go.Value.pointer none), (Go.Value.pointer none)] : List Go.Value), true⟩

theorem z12e : TyOk Go.Proofs.Try.prog 99 ty99 := TyOk.of (by kernel_rfl) (by kernel_rfl) (by kernel_rfl) (by kernel_rfl)

def z14e : TyI := ⟨(Go.TypeDesc.pointer 77), 1, 8, .opq, (Go.Value.pointer none), false⟩

theorem z10b : TyOk Go.Proofs.Try.prog 101 z14e := TyOk.of (by kernel_rfl) (by kernel_rfl) (by kernel_rfl) (by kernel_rfl)

def z14d : TyI := ⟨(Go.TypeDesc.slice 98), 1, 24, (.sl .opq), ([] : List Go.Value), false⟩

theorem z10a : TyOk Go.Proofs.Try.prog 103 z14d := TyOk.of (by kernel_rfl) (by kernel_rfl) (by kernel_rfl) (by kernel_rfl)

def z14c : TyI := ⟨(Go.TypeDesc.int Go.IntKind.u64), 1, 8, (.int .u64), (0 : Int), false⟩

theorem z109 : TyOk Go.Proofs.Try.prog 108 z14c := TyOk.of (by kernel_rfl) (by kernel_rfl) (by kernel_rfl) (by kernel_rfl)

def tys : List (Nat × TyI) := [(3, ty3), (4, ty4), (5, ty5), (9, ty9), (21, ty21), (23, ty23), (24, ty24), (25, ty25), (26, ty26), (27, ty27), (30, ty30), (33, ty33), (40, ty40), (42, ty42), (45, ty45), (47, ty47), (49, ty49), (51, ty51), (54, ty54), (59, ty59), (69, ty69), (71, ty71), (73, ty73), (75, ty75), (77, ty77), (80, ty80), (82, ty82), (83, ty83), (85, ty85), (87, ty87), (91, ty91), (98, ty98), (99, ty99), (101, z14e), (103, z14d), (108, z14c)]

theorem z14 : TysOk Go.Proofs.Try.prog tys := TysOk.cons z14b (TysOk.cons z14a (TysOk.cons z149 (TysOk.cons z148 (TysOk.cons z135 (TysOk.cons zxm (TysOk.cons z134 (TysOk.cons z133 (TysOk.cons z132 (TysOk.cons z131 (TysOk.cons z130 (TysOk.cons z12z (TysOk.cons z12y (TysOk.cons z12x (TysOk.cons z12w (TysOk.cons z12v (TysOk.cons z12u (TysOk.cons z12t (TysOk.cons z12s (TysOk.cons z12r (TysOk.cons z12q (TysOk.cons z12p (TysOk.cons z12o (TysOk.cons z12n (TysOk.cons z12m (TysOk.cons z12l (TysOk.cons z12k (TysOk.cons z12j (TysOk.cons z12i (TysOk.cons z12h (TysOk.cons z12g (TysOk.cons z12f (TysOk.cons z12e (TysOk.cons z10b (TysOk.cons z10a (TysOk.cons z109 (TysOk.nil))))))))))))))))))))))))))))))))))))

theorem mixed : Go.Proofs.Try.prog.follows .mixedOrders = true := by kernel_rfl

def zm6 : Code := (Go.Proofs.Try.f44.body).getD .skip

def zj7 : List (List Nat × List Nat) := [([0], [0]), ([0, 1], [2]), ([1, 1], [2])]

def zc3 (N : Nat) : Env := z1x tys z9 [] [] [] [] false [] []

theorem zo0 (N : Nat) : EnvOk Go.Proofs.Try.prog (zc3 N) := zj mixed z14 (FnsOk.nil) (ItsOk.nil)

def zd5 (N : Nat) (c : Int) : Option Bool :=
 cond (decide ((48 : Int) <= c))
 (some (decide (c <= (57 : Int))))
 (some false)

def zj6 (N : Nat) : Tab Bool := []

theorem zm5 (N : Nat) (x : z1j [(0, .v (.int .i32))]) : z60 (zc3 N) N (zj6 N) zj7 Go.Proofs.Try.f44 (mkS [(0, .v (.int .i32))] 0 x) (z2d (.v .bool) 1) = zd5 N x.1 := by kernel_rfl

def zdx (N : Nat) : List A -> Res := z17 [(0, .v (.int .i32))] (fun x => zd5 N x.1) (z5v (.v .bool) 1)

theorem zqp (N : Nat) : Contract Go.Proofs.Try.prog z9 44 (zdx N) :=
  Contract.of (E := zc3 N) (H := zj6 N) (L := zj7) (N := N) (body := zm6) (K := (z2d (.v .bool) 1)) (zo0 N) Go.Proofs.Try.func44 (by kernel_rfl) (by decide) (fun _ hb => TabOk.nil) (fun x y h => by rw [zm5]; exact h) (zw (s := (.v .bool)) (m := 1))

def z4o : Code := (Go.Proofs.Try.f32.body).getD .skip

def z7j : List (List Nat × List Nat) := [([0], [0, 1]), ([0, 1], [5, 0, 1]), ([0, 1, 1], [4]), ([1, 1, 1], [4])]

def z4p (N : Nat) : Env := z1x tys z9 [(44, zdx N)] [] [] [] false [] []

theorem zhz (N : Nat) : EnvOk Go.Proofs.Try.prog (z4p N) := zj mixed z14 (FnsOk.cons (zqp N) (FnsOk.nil)) (ItsOk.nil)

def z5w (N : Nat) (c : Int) (first : Bool) (k0 : Bool -> Option Bool) : Option Bool :=
 cond (decide ((97 : Int) <= c))
 (k0 (decide (c <= (122 : Int))))
 (k0 false)

def zas (N : Nat) (x : z1j [(0, .v (.int .i32)), (0, .v .bool)]) (K : Ex -> List A -> Option Bool) : Option Bool :=
 z5w N x.1 x.2.1 (fun a2 => (K .normal (mkS [(0, .v (.int .i32)), (0, .v .bool), (3, .v .bool)] 19 (x.1, x.2.1, a2, ()))))

def zar (N : Nat) : Hd Bool := fun st K => (unS [(0, .v (.int .i32)), (0, .v .bool)] 23 (restr [0, 1] 0 st)).bind fun x => zas N x K

def zk7 (N : Nat) : Tab Bool := []

theorem zhy {N : Nat} {c : Ctx} (hb : Base Go.Proofs.Try.prog (z4p N) c) : zy Go.Proofs.Try.prog c (zi z4o [0, 1]) (zar N) :=
  z10 (s := [(0, .v (.int .i32)), (0, .v .bool)]) (m := 23) (g := zas N) [0, 1] (zd hb N (zk7 N) z7j z4o TabOk.nil [0, 1] _ rfl) (fun x K => by kernel_rfl)

def z4q (N : Nat) (c : Int) (first : Bool) : Option Bool :=
 z5w N c first
 (fun letter => cond letter
 (some true)
 ((zd5 N c).bind fun y =>
 cond y
 (some (!first))
 (cond (c == (45 : Int))
 (some (!first))
 (some false))))

def zc2 (N : Nat) : Tab Bool := [([0, 1], zar N)]

theorem zgl (N : Nat) (x : z1j [(0, .v (.int .i32)), (0, .v .bool)]) : z60 (z4p N) N (zc2 N) z7j Go.Proofs.Try.f32 (mkS [(0, .v (.int .i32)), (0, .v .bool)] 0 x) (z2d (.v .bool) 2) = z4q N x.1 x.2.1 := by kernel_rfl

def z56 (N : Nat) : List A -> Res := z17 [(0, .v (.int .i32)), (0, .v .bool)] (fun x => z4q N x.1 x.2.1) (z5v (.v .bool) 2)

theorem zat (N : Nat) : Contract Go.Proofs.Try.prog z9 32 (z56 N) :=
  Contract.of (E := z4p N) (H := zc2 N) (L := z7j) (N := N) (body := z4o) (K := (z2d (.v .bool) 2)) (zhz N) Go.Proofs.Try.func32 (by kernel_rfl) (by decide) (fun _ hb => (TabOk.cons (zhy hb) TabOk.nil)) (fun x y h => by rw [zgl]; exact h) (zw (s := (.v .bool)) (m := 2))

def z1g : Code := (Go.Proofs.Try.f31.body).getD .skip

def z3b : List (List Nat × List Nat) := [([0], [0, 1]), ([0, 0, 1], [13, 0, 1]), ([1, 0, 1], [0, 1]), ([0, 0, 1, 0, 1], [4]), ([1, 0, 1, 0, 1], [4]), ([0, 0, 1, 1], [15, 1]), ([0, 1, 0, 1, 1], [15, 1]), ([0, 0, 0, 1, 0, 1, 1], [17, 16, 1, 15]), ([0, 1, 0, 0, 1, 0, 1, 1], [16, 1, 15]), ([1, 0, 1, 0, 0, 1, 0, 1, 1], []), ([0, 0, 1, 1, 0, 0, 1, 0, 1, 1], [1, 6, 5, 15]), ([0, 1, 0, 1, 1, 0, 0, 1, 0, 1, 1], [25, 15, 1]), ([1, 1, 0, 1, 1, 0, 0, 1, 0, 1, 1], [15, 1]), ([0, 0, 1, 1, 0, 1, 1, 0, 0, 1, 0, 1, 1], [4]), ([1, 0, 1, 1, 0, 1, 1, 0, 0, 1, 0, 1, 1], [4]), ([1, 1, 0, 0, 1, 0, 1, 1], [15, 1]), ([1, 0, 1, 1], []), ([0, 1, 1, 1], [4]), ([1, 1, 1, 1], [4])]

def z2f (N : Nat) : Env := z1x tys z9 [(32, z56 N)] [] [] [] false [] []

theorem zi3 (N : Nat) : EnvOk Go.Proofs.Try.prog (z2f N) := zj mixed z14 (FnsOk.cons (zat N) (FnsOk.nil)) (ItsOk.nil)

def z5y (N : Nat) (s : (List UInt8)) (k0 : Bool -> Option Bool) : Option Bool :=
 cond (s == ([] : List UInt8))
 (k0 true)
 (k0 (decide ((32 : Int) < (((List.length s) : Nat) : Int))))

def zaz (N : Nat) (x : z1j [(0, .v .str), (0, .fnc 32)]) (K : Ex -> List A -> Option Bool) : Option Bool :=
 z5y N x.1 (fun a1 => (K .normal (mkS [(0, .v .str), (0, .fnc 32), (11, .v .bool)] 12 (x.1, (), a1, ()))))

def zaw (N : Nat) : Hd Bool := fun st K => (unS [(0, .v .str), (0, .fnc 32)] 24 (restr [0, 1] 0 st)).bind fun x => zaz N x K

def zk9 (N : Nat) : Tab Bool := []

theorem zi1 {N : Nat} {c : Ctx} (hb : Base Go.Proofs.Try.prog (z2f N) c) : zy Go.Proofs.Try.prog c (zi z1g [0, 0, 1]) (zaw N) :=
  z10 (s := [(0, .v .str), (0, .fnc 32)]) (m := 24) (g := zaz N) [0, 1] (zd hb N (zk9 N) z3b z1g TabOk.nil [0, 0, 1] _ rfl) (fun x K => by kernel_rfl)

def z5z (N : Nat) (s : (List UInt8)) (k0 : Bool -> Option Bool) (k1 : Option Bool) : Option Bool :=
 z5y N s
 (fun x13 => cond x13
 (k0 false)
 (k1))

def zb0 (N : Nat) (x : z1j [(0, .v .str), (0, .fnc 32)]) (K : Ex -> List A -> Option Bool) : Option Bool :=
 z5z N x.1 (fun a0 => (K .ret (mkS [(4, .v .bool)] 21 (a0, ())))) (K .normal (mkS [(0, .v .str), (0, .fnc 32)] 24 (x.1, (), ())))

def zax (N : Nat) : Hd Bool := fun st K => (unS [(0, .v .str), (0, .fnc 32)] 24 (restr [0, 1] 0 st)).bind fun x => zb0 N x K

def zka (N : Nat) : Tab Bool := [([0, 0, 1], zaw N)]

theorem zi2 {N : Nat} {c : Ctx} (hb : Base Go.Proofs.Try.prog (z2f N) c) : zy Go.Proofs.Try.prog c (zi z1g [0, 1]) (zax N) :=
  z10 (s := [(0, .v .str), (0, .fnc 32)]) (m := 24) (g := zb0 N) [0, 1] (zd hb N (zka N) z3b z1g (TabOk.cons (zi1 hb) TabOk.nil) [0, 1] _ rfl) (fun x K => by kernel_rfl)

def z5x (N : Nat) (x15 : (List UInt8 × Nat)) (rec : (List UInt8 × Nat) -> Option Bool) (k0 : Bool -> Option Bool) (k1 : Option Bool) : Option Bool :=
 cond (decide (x15.2 < (List.length x15.1)))
 ((z4q N (((Go.Lift.runeAt x15.1 x15.2).1 : Nat) : Int) (((x15.2 : Nat) : Int) == (0 : Int))).bind fun y =>
 cond (!y)
 (k0 false)
 (rec (x15.1, (x15.2 + (Go.Lift.runeAt x15.1 x15.2).2))))
 (k1)

def zau (N : Nat) (x15 : (List UInt8 × Nat)) (k0 : Bool -> Option Bool) (k1 : Option Bool) : Option Bool :=
 iter (fun (v : (List UInt8 × Nat)) r => z5x N v (fun x15 => (r x15)) k0 k1) N x15

def zay (N : Nat) (i : Unit) (v : (List UInt8 × Nat)) (r : (List UInt8 × Nat) -> Option Bool) (K : Ex -> List A -> Option Bool) : Option Bool :=
 z5x N v (fun x15 => (r x15)) (fun a0 => (K .ret (mkS [(4, .v .bool)] 21 (a0, ())))) (K (.exit 0) (mkS [] 26 ()))

def zav (N : Nat) : Hd Bool := fun st K => (unS [(1, .fnc 32), (13, .iter)] 10 (restr [15, 1] 0 st)).bind fun x => iter (fun v r => zay N ((fun x => ()) x) v r K) N ((fun x => x.2.1) x)

def zk8 (N : Nat) : Tab Bool := []

theorem zi0 {N : Nat} {c : Ctx} (hb : Base Go.Proofs.Try.prog (z2f N) c) : zy Go.Proofs.Try.prog c (zi z1g [0, 1, 0, 1, 1]) (zav N) :=
  z7m (s := [(1, .fnc 32), (13, .iter)]) (m := 10) (zay N) [15, 1] N (fun x => ()) (fun x => x.2.1) (fun i v => ((), v, ())) (fun _ => rfl) (zd hb N (zk8 N) z3b z1g TabOk.nil [0, 0, 1, 0, 1, 1] _ rfl) (fun i v r K => by kernel_rfl)

def z4r (N : Nat) (s : (List UInt8)) : Option Bool :=
 z5z N s
 (fun x4 => some x4)
 (zau N (s, 0)
 (fun x41 => some x41)
 (some true))

def zc4 (N : Nat) : Tab Bool := [([0, 1], zax N), ([0, 1, 0, 1, 1], zav N)]

theorem zgm (N : Nat) (x : z1j [(0, .v .str), (0, .fnc 32)]) : z60 (z2f N) N (zc4 N) z3b Go.Proofs.Try.f31 (mkS [(0, .v .str), (0, .fnc 32)] 0 x) (z2d (.v .bool) 2) = z4r N x.1 := by kernel_rfl

def z9d (N : Nat) : List A -> Res := z17 [(0, .v .str), (0, .fnc 32)] (fun x => z4r N x.1) (z5v (.v .bool) 2)

theorem zkb (N : Nat) : Contract Go.Proofs.Try.prog z9 31 (z9d N) :=
  Contract.of (E := z2f N) (H := zc4 N) (L := z3b) (N := N) (body := z1g) (K := (z2d (.v .bool) 2)) (zi3 N) Go.Proofs.Try.func31 (by kernel_rfl) (by decide) (fun _ hb => (TabOk.cons (zi2 hb) (TabOk.cons (zi0 hb) TabOk.nil))) (fun x y h => by rw [zgm]; exact h) (zw (s := (.v .bool)) (m := 2))

def zo2 : Code := (Go.Proofs.Try.f20.body).getD .skip

def zm8 : List (List Nat × List Nat) := [([0], [0]), ([0, 1], [2]), ([1, 1], [2])]

def zet (N : Nat) : Env := z1x tys z9 [(31, z9d N), (32, z56 N)] [] [] [] false [] []

theorem zqq (N : Nat) : EnvOk Go.Proofs.Try.prog (zet N) := zj mixed z14 (FnsOk.cons (zkb N) (FnsOk.cons (zat N) (FnsOk.nil))) (ItsOk.nil)

def z7k (N : Nat) (s : (List UInt8)) : Option Bool :=
 (z4r N s).bind fun y =>
 some y

def zm7 (N : Nat) : Tab Bool := []

theorem zo1 (N : Nat) (x : z1j [(0, .v .str)]) : z60 (zet N) N (zm7 N) zm8 Go.Proofs.Try.f20 (mkS [(0, .v .str)] 0 x) (z2d (.v .bool) 1) = z7k N x.1 := by kernel_rfl

def z6c (N : Nat) : List A -> Res := z17 [(0, .v .str)] (fun x => z7k N x.1) (z5v (.v .bool) 1)

theorem zc5 (N : Nat) : Contract Go.Proofs.Try.prog z9 20 (z6c N) :=
  Contract.of (E := zet N) (H := zm7 N) (L := zm8) (N := N) (body := zo2) (K := (z2d (.v .bool) 1)) (zqq N) Go.Proofs.Try.func20 (by kernel_rfl) (by decide) (fun _ hb => TabOk.nil) (fun x y h => by rw [zo1]; exact h) (zw (s := (.v .bool)) (m := 1))

def zk3 : Code := (Go.Proofs.Try.f9.body).getD .skip

def zfy : List (List Nat × List Nat) := [([0], [0]), ([0, 1], [2]), ([1, 1], [2])]

def z9x (N : Nat) : Env := z1x tys z9 [] [] [] [] false [] []

theorem zlp (N : Nat) : EnvOk Go.Proofs.Try.prog (z9x N) := zj mixed z14 (FnsOk.nil) (ItsOk.nil)

def z46 (N : Nat) (n : Int) : Option Bool :=
 cond (decide ((0 : Int) <= n))
 (some (decide (n <= (1099511627776 : Int))))
 (some false)

def zfx (N : Nat) : Tab Bool := []

theorem zk2 (N : Nat) (x : z1j [(0, .v (.int .i64))]) : z60 (z9x N) N (zfx N) zfy Go.Proofs.Try.f9 (mkS [(0, .v (.int .i64))] 0 x) (z2d (.v .bool) 1) = z46 N x.1 := by kernel_rfl

def z6y (N : Nat) : List A -> Res := z17 [(0, .v (.int .i64))] (fun x => z46 N x.1) (z5v (.v .bool) 1)

theorem zds (N : Nat) : Contract Go.Proofs.Try.prog z9 9 (z6y N) :=
  Contract.of (E := z9x N) (H := zfx N) (L := zfy) (N := N) (body := zk3) (K := (z2d (.v .bool) 1)) (zlp N) Go.Proofs.Try.func9 (by kernel_rfl) (by decide) (fun _ hb => TabOk.nil) (fun x y h => by rw [zk2]; exact h) (zw (s := (.v .bool)) (m := 1))

def zk5 : Code := (Go.Proofs.Try.f34.body).getD .skip

def zg0 : List (List Nat × List Nat) := [([0], [2, 1]), ([0, 1], [3]), ([1, 1], [3])]

def z9z (N : Nat) : Env := z1x tys z9 [] [] [] [] false [] []

theorem zls (N : Nat) : EnvOk Go.Proofs.Try.prog (z9z N) := zj mixed z14 (FnsOk.nil) (ItsOk.nil)

def zlt (N : Nat) (c : ((List UInt8) × (Int × (Int × Unit)))) (x1 : (List UInt8)) : Option Bool :=
 some (c.1 == x1)

def zfz (N : Nat) : Tab Bool := []

theorem zk4 (N : Nat) (x : z1j [(0, .v (.pair .str (.pair (.int .i64) (.pair (.int .i64) .unit)))), (0, .v (.ptr .str))]) : z60 (z9z N) N (zfz N) zg0 Go.Proofs.Try.f34 (mkS [(0, .v (.pair .str (.pair (.int .i64) (.pair (.int .i64) .unit)))), (0, .v (.ptr .str))] 0 x) (z2d (.v .bool) 2) = zlt N x.1 x.2.1 := by kernel_rfl

def z6z (N : Nat) : List A -> Res := z17 [(0, .v (.pair .str (.pair (.int .i64) (.pair (.int .i64) .unit)))), (0, .v (.ptr .str))] (fun x => zlt N x.1 x.2.1) (z5v (.v .bool) 2)

theorem zdt (N : Nat) : Contract Go.Proofs.Try.prog z9 34 (z6z N) :=
  Contract.of (E := z9z N) (H := zfz N) (L := zg0) (N := N) (body := zk5) (K := (z2d (.v .bool) 2)) (zls N) Go.Proofs.Try.func34 (by kernel_rfl) (by decide) (fun _ hb => TabOk.nil) (fun x y h => by rw [zk4]; exact h) (zw (s := (.v .bool)) (m := 2))

def z7o : Code := (Go.Proofs.Try.f33.body).getD .skip

def zc7 : List (List Nat × List Nat) := [([0], [0, 1]), ([0, 0, 1], [8, 7, 1, 0]), ([0, 1, 0, 1], [8, 7, 1, 0]), ([0, 0, 0, 1, 0, 1], [9, 8, 1, 0, 7]), ([0, 1, 0, 0, 1, 0, 1], [8, 1, 0, 7]), ([1, 0, 1, 0, 0, 1, 0, 1], []), ([0, 0, 0, 1, 1, 0, 0, 1, 0, 1], [1, 0, 5, 8, 7]), ([0, 1, 0, 0, 1, 1, 0, 0, 1, 0, 1], [16, 5, 8, 7, 1, 0]), ([1, 1, 0, 0, 1, 1, 0, 0, 1, 0, 1], [8, 7, 1, 0]), ([0, 0, 1, 1, 0, 0, 1, 1, 0, 0, 1, 0, 1], [4]), ([1, 0, 1, 1, 0, 0, 1, 1, 0, 0, 1, 0, 1], [4]), ([0, 1, 1, 0, 0, 1, 0, 1], [8, 7, 1, 0]), ([1, 1, 1, 0, 0, 1, 0, 1], [8, 7, 1, 0]), ([1, 0, 1], []), ([0, 1, 1], [4]), ([1, 1, 1], [4])]

def z8g (N : Nat) : Env := z1x tys z9 [(34, z6z N)] [] [] [] false [] []

theorem zo8 (N : Nat) : EnvOk Go.Proofs.Try.prog (z8g N) := zj mixed z14 (FnsOk.cons (zdt N) (FnsOk.nil)) (ItsOk.nil)

def zac (N : Nat) (s : (List ((List UInt8) × (Int × (Int × Unit))))) (f : ((List UInt8) × Unit)) (x7 : Int) (x8 : Int) (rec : Int -> Option Int) (k0 : Int -> Option Int) (k1 : Option Int) : Option Int :=
 cond (decide (x8 < x7))
 (cond (Go.Lift.inR x8 (List.length s))
 (cond ((List.getD s (Int.toNat x8) (([] : List UInt8), ((0 : Int), ((0 : Int), ())))).1 == f.1)
 (k0 x8)
 (rec (Go.IntKind.wrap Go.IntKind.i64 (x8 + (1 : Int)))))
 (none))
 (k1)

def zgp (N : Nat) (s : (List ((List UInt8) × (Int × (Int × Unit))))) (f : ((List UInt8) × Unit)) (x7 : Int) (x8 : Int) (k0 : Int -> Option Int) (k1 : Option Int) : Option Int :=
 iter (fun (v : Int) r => zac N s f x7 v (fun x8 => (r x8)) k0 k1) N x8

def zgr (N : Nat) (i : ((List ((List UInt8) × (Int × (Int × Unit)))) × ((List UInt8) × Unit) × Int)) (v : Int) (r : Int -> Option Int) (K : Ex -> List A -> Option Int) : Option Int :=
 zac N i.1 i.2.1 i.2.2 v (fun x8 => (r x8)) (fun a0 => (K .ret (mkS [(4, .v (.int .i64))] 14 (a0, ())))) (K (.exit 0) (mkS [] 19 ()))

def zgq (N : Nat) : Hd Int := fun st K => (unS [(0, .v (.sl (.pair .str (.pair (.int .i64) (.pair (.int .i64) .unit))))), (0, .v (.fn 34 (.pair (.ptr .str) .unit))), (5, .v (.int .i64)), (0, .v (.int .i64))] 10 (restr [8, 7, 1, 0] 0 st)).bind fun x => iter (fun v r => zgr N ((fun x => (x.1, x.2.1, x.2.2.1)) x) v r K) N ((fun x => x.2.2.2.1) x)

def zqw (N : Nat) : Tab Int := []

theorem zo7 {N : Nat} {c : Ctx} (hb : Base Go.Proofs.Try.prog (z8g N) c) : zy Go.Proofs.Try.prog c (zi z7o [0, 1, 0, 1]) (zgq N) :=
  z7m (s := [(0, .v (.sl (.pair .str (.pair (.int .i64) (.pair (.int .i64) .unit))))), (0, .v (.fn 34 (.pair (.ptr .str) .unit))), (5, .v (.int .i64)), (0, .v (.int .i64))]) (m := 10) (zgr N) [8, 7, 1, 0] N (fun x => (x.1, x.2.1, x.2.2.1)) (fun x => x.2.2.2.1) (fun i v => (i.1, i.2.1, i.2.2, v, ())) (fun _ => rfl) (zd hb N (zqw N) zc7 z7o TabOk.nil [0, 0, 1, 0, 1] _ rfl) (fun i v r K => by kernel_rfl)

def zd6 (N : Nat) (s : (List ((List UInt8) × (Int × (Int × Unit))))) (f : ((List UInt8) × Unit)) : Option Int :=
 zgp N s f (((List.length s) : Nat) : Int) (0 : Int)
 (fun x4 => some x4)
 (some (-(1 : Int)))

def zjc (N : Nat) : Tab Int := [([0, 1, 0, 1], zgq N)]

theorem zmf (N : Nat) (x : z1j [(0, .v (.sl (.pair .str (.pair (.int .i64) (.pair (.int .i64) .unit))))), (0, .v (.fn 34 (.pair (.ptr .str) .unit)))]) : z60 (z8g N) N (zjc N) zc7 Go.Proofs.Try.f33 (mkS [(0, .v (.sl (.pair .str (.pair (.int .i64) (.pair (.int .i64) .unit))))), (0, .v (.fn 34 (.pair (.ptr .str) .unit)))] 0 x) (z2d (.v (.int .i64)) 2) = zd6 N x.1 x.2.1 := by kernel_rfl

def zdy (N : Nat) : List A -> Res := z17 [(0, .v (.sl (.pair .str (.pair (.int .i64) (.pair (.int .i64) .unit))))), (0, .v (.fn 34 (.pair (.ptr .str) .unit)))] (fun x => zd6 N x.1 x.2.1) (z5v (.v (.int .i64)) 2)

theorem zqx (N : Nat) : Contract Go.Proofs.Try.prog z9 33 (zdy N) :=
  Contract.of (E := z8g N) (H := zjc N) (L := zc7) (N := N) (body := z7o) (K := (z2d (.v (.int .i64)) 2)) (zo8 N) Go.Proofs.Try.func33 (by kernel_rfl) (by decide) (fun _ hb => (TabOk.cons (zo7 hb) TabOk.nil)) (fun x y h => by rw [zmf]; exact h) (zw (s := (.v (.int .i64))) (m := 2))

def znr : Code := (Go.Proofs.Try.f21.body).getD .skip

def zlr : List (List Nat × List Nat) := [([0], [0, 3]), ([0, 1], [4]), ([1, 1], [4])]

def zep (N : Nat) : Env := z1x tys z9 [(33, zdy N), (34, z6z N)] [] [] [] false [] []

theorem zqa (N : Nat) : EnvOk Go.Proofs.Try.prog (zep N) := zj mixed z14 (FnsOk.cons (zqx N) (FnsOk.cons (zdt N) (FnsOk.nil))) (ItsOk.nil)

def z70 (N : Nat) (l : (List ((List UInt8) × (Int × (Int × Unit))))) (class_ : (List UInt8)) : Option Int :=
 (zd6 N l (class_, ())).bind fun y =>
 some y

def zlq (N : Nat) : Tab Int := []

theorem znq (N : Nat) (x : z1j [(0, .v (.sl (.pair .str (.pair (.int .i64) (.pair (.int .i64) .unit))))), (0, .v .str)]) : z60 (zep N) N (zlq N) zlr Go.Proofs.Try.f21 (mkS [(0, .v (.sl (.pair .str (.pair (.int .i64) (.pair (.int .i64) .unit))))), (0, .v .str)] 0 x) (z2d (.v (.int .i64)) 2) = z70 N x.1 x.2.1 := by kernel_rfl

def z9y (N : Nat) : List A -> Res := z17 [(0, .v (.sl (.pair .str (.pair (.int .i64) (.pair (.int .i64) .unit))))), (0, .v .str)] (fun x => z70 N x.1 x.2.1) (z5v (.v (.int .i64)) 2)

theorem zj1 (N : Nat) : Contract Go.Proofs.Try.prog z9 21 (z9y N) :=
  Contract.of (E := zep N) (H := zlq N) (L := zlr) (N := N) (body := znr) (K := (z2d (.v (.int .i64)) 2)) (zqa N) Go.Proofs.Try.func21 (by kernel_rfl) (by decide) (fun _ hb => TabOk.nil) (fun x y h => by rw [znq]; exact h) (zw (s := (.v (.int .i64))) (m := 2))

def z39 : Code := (Go.Proofs.Try.f8.body).getD .skip

def z8b : List (List Nat × List Nat) := [([0], [0]), ([0, 0, 1], [7, 0]), ([1, 0, 1], [0]), ([0, 0, 1, 0, 1], [2]), ([1, 0, 1, 0, 1], [2]), ([0, 0, 1, 1], [10, 9, 8, 0]), ([0, 1, 0, 1, 1], [10, 9, 8, 0]), ([0, 0, 0, 1, 0, 1, 1], [11, 10, 8, 0, 9]), ([0, 1, 0, 0, 1, 0, 1, 1], [10, 8, 0, 9]), ([1, 0, 1, 0, 0, 1, 0, 1, 1], []), ([0, 0, 0, 1, 1, 0, 0, 1, 0, 1, 1], [4, 0, 3, 10, 9, 8]), ([0, 0, 1, 0, 0, 1, 1, 0, 0, 1, 0, 1, 1], [15, 4, 0, 3, 10, 9, 8]), ([1, 0, 1, 0, 0, 1, 1, 0, 0, 1, 0, 1, 1], [10, 9, 8, 0]), ([0, 1, 1, 0, 1, 0, 0, 1, 1, 0, 0, 1, 0, 1, 1], [20, 0, 3, 4, 10, 9, 8]), ([1, 1, 1, 0, 1, 0, 0, 1, 1, 0, 0, 1, 0, 1, 1], [10, 9, 8, 0]), ([0, 1, 1, 1, 1, 0, 1, 0, 0, 1, 1, 0, 0, 1, 0, 1, 1], [31, 10, 9, 8, 0]), ([1, 1, 1, 1, 1, 0, 1, 0, 0, 1, 1, 0, 0, 1, 0, 1, 1], [10, 9, 8, 0]), ([0, 0, 1, 1, 1, 1, 1, 0, 1, 0, 0, 1, 1, 0, 0, 1, 0, 1, 1], [2]), ([1, 0, 1, 1, 1, 1, 1, 0, 1, 0, 0, 1, 1, 0, 0, 1, 0, 1, 1], [2]), ([0, 0, 1, 1, 1, 0, 1, 0, 0, 1, 1, 0, 0, 1, 0, 1, 1], [2]), ([1, 0, 1, 1, 1, 0, 1, 0, 0, 1, 1, 0, 0, 1, 0, 1, 1], [2]), ([0, 0, 1, 0, 1, 0, 0, 1, 1, 0, 0, 1, 0, 1, 1], [2]), ([1, 0, 1, 0, 1, 0, 0, 1, 1, 0, 0, 1, 0, 1, 1], [2]), ([1, 0, 0, 1, 1, 0, 0, 1, 0, 1, 1], [10, 9, 8, 0]), ([0, 1, 1, 0, 0, 1, 0, 1, 1], [10, 9, 8, 0]), ([1, 1, 1, 0, 0, 1, 0, 1, 1], [10, 9, 8, 0]), ([1, 0, 1, 1], []), ([0, 1, 1, 1], [2]), ([1, 1, 1, 1], [2])]

def z5l (N : Nat) : Env := z1x tys z9 [(21, z9y N), (9, z6y N), (20, z6c N)] [] [] [] false [] []

theorem znu (N : Nat) : EnvOk Go.Proofs.Try.prog (z5l N) := zj mixed z14 (FnsOk.cons (zj1 N) (FnsOk.cons (zds N) (FnsOk.cons (zc5 N) (FnsOk.nil)))) (ItsOk.nil)

def za5 (N : Nat) (l : (List ((List UInt8) × (Int × (Int × Unit))))) (i : Int) (c : ((List UInt8) × (Int × (Int × Unit)))) (x8 : (List ((List UInt8) × (Int × (Int × Unit))))) (x9 : Int) (x10 : Int) (k0 : Bool -> Option Int) : Option Int :=
 (z46 N c.2.1).bind fun y =>
 cond (!y)
 (k0 true)
 ((z46 N c.2.2.1).bind fun y1 =>
 k0 (!y1))

def zg6 (N : Nat) (x : z1j [(0, .v (.sl (.pair .str (.pair (.int .i64) (.pair (.int .i64) .unit))))), (2, .v (.int .i64)), (0, .box (.pair .str (.pair (.int .i64) (.pair (.int .i64) .unit)))), (3, .v (.sl (.pair .str (.pair (.int .i64) (.pair (.int .i64) .unit))))), (0, .v (.int .i64)), (0, .v (.int .i64))]) (K : Ex -> List A -> Option Int) : Option Int :=
 za5 N x.1 x.2.1 x.2.2.1 x.2.2.2.1 x.2.2.2.2.1 x.2.2.2.2.2.1 (fun a6 => (K .normal (mkS [(0, .v (.sl (.pair .str (.pair (.int .i64) (.pair (.int .i64) .unit))))), (2, .v (.int .i64)), (0, .box (.pair .str (.pair (.int .i64) (.pair (.int .i64) .unit)))), (3, .v (.sl (.pair .str (.pair (.int .i64) (.pair (.int .i64) .unit))))), (0, .v (.int .i64)), (0, .v (.int .i64)), (9, .v .bool)] 19 (x.1, x.2.1, x.2.2.1, x.2.2.2.1, x.2.2.2.2.1, x.2.2.2.2.2.1, a6, ()))))

def zg4 (N : Nat) : Hd Int := fun st K => (unS [(0, .v (.sl (.pair .str (.pair (.int .i64) (.pair (.int .i64) .unit))))), (2, .v (.int .i64)), (0, .box (.pair .str (.pair (.int .i64) (.pair (.int .i64) .unit)))), (3, .v (.sl (.pair .str (.pair (.int .i64) (.pair (.int .i64) .unit))))), (0, .v (.int .i64)), (0, .v (.int .i64))] 29 (restr [4, 0, 3, 10, 9, 8] 0 st)).bind fun x => zg6 N x K

def zqd (N : Nat) : Tab Int := []

theorem zns {N : Nat} {c : Ctx} (hb : Base Go.Proofs.Try.prog (z5l N) c) : zy Go.Proofs.Try.prog c (zi z39 [0, 1, 1, 0, 1, 0, 0, 1, 1, 0, 0, 1, 0, 1, 1]) (zg4 N) :=
  z10 (s := [(0, .v (.sl (.pair .str (.pair (.int .i64) (.pair (.int .i64) .unit))))), (2, .v (.int .i64)), (0, .box (.pair .str (.pair (.int .i64) (.pair (.int .i64) .unit)))), (3, .v (.sl (.pair .str (.pair (.int .i64) (.pair (.int .i64) .unit))))), (0, .v (.int .i64)), (0, .v (.int .i64))]) (m := 29) (g := zg6 N) [4, 0, 3, 10, 9, 8] (zd hb N (zqd N) z8b z39 TabOk.nil [0, 1, 1, 0, 1, 0, 0, 1, 1, 0, 0, 1, 0, 1, 1] _ rfl) (fun x K => by kernel_rfl)

def za4 (N : Nat) (l : (List ((List UInt8) × (Int × (Int × Unit))))) (x8 : (List ((List UInt8) × (Int × (Int × Unit))))) (x9 : Int) (x10 : Int) (rec : Int -> Option Int) (k0 : Int -> Option Int) (k1 : Option Int) : Option Int :=
 cond (decide (x10 < x9))
 (cond (Go.Lift.inR x10 (List.length x8))
 ((z7k N (List.getD x8 (Int.toNat x10) (([] : List UInt8), ((0 : Int), ((0 : Int), ())))).1).bind fun y =>
 cond (!y)
 (k0 (4 : Int))
 (za5 N l x10 (List.getD x8 (Int.toNat x10) (([] : List UInt8), ((0 : Int), ((0 : Int), ())))) x8 x9 x10
 (fun x20 => cond x20
 (k0 (7 : Int))
 (cond (decide (((0 : Int) <= x10) /\ (x10 <= (((List.length l) : Nat) : Int))))
 ((z70 N (Go.Lift.cut l 0 (Int.toNat x10)) (List.getD x8 (Int.toNat x10) (([] : List UInt8), ((0 : Int), ((0 : Int), ())))).1).bind fun y1 =>
 cond (decide ((0 : Int) <= y1))
 (k0 (5 : Int))
 (rec (Go.IntKind.wrap Go.IntKind.i64 (x10 + (1 : Int)))))
 (none)))))
 (none))
 (k1)

def zg3 (N : Nat) (l : (List ((List UInt8) × (Int × (Int × Unit))))) (x8 : (List ((List UInt8) × (Int × (Int × Unit))))) (x9 : Int) (x10 : Int) (k0 : Int -> Option Int) (k1 : Option Int) : Option Int :=
 iter (fun (v : Int) r => za4 N l x8 x9 v (fun x10 => (r x10)) k0 k1) N x10

def zg7 (N : Nat) (i : ((List ((List UInt8) × (Int × (Int × Unit)))) × (List ((List UInt8) × (Int × (Int × Unit)))) × Int)) (v : Int) (r : Int -> Option Int) (K : Ex -> List A -> Option Int) : Option Int :=
 za4 N i.1 i.2.1 i.2.2 v (fun x10 => (r x10)) (fun a0 => (K .ret (mkS [(2, .v (.int .i64))] 37 (a0, ())))) (K (.exit 0) (mkS [] 40 ()))

def zg5 (N : Nat) : Hd Int := fun st K => (unS [(0, .v (.sl (.pair .str (.pair (.int .i64) (.pair (.int .i64) .unit))))), (7, .v (.sl (.pair .str (.pair (.int .i64) (.pair (.int .i64) .unit))))), (0, .v (.int .i64)), (0, .v (.int .i64))] 29 (restr [10, 9, 8, 0] 0 st)).bind fun x => iter (fun v r => zg7 N ((fun x => (x.1, x.2.1, x.2.2.1)) x) v r K) N ((fun x => x.2.2.2.1) x)

def zqe (N : Nat) : Tab Int := [([0, 1, 1, 0, 1, 0, 0, 1, 1, 0, 0, 1, 0, 1, 1], zg4 N)]

theorem znt {N : Nat} {c : Ctx} (hb : Base Go.Proofs.Try.prog (z5l N) c) : zy Go.Proofs.Try.prog c (zi z39 [0, 1, 0, 1, 1]) (zg5 N) :=
  z7m (s := [(0, .v (.sl (.pair .str (.pair (.int .i64) (.pair (.int .i64) .unit))))), (7, .v (.sl (.pair .str (.pair (.int .i64) (.pair (.int .i64) .unit))))), (0, .v (.int .i64)), (0, .v (.int .i64))]) (m := 29) (zg7 N) [10, 9, 8, 0] N (fun x => (x.1, x.2.1, x.2.2.1)) (fun x => x.2.2.2.1) (fun i v => (i.1, i.2.1, i.2.2, v, ())) (fun _ => rfl) (zd hb N (zqe N) z8b z39 (TabOk.cons (zns hb) TabOk.nil) [0, 0, 1, 0, 1, 1] _ rfl) (fun i v r K => by kernel_rfl)

def z9a (N : Nat) (l : (List ((List UInt8) × (Int × (Int × Unit))))) : Option Int :=
 cond (decide ((8 : Int) < (((List.length l) : Nat) : Int)))
 (some (3 : Int))
 (zg3 N l l (((List.length l) : Nat) : Int) (0 : Int)
 (fun x2 => some x2)
 (some (0 : Int)))

def zj3 (N : Nat) : Tab Int := [([0, 1, 0, 1, 1], zg5 N)]

theorem zlu (N : Nat) (x : z1j [(0, .v (.sl (.pair .str (.pair (.int .i64) (.pair (.int .i64) .unit)))))]) : z60 (z5l N) N (zj3 N) z8b Go.Proofs.Try.f8 (mkS [(0, .v (.sl (.pair .str (.pair (.int .i64) (.pair (.int .i64) .unit)))))] 0 x) (z2d (.v (.int .i64)) 1) = z9a N x.1 := by kernel_rfl

def zdu (N : Nat) : List A -> Res := z17 [(0, .v (.sl (.pair .str (.pair (.int .i64) (.pair (.int .i64) .unit)))))] (fun x => z9a N x.1) (z5v (.v (.int .i64)) 1)

theorem zqf (N : Nat) : Contract Go.Proofs.Try.prog z9 8 (zdu N) :=
  Contract.of (E := z5l N) (H := zj3 N) (L := z8b) (N := N) (body := z39) (K := (z2d (.v (.int .i64)) 1)) (znu N) Go.Proofs.Try.func8 (by kernel_rfl) (by decide) (fun _ hb => (TabOk.cons (znt hb) TabOk.nil)) (fun x y h => by rw [zlu]; exact h) (zw (s := (.v (.int .i64))) (m := 1))

abbrev ClassT : T := .pair .str (.pair (.int .i64) (.pair (.int .i64) .unit))

def z14r : Go.Shelf.Ren := ⟨fun | 41 => 10 | n => n, fun | 4 => 4 | 22 => 30 | 23 => 23 | n => n, fun n => n⟩

theorem z13w : Go.Proofs.SlLaysE0.n41 Try.prog z14r where
  mixed := by kernel_rfl
  f41 := ⟨"slices.Clone[[]porter/api.Class,porter/api.Class]", by decide, Try.func10.trans (congrArg some (by kernel_rfl))⟩
  t4 := Try.underlying4
  a4 := Try.isAgg4
  z4 := Try.sizeOf4
  v4 := Try.zeroValue4
  t22 := Try.underlying30
  a22 := Try.isAgg30
  z22 := Try.sizeOf30
  v22 := Try.zeroValue30

def zf0 (N : Nat) (l : List ClassT.den) : Option (List ClassT.den) := cond (decide (l.length * 32 <= 140737488355328)) (some l) none

def zci (N : Nat) : List A -> Res := z17 [(0, .v (.sl ClassT))] (fun x => zf0 N x.1) (z5v (.row ClassT) 1)

theorem zog (N : Nat) : Contract Try.prog z9 10 (zci N) :=
  z11a z13w (ee := ty23) zxm (by decide) (by decide) z9

def zqc : Code := (Go.Proofs.Try.f4.body).getD .skip

def zp5 : List (List Nat × List Nat) := [([0], [0, 1]), ([0, 0, 1], [6, 1, 0]), ([0, 1, 0, 1], [10, 6, 1, 0]), ([1, 1, 0, 1], [1, 0]), ([0, 0, 1, 1, 0, 1], [4, 5]), ([1, 0, 1, 1, 0, 1], [4, 5]), ([0, 0, 1, 1], [14, 0, 1]), ([1, 0, 1, 1], [0, 1]), ([0, 0, 1, 0, 1, 1], [4, 5]), ([1, 0, 1, 0, 1, 1], [4, 5]), ([0, 1, 1, 1], [4, 5]), ([1, 1, 1, 1], [4, 5])]

def zhr (N : Nat) : Env := z1x tys z9 [(10, zci N), (8, zdu N), (9, z6y N)] [] [] [] false [(4, (.pair (.own (.pair .str (.pair (.int .i64) (.pair (.int .i64) .unit)))) (.pair (.int .i64) (.pair (.mp (.pair .str (.pair .str .unit)) (.pair (.int .i64) (.pair (.int .i64) (.pair (.int .i64) (.pair (.int .i64) .unit))))) .unit)))), (19, (.pair (.own (.pair .str (.pair (.int .i64) (.pair (.int .i64) .unit)))) (.pair (.int .i64) (.pair (.mp (.pair .str (.pair .str .unit)) (.pair (.int .i64) (.pair (.int .i64) (.pair (.int .i64) (.pair (.int .i64) .unit))))) .unit)))), (20, (.pair (.own (.pair .str (.pair (.int .i64) (.pair (.int .i64) .unit)))) (.pair (.int .i64) (.pair (.mp (.pair .str (.pair .str .unit)) (.pair (.int .i64) (.pair (.int .i64) (.pair (.int .i64) (.pair (.int .i64) .unit))))) .unit))))] [] [(.nb (.pair (.own (.pair .str (.pair (.int .i64) (.pair (.int .i64) .unit)))) (.pair (.int .i64) (.pair (.mp (.pair .str (.pair .str .unit)) (.pair (.int .i64) (.pair (.int .i64) (.pair (.int .i64) (.pair (.int .i64) .unit))))) .unit)))), (.int .i64)]

theorem zbv (N : Nat) : EnvOk Go.Proofs.Try.prog (zhr N) := zj mixed z14 (FnsOk.cons (zog N) (FnsOk.cons (zqf N) (FnsOk.cons (zds N) (FnsOk.nil)))) (ItsOk.nil)

def zg2 (N : Nat) (l : (List ((List UInt8) × (Int × (Int × Unit))))) (now : Int) : Option ((Option ((List ((List UInt8) × (Int × (Int × Unit)))) × (Int × ((Option (List (((List UInt8) × ((List UInt8) × Unit)) × (Int × (Int × (Int × (Int × Unit))))))) × Unit)))) × Int × Unit) :=
 (z9a N l).bind fun y =>
 cond (y != (0 : Int))
 (some ((Option.none), (y, ())))
 ((z46 N now).bind fun y1 =>
 cond (!y1)
 (some ((Option.none), ((7 : Int), ())))
 ((zf0 N l).bind fun y2 =>
 some ((Option.some (y2, (now, ((Option.some ([] : List (((List UInt8) × ((List UInt8) × Unit)) × (Int × (Int × (Int × (Int × Unit))))))), ())))), ((0 : Int), ()))))

def zp4 (N : Nat) : Tab ((Option ((List ((List UInt8) × (Int × (Int × Unit)))) × (Int × ((Option (List (((List UInt8) × ((List UInt8) × Unit)) × (Int × (Int × (Int × (Int × Unit))))))) × Unit)))) × Int × Unit) := []

theorem zqb (N : Nat) (x : z1j [(0, .v (.sl (.pair .str (.pair (.int .i64) (.pair (.int .i64) .unit))))), (0, .v (.int .i64))]) : z60 (zhr N) N (zp4 N) zp5 Go.Proofs.Try.f4 (mkS [(0, .v (.sl (.pair .str (.pair (.int .i64) (.pair (.int .i64) .unit))))), (0, .v (.int .i64))] 0 x) (z2d (.otup [(.nb (.pair (.own (.pair .str (.pair (.int .i64) (.pair (.int .i64) .unit)))) (.pair (.int .i64) (.pair (.mp (.pair .str (.pair .str .unit)) (.pair (.int .i64) (.pair (.int .i64) (.pair (.int .i64) (.pair (.int .i64) .unit))))) .unit)))), (.int .i64)]) 2) = zg2 N x.1 x.2.1 := by kernel_rfl

def zj2 (N : Nat) : List A -> Res := z17 [(0, .v (.sl (.pair .str (.pair (.int .i64) (.pair (.int .i64) .unit))))), (0, .v (.int .i64))] (fun x => zg2 N x.1 x.2.1) (z5v (.otup [(.nb (.pair (.own (.pair .str (.pair (.int .i64) (.pair (.int .i64) .unit)))) (.pair (.int .i64) (.pair (.mp (.pair .str (.pair .str .unit)) (.pair (.int .i64) (.pair (.int .i64) (.pair (.int .i64) (.pair (.int .i64) .unit))))) .unit)))), (.int .i64)]) 2)

theorem ztt (N : Nat) : Contract Go.Proofs.Try.prog z9 4 (zj2 N) :=
  Contract.of (E := zhr N) (H := zp4 N) (L := zp5) (N := N) (body := zqc) (K := (z2d (.otup [(.nb (.pair (.own (.pair .str (.pair (.int .i64) (.pair (.int .i64) .unit)))) (.pair (.int .i64) (.pair (.mp (.pair .str (.pair .str .unit)) (.pair (.int .i64) (.pair (.int .i64) (.pair (.int .i64) (.pair (.int .i64) .unit))))) .unit)))), (.int .i64)]) 2)) (zbv N) Go.Proofs.Try.func4 (by kernel_rfl) (by decide) (fun _ hb => TabOk.nil) (fun x y h => by rw [zqb]; exact h) (zw (s := (.otup [(.nb (.pair (.own (.pair .str (.pair (.int .i64) (.pair (.int .i64) .unit)))) (.pair (.int .i64) (.pair (.mp (.pair .str (.pair .str .unit)) (.pair (.int .i64) (.pair (.int .i64) (.pair (.int .i64) (.pair (.int .i64) .unit))))) .unit)))), (.int .i64)])) (m := 2))

def zru : Code := (Go.Proofs.Try.f22.body).getD .skip

def zrv : List (List Nat × List Nat) := [([0], [1, 0]), ([0, 0, 1], [7, 0, 1]), ([1, 0, 1], [0, 1]), ([0, 0, 1, 0, 1], [4]), ([1, 0, 1, 0, 1], [4]), ([0, 1, 1], [0, 1, 5]), ([0, 0, 1, 1, 1], [14, 5]), ([1, 0, 1, 1, 1], [5]), ([0, 0, 1, 0, 1, 1, 1], [4]), ([1, 0, 1, 0, 1, 1, 1], [4]), ([0, 1, 1, 1, 1], [4]), ([1, 1, 1, 1, 1], [4])]

def zla (N : Nat) : Env := z1x tys z9 [] [] [] [] false [] []

theorem zti (N : Nat) : EnvOk Go.Proofs.Try.prog (zla N) := zj mixed z14 (FnsOk.nil) (ItsOk.nil)

def ztj (N : Nat) (a : Int) (b : Int) : Option Int :=
 cond (decide (b < (1 : Int)))
 (some (0 : Int))
 (cond (b == (0 : Int))
 (none)
 (cond (b == (0 : Int))
 (none)
 (cond (decide ((Int.tmod a b) < (0 : Int)))
 (some (Go.IntKind.wrap Go.IntKind.i64 ((Go.IntKind.wrap Go.IntKind.i64 (Int.tdiv a b)) - (1 : Int))))
 (some (Go.IntKind.wrap Go.IntKind.i64 (Int.tdiv a b))))))

def zrs (N : Nat) : Tab Int := []

theorem zrt (N : Nat) (x : z1j [(0, .v (.int .i64)), (0, .v (.int .i64))]) : z60 (zla N) N (zrs N) zrv Go.Proofs.Try.f22 (mkS [(0, .v (.int .i64)), (0, .v (.int .i64))] 0 x) (z2d (.v (.int .i64)) 2) = ztj N x.1 x.2.1 := by kernel_rfl

def zl9 (N : Nat) : List A -> Res := z17 [(0, .v (.int .i64)), (0, .v (.int .i64))] (fun x => ztj N x.1 x.2.1) (z5v (.v (.int .i64)) 2)

theorem zw8 (N : Nat) : Contract Go.Proofs.Try.prog z9 22 (zl9 N) :=
  Contract.of (E := zla N) (H := zrs N) (L := zrv) (N := N) (body := zru) (K := (z2d (.v (.int .i64)) 2)) (zti N) Go.Proofs.Try.func22 (by kernel_rfl) (by decide) (fun _ hb => TabOk.nil) (fun x y h => by rw [zrt]; exact h) (zw (s := (.v (.int .i64))) (m := 2))

def zn4 : Code := (Go.Proofs.Try.f11.body).getD .skip

def zjs : List (List Nat × List Nat) := [([0], [0]), ([0, 1], [2]), ([1, 1], [2])]

def zct (N : Nat) : Env := z1x tys z9 [(22, zl9 N)] [] [] [] false [] []

theorem zol (N : Nat) : EnvOk Go.Proofs.Try.prog (zct N) := zj mixed z14 (FnsOk.cons (zw8 N) (FnsOk.nil)) (ItsOk.nil)

def zpo (N : Nat) (bytes : Int) : Option Int :=
 (ztj N (if ((0 : Int) > bytes) then (0 : Int) else bytes) (2 : Int)).bind fun y =>
 some y

def zjr (N : Nat) : Tab Int := []

theorem zn3 (N : Nat) (x : z1j [(0, .v (.int .i64))]) : z60 (zct N) N (zjr N) zjs Go.Proofs.Try.f11 (mkS [(0, .v (.int .i64))] 0 x) (z2d (.v (.int .i64)) 1) = zpo N x.1 := by kernel_rfl

def ze9 (N : Nat) : List A -> Res := z17 [(0, .v (.int .i64))] (fun x => zpo N x.1) (z5v (.v (.int .i64)) 1)

theorem zr9 (N : Nat) : Contract Go.Proofs.Try.prog z9 11 (ze9 N) :=
  Contract.of (E := zct N) (H := zjr N) (L := zjs) (N := N) (body := zn4) (K := (z2d (.v (.int .i64)) 1)) (zol N) Go.Proofs.Try.func11 (by kernel_rfl) (by decide) (fun _ hb => TabOk.nil) (fun x y h => by rw [zn3]; exact h) (zw (s := (.v (.int .i64))) (m := 1))

def z29 : Code := (Go.Proofs.Try.f18.body).getD .skip

def z90 : List (List Nat × List Nat) := [([0], [1, 0]), ([0, 0, 1], [12, 1, 0]), ([1, 0, 1], [1, 0]), ([0, 0, 1, 0, 1], [4]), ([1, 0, 1, 0, 1], [4]), ([0, 0, 1, 1], [20, 0, 1]), ([1, 0, 1, 1], [0, 1]), ([0, 0, 1, 0, 1, 1], [4]), ([1, 0, 1, 0, 1, 1], [4]), ([0, 1, 1, 1], [4]), ([1, 1, 1, 1], [4])]

def z6i (N : Nat) : Env := z1x tys z9 [] [] [] [] false [] []

theorem zto (N : Nat) : EnvOk Go.Proofs.Try.prog (z6i N) := zj mixed z14 (FnsOk.nil) (ItsOk.nil)

def zhk (N : Nat) (a : Int) (b : Int) (k0 : Bool -> Option Int) : Option Int :=
 cond (decide ((0 : Int) < b))
 (k0 (decide ((Go.IntKind.wrap Go.IntKind.i64 ((9223372036854775807 : Int) - b)) < a)))
 (k0 false)

def zp2 (N : Nat) (x : z1j [(0, .v (.int .i64)), (0, .v (.int .i64))]) (K : Ex -> List A -> Option Int) : Option Int :=
 zhk N x.1 x.2.1 (fun a2 => (K .normal (mkS [(0, .v (.int .i64)), (0, .v (.int .i64)), (10, .v .bool)] 11 (x.1, x.2.1, a2, ()))))

def zoy (N : Nat) : Hd Int := fun st K => (unS [(0, .v (.int .i64)), (0, .v (.int .i64))] 22 (restr [1, 0] 0 st)).bind fun x => zp2 N x K

def zwb (N : Nat) : Tab Int := []

theorem ztm {N : Nat} {c : Ctx} (hb : Base Go.Proofs.Try.prog (z6i N) c) : zy Go.Proofs.Try.prog c (zi z29 [0, 0, 1]) (zoy N) :=
  z10 (s := [(0, .v (.int .i64)), (0, .v (.int .i64))]) (m := 22) (g := zp2 N) [1, 0] (zd hb N (zwb N) z90 z29 TabOk.nil [0, 0, 1] _ rfl) (fun x K => by kernel_rfl)

def zhl (N : Nat) (a : Int) (b : Int) (k0 : Int -> Option Int) (k1 : Option Int) : Option Int :=
 zhk N a b
 (fun x12 => cond x12
 (k0 (9223372036854775807 : Int))
 (k1))

def zp3 (N : Nat) (x : z1j [(0, .v (.int .i64)), (0, .v (.int .i64))]) (K : Ex -> List A -> Option Int) : Option Int :=
 zhl N x.1 x.2.1 (fun a0 => (K .ret (mkS [(4, .v (.int .i64))] 19 (a0, ())))) (K .normal (mkS [(0, .v (.int .i64)), (0, .v (.int .i64))] 22 (x.1, x.2.1, ())))

def zoz (N : Nat) : Hd Int := fun st K => (unS [(0, .v (.int .i64)), (0, .v (.int .i64))] 22 (restr [1, 0] 0 st)).bind fun x => zp3 N x K

def zwc (N : Nat) : Tab Int := [([0, 0, 1], zoy N)]

theorem ztn {N : Nat} {c : Ctx} (hb : Base Go.Proofs.Try.prog (z6i N) c) : zy Go.Proofs.Try.prog c (zi z29 [0, 1]) (zoz N) :=
  z10 (s := [(0, .v (.int .i64)), (0, .v (.int .i64))]) (m := 22) (g := zp3 N) [1, 0] (zd hb N (zwc N) z90 z29 (TabOk.cons (ztm hb) TabOk.nil) [0, 1] _ rfl) (fun x K => by kernel_rfl)

def zhi (N : Nat) (a : Int) (b : Int) (k0 : Bool -> Option Int) : Option Int :=
 cond (decide (b < (0 : Int)))
 (k0 (decide (a < (Go.IntKind.wrap Go.IntKind.i64 ((-(9223372036854775808 : Int)) - b)))))
 (k0 false)

def zp0 (N : Nat) (x : z1j [(0, .v (.int .i64)), (0, .v (.int .i64))]) (K : Ex -> List A -> Option Int) : Option Int :=
 zhi N x.1 x.2.1 (fun a2 => (K .normal (mkS [(0, .v (.int .i64)), (0, .v (.int .i64)), (18, .v .bool)] 3 (x.1, x.2.1, a2, ()))))

def zow (N : Nat) : Hd Int := fun st K => (unS [(0, .v (.int .i64)), (0, .v (.int .i64))] 22 (restr [1, 0] 0 st)).bind fun x => zp0 N x K

def zw9 (N : Nat) : Tab Int := []

theorem ztk {N : Nat} {c : Ctx} (hb : Base Go.Proofs.Try.prog (z6i N) c) : zy Go.Proofs.Try.prog c (zi z29 [0, 0, 1, 1]) (zow N) :=
  z10 (s := [(0, .v (.int .i64)), (0, .v (.int .i64))]) (m := 22) (g := zp0 N) [1, 0] (zd hb N (zw9 N) z90 z29 TabOk.nil [0, 0, 1, 1] _ rfl) (fun x K => by kernel_rfl)

def zhj (N : Nat) (a : Int) (b : Int) (k0 : Int -> Option Int) (k1 : Option Int) : Option Int :=
 zhi N a b
 (fun x20 => cond x20
 (k0 (-(9223372036854775808 : Int)))
 (k1))

def zp1 (N : Nat) (x : z1j [(0, .v (.int .i64)), (0, .v (.int .i64))]) (K : Ex -> List A -> Option Int) : Option Int :=
 zhj N x.1 x.2.1 (fun a0 => (K .ret (mkS [(4, .v (.int .i64))] 19 (a0, ())))) (K .normal (mkS [(0, .v (.int .i64)), (0, .v (.int .i64))] 22 (x.1, x.2.1, ())))

def zox (N : Nat) : Hd Int := fun st K => (unS [(0, .v (.int .i64)), (0, .v (.int .i64))] 22 (restr [1, 0] 0 st)).bind fun x => zp1 N x K

def zwa (N : Nat) : Tab Int := [([0, 0, 1, 1], zow N)]

theorem ztl {N : Nat} {c : Ctx} (hb : Base Go.Proofs.Try.prog (z6i N) c) : zy Go.Proofs.Try.prog c (zi z29 [0, 1, 1]) (zox N) :=
  z10 (s := [(0, .v (.int .i64)), (0, .v (.int .i64))]) (m := 22) (g := zp1 N) [1, 0] (zd hb N (zwa N) z90 z29 (TabOk.cons (ztk hb) TabOk.nil) [0, 1, 1] _ rfl) (fun x K => by kernel_rfl)

def zef (N : Nat) (a : Int) (b : Int) : Option Int :=
 zhl N a b
 (fun x4 => some x4)
 (zhj N a b
 (fun x41 => some x41)
 (some (Go.IntKind.wrap Go.IntKind.i64 (a + b))))

def zrw (N : Nat) : Tab Int := [([0, 1], zoz N), ([0, 1, 1], zox N)]

theorem zrx (N : Nat) (x : z1j [(0, .v (.int .i64)), (0, .v (.int .i64))]) : z60 (z6i N) N (zrw N) z90 Go.Proofs.Try.f18 (mkS [(0, .v (.int .i64)), (0, .v (.int .i64))] 0 x) (z2d (.v (.int .i64)) 2) = zef N x.1 x.2.1 := by kernel_rfl

def z9s (N : Nat) : List A -> Res := z17 [(0, .v (.int .i64)), (0, .v (.int .i64))] (fun x => zef N x.1 x.2.1) (z5v (.v (.int .i64)) 2)

theorem zhm (N : Nat) : Contract Go.Proofs.Try.prog z9 18 (z9s N) :=
  Contract.of (E := z6i N) (H := zrw N) (L := z90) (N := N) (body := z29) (K := (z2d (.v (.int .i64)) 2)) (zto N) Go.Proofs.Try.func18 (by kernel_rfl) (by decide) (fun _ hb => (TabOk.cons (ztn hb) (TabOk.cons (ztl hb) TabOk.nil))) (fun x y h => by rw [zrx]; exact h) (zw (s := (.v (.int .i64))) (m := 2))

def z28 : Code := (Go.Proofs.Try.f29.body).getD .skip

def z4h : List (List Nat × List Nat) := [([0], [0, 1]), ([0, 0, 1], [18, 0, 1]), ([1, 0, 1], [0, 1]), ([0, 0, 1, 0, 1], [4]), ([1, 0, 1, 0, 1], [4]), ([0, 1, 1], [4]), ([1, 1, 1], [4])]

def z31 (N : Nat) : Env := z1x tys z9 [] [] [] [] false [] []

theorem zhe (N : Nat) : EnvOk Go.Proofs.Try.prog (z31 N) := zj mixed z14 (FnsOk.nil) (ItsOk.nil)

def z5t (N : Nat) (a : Int) (b : Int) (k0 : Bool -> Option Bool) : Option Bool :=
 cond (a == (-(9223372036854775808 : Int)))
 (cond (b == (-(1 : Int)))
 (k0 true)
 (cond (b == (-(9223372036854775808 : Int)))
 (k0 (a == (-(1 : Int))))
 (k0 false)))
 (cond (b == (-(9223372036854775808 : Int)))
 (k0 (a == (-(1 : Int))))
 (k0 false))

def zam (N : Nat) (x : z1j [(0, .v (.int .i64)), (0, .v (.int .i64))]) (K : Ex -> List A -> Option Bool) : Option Bool :=
 z5t N x.1 x.2.1 (fun a2 => (K .normal (mkS [(0, .v (.int .i64)), (0, .v (.int .i64)), (16, .v .bool)] 7 (x.1, x.2.1, a2, ()))))

def zak (N : Nat) : Hd Bool := fun st K => (unS [(0, .v (.int .i64)), (0, .v (.int .i64))] 24 (restr [0, 1] 0 st)).bind fun x => zam N x K

def zju (N : Nat) : Tab Bool := []

theorem zhc {N : Nat} {c : Ctx} (hb : Base Go.Proofs.Try.prog (z31 N) c) : zy Go.Proofs.Try.prog c (zi z28 [0, 0, 1]) (zak N) :=
  z10 (s := [(0, .v (.int .i64)), (0, .v (.int .i64))]) (m := 24) (g := zam N) [0, 1] (zd hb N (zju N) z4h z28 TabOk.nil [0, 0, 1] _ rfl) (fun x K => by kernel_rfl)

def z5u (N : Nat) (a : Int) (b : Int) (k0 : Bool -> Option Bool) (k1 : Option Bool) : Option Bool :=
 z5t N a b
 (fun x18 => cond x18
 (k0 true)
 (k1))

def zan (N : Nat) (x : z1j [(0, .v (.int .i64)), (0, .v (.int .i64))]) (K : Ex -> List A -> Option Bool) : Option Bool :=
 z5u N x.1 x.2.1 (fun a0 => (K .ret (mkS [(4, .v .bool)] 21 (a0, ())))) (K .normal (mkS [(0, .v (.int .i64)), (0, .v (.int .i64))] 24 (x.1, x.2.1, ())))

def zal (N : Nat) : Hd Bool := fun st K => (unS [(0, .v (.int .i64)), (0, .v (.int .i64))] 24 (restr [0, 1] 0 st)).bind fun x => zan N x K

def zjv (N : Nat) : Tab Bool := [([0, 0, 1], zak N)]

theorem zhd {N : Nat} {c : Ctx} (hb : Base Go.Proofs.Try.prog (z31 N) c) : zy Go.Proofs.Try.prog c (zi z28 [0, 1]) (zal N) :=
  z10 (s := [(0, .v (.int .i64)), (0, .v (.int .i64))]) (m := 24) (g := zan N) [0, 1] (zd hb N (zjv N) z4h z28 (TabOk.cons (zhc hb) TabOk.nil) [0, 1] _ rfl) (fun x K => by kernel_rfl)

def z4i (N : Nat) (a : Int) (b : Int) : Option Bool :=
 z5u N a b
 (fun x4 => some x4)
 (cond (b == (0 : Int))
 (none)
 (some ((Go.IntKind.wrap Go.IntKind.i64 (Int.tdiv (Go.IntKind.wrap Go.IntKind.i64 (a * b)) b)) != a)))

def zbh (N : Nat) : Tab Bool := [([0, 1], zal N)]

theorem zfe (N : Nat) (x : z1j [(0, .v (.int .i64)), (0, .v (.int .i64))]) : z60 (z31 N) N (zbh N) z4h Go.Proofs.Try.f29 (mkS [(0, .v (.int .i64)), (0, .v (.int .i64))] 0 x) (z2d (.v .bool) 2) = z4i N x.1 x.2.1 := by kernel_rfl

def z8z (N : Nat) : List A -> Res := z17 [(0, .v (.int .i64)), (0, .v (.int .i64))] (fun x => z4i N x.1 x.2.1) (z5v (.v .bool) 2)

theorem zjw (N : Nat) : Contract Go.Proofs.Try.prog z9 29 (z8z N) :=
  Contract.of (E := z31 N) (H := zbh N) (L := z4h) (N := N) (body := z28) (K := (z2d (.v .bool) 2)) (zhe N) Go.Proofs.Try.func29 (by kernel_rfl) (by decide) (fun _ hb => (TabOk.cons (zhd hb) TabOk.nil)) (fun x y h => by rw [zfe]; exact h) (zw (s := (.v .bool)) (m := 2))

def zro : Code := (Go.Proofs.Try.f30.body).getD .skip

def zrp : List (List Nat × List Nat) := [([0], [0]), ([0, 0, 1], [3]), ([1, 0, 1], []), ([0, 0, 1, 0, 1], [2]), ([1, 0, 1, 0, 1], [2]), ([0, 1, 1], [2]), ([1, 1, 1], [2])]

def zl8 (N : Nat) : Env := z1x tys z9 [] [] [] [] false [] []

theorem zte (N : Nat) : EnvOk Go.Proofs.Try.prog (zl8 N) := zj mixed z14 (FnsOk.nil) (ItsOk.nil)

def zpv (N : Nat) (negative : Bool) : Option Int :=
 cond negative
 (some (-(9223372036854775808 : Int)))
 (some (9223372036854775807 : Int))

def zrm (N : Nat) : Tab Int := []

theorem zrn (N : Nat) (x : z1j [(0, .v .bool)]) : z60 (zl8 N) N (zrm N) zrp Go.Proofs.Try.f30 (mkS [(0, .v .bool)] 0 x) (z2d (.v (.int .i64)) 1) = zpv N x.1 := by kernel_rfl

def zl7 (N : Nat) : List A -> Res := z17 [(0, .v .bool)] (fun x => zpv N x.1) (z5v (.v (.int .i64)) 1)

theorem zw5 (N : Nat) : Contract Go.Proofs.Try.prog z9 30 (zl7 N) :=
  Contract.of (E := zl8 N) (H := zrm N) (L := zrp) (N := N) (body := zro) (K := (z2d (.v (.int .i64)) 1)) (zte N) Go.Proofs.Try.func30 (by kernel_rfl) (by decide) (fun _ hb => TabOk.nil) (fun x y h => by rw [zrn]; exact h) (zw (s := (.v (.int .i64))) (m := 1))

def z5g : Code := (Go.Proofs.Try.f19.body).getD .skip

def zff : List (List Nat × List Nat) := [([0], [0, 1]), ([0, 0, 1], [10, 0, 1]), ([1, 0, 1], [0, 1]), ([0, 0, 1, 0, 1], [4]), ([1, 0, 1, 0, 1], [4]), ([0, 0, 1, 1], [13, 0, 1]), ([1, 0, 1, 1], [0, 1]), ([0, 0, 1, 0, 1, 1], [4]), ([1, 0, 1, 0, 1, 1], [4]), ([0, 1, 1, 1], [4]), ([1, 1, 1, 1], [4])]

def zbi (N : Nat) : Env := z1x tys z9 [(30, zl7 N), (29, z8z N)] [] [] [] false [] []

theorem zth (N : Nat) : EnvOk Go.Proofs.Try.prog (zbi N) := zj mixed z14 (FnsOk.cons (zw5 N) (FnsOk.cons (zjw N) (FnsOk.nil))) (ItsOk.nil)

def zhf (N : Nat) (a : Int) (b : Int) (k0 : Bool -> Option Int) : Option Int :=
 cond (a == (0 : Int))
 (k0 true)
 (k0 (b == (0 : Int)))

def zou (N : Nat) (x : z1j [(0, .v (.int .i64)), (0, .v (.int .i64))]) (K : Ex -> List A -> Option Int) : Option Int :=
 zhf N x.1 x.2.1 (fun a2 => (K .normal (mkS [(0, .v (.int .i64)), (0, .v (.int .i64)), (8, .v .bool)] 12 (x.1, x.2.1, a2, ()))))

def zos (N : Nat) : Hd Int := fun st K => (unS [(0, .v (.int .i64)), (0, .v (.int .i64))] 21 (restr [0, 1] 0 st)).bind fun x => zou N x K

def zw6 (N : Nat) : Tab Int := []

theorem ztf {N : Nat} {c : Ctx} (hb : Base Go.Proofs.Try.prog (zbi N) c) : zy Go.Proofs.Try.prog c (zi z5g [0, 0, 1]) (zos N) :=
  z10 (s := [(0, .v (.int .i64)), (0, .v (.int .i64))]) (m := 21) (g := zou N) [0, 1] (zd hb N (zw6 N) zff z5g TabOk.nil [0, 0, 1] _ rfl) (fun x K => by kernel_rfl)

def zhg (N : Nat) (a : Int) (b : Int) (k0 : Int -> Option Int) (k1 : Option Int) : Option Int :=
 zhf N a b
 (fun x10 => cond x10
 (k0 (0 : Int))
 (k1))

def zov (N : Nat) (x : z1j [(0, .v (.int .i64)), (0, .v (.int .i64))]) (K : Ex -> List A -> Option Int) : Option Int :=
 zhg N x.1 x.2.1 (fun a0 => (K .ret (mkS [(4, .v (.int .i64))] 18 (a0, ())))) (K .normal (mkS [(0, .v (.int .i64)), (0, .v (.int .i64))] 21 (x.1, x.2.1, ())))

def zot (N : Nat) : Hd Int := fun st K => (unS [(0, .v (.int .i64)), (0, .v (.int .i64))] 21 (restr [0, 1] 0 st)).bind fun x => zov N x K

def zw7 (N : Nat) : Tab Int := [([0, 0, 1], zos N)]

theorem ztg {N : Nat} {c : Ctx} (hb : Base Go.Proofs.Try.prog (zbi N) c) : zy Go.Proofs.Try.prog c (zi z5g [0, 1]) (zot N) :=
  z10 (s := [(0, .v (.int .i64)), (0, .v (.int .i64))]) (m := 21) (g := zov N) [0, 1] (zd hb N (zw7 N) zff z5g (TabOk.cons (ztf hb) TabOk.nil) [0, 1] _ rfl) (fun x K => by kernel_rfl)

def zee (N : Nat) (a : Int) (b : Int) : Option Int :=
 zhg N a b
 (fun x4 => some x4)
 ((z4i N a b).bind fun y =>
 cond y
 ((zpv N (!((decide (a < (0 : Int))) == (decide (b < (0 : Int)))))).bind fun y1 =>
 some y1)
 (some (Go.IntKind.wrap Go.IntKind.i64 (a * b))))

def zrq (N : Nat) : Tab Int := [([0, 1], zot N)]

theorem zrr (N : Nat) (x : z1j [(0, .v (.int .i64)), (0, .v (.int .i64))]) : z60 (zbi N) N (zrq N) zff Go.Proofs.Try.f19 (mkS [(0, .v (.int .i64)), (0, .v (.int .i64))] 0 x) (z2d (.v (.int .i64)) 2) = zee N x.1 x.2.1 := by kernel_rfl

def z9r (N : Nat) : List A -> Res := z17 [(0, .v (.int .i64)), (0, .v (.int .i64))] (fun x => zee N x.1 x.2.1) (z5v (.v (.int .i64)) 2)

theorem zhh (N : Nat) : Contract Go.Proofs.Try.prog z9 19 (z9r N) :=
  Contract.of (E := zbi N) (H := zrq N) (L := zff) (N := N) (body := z5g) (K := (z2d (.v (.int .i64)) 2)) (zth N) Go.Proofs.Try.func19 (by kernel_rfl) (by decide) (fun _ hb => (TabOk.cons (ztg hb) TabOk.nil)) (fun x y h => by rw [zrr]; exact h) (zw (s := (.v (.int .i64))) (m := 2))

def zf3 : Code := (Go.Proofs.Try.f12.body).getD .skip

def zb3 : List (List Nat × List Nat) := [([0], [0]), ([0, 1], [3]), ([0, 1, 1], [2]), ([1, 1, 1], [2])]

def z66 (N : Nat) : Env := z1x tys z9 [(19, z9r N), (18, z9s N)] [] [] [] false [] []

theorem zh5 (N : Nat) : EnvOk Go.Proofs.Try.prog (z66 N) := zj mixed z14 (FnsOk.cons (zhh N) (FnsOk.cons (zhm N) (FnsOk.nil))) (ItsOk.nil)

def zea (N : Nat) (matchers : Int) : Option Int :=
 (zef N (if ((0 : Int) > matchers) then (0 : Int) else matchers) (2 : Int)).bind fun y =>
 (zee N (if ((0 : Int) > matchers) then (0 : Int) else matchers) y).bind fun y1 =>
 some y1

def zb2 (N : Nat) : Tab Int := []

theorem zf2 (N : Nat) (x : z1j [(0, .v (.int .i64))]) : z60 (z66 N) N (zb2 N) zb3 Go.Proofs.Try.f12 (mkS [(0, .v (.int .i64))] 0 x) (z2d (.v (.int .i64)) 1) = zea N x.1 := by kernel_rfl

def z8i (N : Nat) : List A -> Res := z17 [(0, .v (.int .i64))] (fun x => zea N x.1) (z5v (.v (.int .i64)) 1)

theorem zio (N : Nat) : Contract Go.Proofs.Try.prog z9 12 (z8i N) :=
  Contract.of (E := z66 N) (H := zb2 N) (L := zb3) (N := N) (body := zf3) (K := (z2d (.v (.int .i64)) 1)) (zh5 N) Go.Proofs.Try.func12 (by kernel_rfl) (by decide) (fun _ hb => TabOk.nil) (fun x y h => by rw [zf2]; exact h) (zw (s := (.v (.int .i64))) (m := 1))

def zin : Code := (Go.Proofs.Try.f7.body).getD .skip

def ze8 : List (List Nat × List Nat) := [([0], [2, 1]), ([0, 1], [4]), ([1, 1], [4])]

def z8u (N : Nat) : Env := z1x tys z9 [(19, z9r N), (18, z9s N)] [] [] [] false [] []

theorem zkj (N : Nat) : EnvOk Go.Proofs.Try.prog (z8u N) := zj mixed z14 (FnsOk.cons (zhh N) (FnsOk.cons (zhm N) (FnsOk.nil))) (ItsOk.nil)

def z5r (N : Nat) (c : ((List UInt8) × (Int × (Int × Unit)))) (ticks : Int) : Option Int :=
 (zee N (if ((0 : Int) > c.2.2.1) then (0 : Int) else c.2.2.1) (if ((0 : Int) > ticks) then (0 : Int) else ticks)).bind fun y =>
 (zef N (if ((0 : Int) > c.2.1) then (0 : Int) else c.2.1) y).bind fun y1 =>
 some y1

def ze7 (N : Nat) : Tab Int := []

theorem zim (N : Nat) (x : z1j [(0, .v (.pair .str (.pair (.int .i64) (.pair (.int .i64) .unit)))), (0, .v (.int .i64))]) : z60 (z8u N) N (ze7 N) ze8 Go.Proofs.Try.f7 (mkS [(0, .v (.pair .str (.pair (.int .i64) (.pair (.int .i64) .unit)))), (0, .v (.int .i64))] 0 x) (z2d (.v (.int .i64)) 2) = z5r N x.1 x.2.1 := by kernel_rfl

def z65 (N : Nat) : List A -> Res := z17 [(0, .v (.pair .str (.pair (.int .i64) (.pair (.int .i64) .unit)))), (0, .v (.int .i64))] (fun x => z5r N x.1 x.2.1) (z5v (.v (.int .i64)) 2)

theorem zcs (N : Nat) : Contract Go.Proofs.Try.prog z9 7 (z65 N) :=
  Contract.of (E := z8u N) (H := ze7 N) (L := ze8) (N := N) (body := zin) (K := (z2d (.v (.int .i64)) 2)) (zkj N) Go.Proofs.Try.func7 (by kernel_rfl) (by decide) (fun _ hb => TabOk.nil) (fun x y h => by rw [zim]; exact h) (zw (s := (.v (.int .i64))) (m := 2))

def zjz : Code := (Go.Proofs.Try.f45.body).getD .skip

def zfj : List (List Nat × List Nat) := [([0], [0, 1]), ([0, 1], [4]), ([1, 1], [4])]

def z9v (N : Nat) : Env := z1x tys z9 [] [] [] [] false [] []

theorem zle (N : Nat) : EnvOk Go.Proofs.Try.prog (z9v N) := zj mixed z14 (FnsOk.nil) (ItsOk.nil)

def z32 (N : Nat) (n : Int) (low : Int) : Option Bool :=
 cond (decide (low <= n))
 (some (decide (n <= (1099511627776 : Int))))
 (some false)

def zfi (N : Nat) : Tab Bool := []

theorem zjy (N : Nat) (x : z1j [(0, .v (.int .i64)), (0, .v (.int .i64))]) : z60 (z9v N) N (zfi N) zfj Go.Proofs.Try.f45 (mkS [(0, .v (.int .i64)), (0, .v (.int .i64))] 0 x) (z2d (.v .bool) 2) = z32 N x.1 x.2.1 := by kernel_rfl

def z4j (N : Nat) : List A -> Res := z17 [(0, .v (.int .i64)), (0, .v (.int .i64))] (fun x => z32 N x.1 x.2.1) (z5v (.v .bool) 2)

theorem z8m (N : Nat) : Contract Go.Proofs.Try.prog z9 45 (z4j N) :=
  Contract.of (E := z9v N) (H := zfi N) (L := zfj) (N := N) (body := zjz) (K := (z2d (.v .bool) 2)) (zle N) Go.Proofs.Try.func45 (by kernel_rfl) (by decide) (fun _ hb => TabOk.nil) (fun x y h => by rw [zjy]; exact h) (zw (s := (.v .bool)) (m := 2))

def zlg : Code := (Go.Proofs.Try.f52.body).getD .skip

def ziu : List (List Nat × List Nat) := [([0], [0, 1, 2]), ([0, 1], [0, 1, 5, 2]), ([0, 1, 1], [5, 0, 2, 1]), ([0, 1, 1, 1], [4, 1, 2]), ([1, 1, 1, 1], [4, 1, 2])]

def zbj (N : Nat) : Env := z1x tys z9 [] [] [] [1, 2] false [] []

theorem znj (N : Nat) : EnvOk Go.Proofs.Try.prog (zbj N) := zj mixed z14 (FnsOk.nil) (ItsOk.nil)

def zho (N : Nat) (n : Int) (x1 : Int) (x2 : ((List UInt8) × (Int × (Int × ((List (Int × ((List UInt8) × Unit))) × Unit))))) : Option (Bool × (Int × ((List UInt8) × (Int × (Int × ((List (Int × ((List UInt8) × Unit))) × Unit)))) × Unit)) :=
 cond (decide (x1 < n))
 (some ((decide (n < x2.2.2.1)), (n, (x2, ()))))
 (some (false, (n, (x2, ()))))

def zit (N : Nat) : Tab (Bool × (Int × ((List UInt8) × (Int × (Int × ((List (Int × ((List UInt8) × Unit))) × Unit)))) × Unit)) := []

theorem zlf (N : Nat) (x : z1j [(0, .v (.int .i64)), (0, .box (.int .i64)), (0, .box (.pair .str (.pair (.int .i64) (.pair (.int .i64) (.pair (.sl (.pair (.int .i64) (.pair .str .unit))) .unit)))))]) : z60 (zbj N) N (zit N) ziu Go.Proofs.Try.f52 (mkS [(0, .v (.int .i64)), (0, .box (.int .i64)), (0, .box (.pair .str (.pair (.int .i64) (.pair (.int .i64) (.pair (.sl (.pair (.int .i64) (.pair .str .unit))) .unit)))))] 0 x) (zo6 (.v .bool) [(1, .box (.int .i64)), (0, .box (.pair .str (.pair (.int .i64) (.pair (.int .i64) (.pair (.sl (.pair (.int .i64) (.pair .str .unit))) .unit)))))] 0) = zho N x.1 x.2.1 x.2.2.1 := by kernel_rfl

def zdo (N : Nat) : List A -> Res := z17 [(0, .v (.int .i64)), (0, .box (.int .i64)), (0, .box (.pair .str (.pair (.int .i64) (.pair (.int .i64) (.pair (.sl (.pair (.int .i64) (.pair .str .unit))) .unit)))))] (fun x => zho N x.1 x.2.1 x.2.2.1) (zsb (.v .bool) [(1, .box (.int .i64)), (0, .box (.pair .str (.pair (.int .i64) (.pair (.int .i64) (.pair (.sl (.pair (.int .i64) (.pair .str .unit))) .unit)))))] 0)

theorem zpy (N : Nat) : Contract Go.Proofs.Try.prog z9 52 (zdo N) :=
  Contract.of (E := zbj N) (H := zit N) (L := ziu) (N := N) (body := zlg) (K := (zo6 (.v .bool) [(1, .box (.int .i64)), (0, .box (.pair .str (.pair (.int .i64) (.pair (.int .i64) (.pair (.sl (.pair (.int .i64) (.pair .str .unit))) .unit)))))] 0)) (znj N) Go.Proofs.Try.func52 (by kernel_rfl) (by decide) (fun _ hb => TabOk.nil) (fun x y h => by rw [zlf]; exact h) (zks (s := (.v .bool)) (os := [(1, .box (.int .i64)), (0, .box (.pair .str (.pair (.int .i64) (.pair (.int .i64) (.pair (.sl (.pair (.int .i64) (.pair .str .unit))) .unit)))))]) (m := 0))

def zp : Code := (Go.Proofs.Try.f46.body).getD .skip

def z1n : List (List Nat × List Nat) := [([0], [1]), ([0, 0, 1], [28, 1]), ([1, 0, 1], [1]), ([0, 0, 1, 0, 1], [2]), ([1, 0, 1, 0, 1], [2]), ([0, 1, 1], [3, 1]), ([0, 1, 1, 1], [1, 4, 3]), ([0, 0, 1, 1, 1, 1], [33, 32, 31, 4, 3, 1]), ([0, 1, 0, 1, 1, 1, 1], [33, 32, 31, 4, 3, 1]), ([0, 0, 0, 1, 0, 1, 1, 1, 1], [34, 31, 33, 4, 32, 3, 1]), ([0, 1, 0, 0, 1, 0, 1, 1, 1, 1], [31, 33, 4, 32, 3, 1]), ([1, 0, 1, 0, 0, 1, 0, 1, 1, 1, 1], []), ([0, 0, 0, 1, 1, 0, 0, 1, 0, 1, 1, 1, 1], [4, 6, 33, 32, 31, 3, 1]), ([0, 1, 0, 0, 1, 1, 0, 0, 1, 0, 1, 1, 1, 1], [47, 33, 32, 31, 4, 3, 1]), ([1, 1, 0, 0, 1, 1, 0, 0, 1, 0, 1, 1, 1, 1], [33, 32, 31, 4, 3, 1]), ([0, 0, 1, 1, 0, 0, 1, 1, 0, 0, 1, 0, 1, 1, 1, 1], [2]), ([1, 0, 1, 1, 0, 0, 1, 1, 0, 0, 1, 0, 1, 1, 1, 1], [2]), ([0, 1, 1, 0, 0, 1, 0, 1, 1, 1, 1], [33, 32, 31, 4, 3, 1]), ([1, 1, 1, 0, 0, 1, 0, 1, 1, 1, 1], [33, 32, 31, 4, 3, 1]), ([1, 0, 1, 1, 1, 1], []), ([0, 1, 1, 1, 1, 1], [2]), ([1, 1, 1, 1, 1, 1], [2])]

def z1e (N : Nat) : Env := z1x tys z9 [(52, zdo N), (45, z4j N), (20, z6c N)] [(4, .unit)] [] [] false [] []

theorem zdd (N : Nat) : EnvOk Go.Proofs.Try.prog (z1e N) := zj mixed z14 (FnsOk.cons (zpy N) (FnsOk.cons (z8m N) (FnsOk.cons (zc5 N) (FnsOk.nil)))) (ItsOk.nil)

def z6m (N : Nat) (t : ((List UInt8) × (Int × (Int × ((List (Int × ((List UInt8) × Unit))) × Unit))))) (k0 : Bool -> Option Bool) : Option Bool :=
 (z7k N t.1).bind fun y =>
 cond (!y)
 (k0 true)
 ((z32 N t.2.1 (0 : Int)).bind fun y1 =>
 cond (!y1)
 (k0 true)
 ((z32 N t.2.2.1 (1 : Int)).bind fun y2 =>
 cond (!y2)
 (k0 true)
 (k0 (decide ((8 : Int) < (((List.length t.2.2.2.1) : Nat) : Int))))))

def z6u (N : Nat) (x : z1j [(1, .box (.pair .str (.pair (.int .i64) (.pair (.int .i64) (.pair (.sl (.pair (.int .i64) (.pair .str .unit))) .unit)))))]) (K : Ex -> List A -> Option Bool) : Option Bool :=
 z6m N x.1 (fun a1 => (K .normal (mkS [(1, .box (.pair .str (.pair (.int .i64) (.pair (.int .i64) (.pair (.sl (.pair (.int .i64) (.pair .str .unit))) .unit))))), (26, .v .bool)] 20 (x.1, a1, ()))))

def z6q (N : Nat) : Hd Bool := fun st K => (unS [(1, .box (.pair .str (.pair (.int .i64) (.pair (.int .i64) (.pair (.sl (.pair (.int .i64) (.pair .str .unit))) .unit)))))] 47 (restr [1] 0 st)).bind fun x => z6u N x K

def zej (N : Nat) : Tab Bool := []

theorem zdb {N : Nat} {c : Ctx} (hb : Base Go.Proofs.Try.prog (z1e N) c) : zy Go.Proofs.Try.prog c (zi zp [0, 0, 1]) (z6q N) :=
  z10 (s := [(1, .box (.pair .str (.pair (.int .i64) (.pair (.int .i64) (.pair (.sl (.pair (.int .i64) (.pair .str .unit))) .unit)))))]) (m := 47) (g := z6u N) [1] (zd hb N (zej N) z1n zp TabOk.nil [0, 0, 1] _ rfl) (fun x K => by kernel_rfl)

def z6n (N : Nat) (t : ((List UInt8) × (Int × (Int × ((List (Int × ((List UInt8) × Unit))) × Unit))))) (k0 : Bool -> Option Bool) (k1 : Option Bool) : Option Bool :=
 z6m N t
 (fun x28 => cond x28
 (k0 false)
 (k1))

def z6v (N : Nat) (x : z1j [(1, .box (.pair .str (.pair (.int .i64) (.pair (.int .i64) (.pair (.sl (.pair (.int .i64) (.pair .str .unit))) .unit)))))]) (K : Ex -> List A -> Option Bool) : Option Bool :=
 z6n N x.1 (fun a0 => (K .ret (mkS [(2, .v .bool)] 46 (a0, ())))) (K .normal (mkS [(1, .box (.pair .str (.pair (.int .i64) (.pair (.int .i64) (.pair (.sl (.pair (.int .i64) (.pair .str .unit))) .unit)))))] 47 (x.1, ())))

def z6r (N : Nat) : Hd Bool := fun st K => (unS [(1, .box (.pair .str (.pair (.int .i64) (.pair (.int .i64) (.pair (.sl (.pair (.int .i64) (.pair .str .unit))) .unit)))))] 47 (restr [1] 0 st)).bind fun x => z6v N x K

def zek (N : Nat) : Tab Bool := [([0, 0, 1], z6q N)]

theorem zdc {N : Nat} {c : Ctx} (hb : Base Go.Proofs.Try.prog (z1e N) c) : zy Go.Proofs.Try.prog c (zi zp [0, 1]) (z6r N) :=
  z10 (s := [(1, .box (.pair .str (.pair (.int .i64) (.pair (.int .i64) (.pair (.sl (.pair (.int .i64) (.pair .str .unit))) .unit)))))]) (m := 47) (g := z6v N) [1] (zd hb N (zek N) z1n zp (TabOk.cons (zdb hb) TabOk.nil) [0, 1] _ rfl) (fun x K => by kernel_rfl)

def z6l (N : Nat) (t : ((List UInt8) × (Int × (Int × ((List (Int × ((List UInt8) × Unit))) × Unit))))) (last : Int) (k : (Int × ((List UInt8) × Unit))) (x31 : (List (Int × ((List UInt8) × Unit)))) (x32 : Int) (x33 : Int) (k0 : ((List UInt8) × (Int × (Int × ((List (Int × ((List UInt8) × Unit))) × Unit)))) -> Int -> Bool -> Option Bool) : Option Bool :=
 (zho N k.1 last t).bind fun y =>
 cond (!y.1)
 (k0 y.2.2.1 y.2.1 true)
 (k0 y.2.2.1 y.2.1 ((((List.length k.2.1) : Nat) : Int) != (32 : Int)))

def z6s (N : Nat) (x : z1j [(1, .box (.pair .str (.pair (.int .i64) (.pair (.int .i64) (.pair (.sl (.pair (.int .i64) (.pair .str .unit))) .unit))))), (1, .box (.int .i64)), (0, .clo 52 [3, 1]), (1, .box (.pair (.int .i64) (.pair .str .unit))), (24, .v (.sl (.pair (.int .i64) (.pair .str .unit)))), (0, .v (.int .i64)), (0, .v (.int .i64))]) (K : Ex -> List A -> Option Bool) : Option Bool :=
 z6l N x.1 x.2.1 x.2.2.2.1 x.2.2.2.2.1 x.2.2.2.2.2.1 x.2.2.2.2.2.2.1 (fun a0 a1 a5 => (K .normal (mkS [(1, .box (.pair .str (.pair (.int .i64) (.pair (.int .i64) (.pair (.sl (.pair (.int .i64) (.pair .str .unit))) .unit))))), (1, .box (.int .i64)), (0, .clo 52 [3, 1]), (26, .v (.sl (.pair (.int .i64) (.pair .str .unit)))), (0, .v (.int .i64)), (0, .v (.int .i64)), (13, .v .bool)] 1 (a0, a1, (), x.2.2.2.2.1, x.2.2.2.2.2.1, x.2.2.2.2.2.2.1, a5, ()))))

def z6o (N : Nat) : Hd Bool := fun st K => (unS [(1, .box (.pair .str (.pair (.int .i64) (.pair (.int .i64) (.pair (.sl (.pair (.int .i64) (.pair .str .unit))) .unit))))), (1, .box (.int .i64)), (0, .clo 52 [3, 1]), (1, .box (.pair (.int .i64) (.pair .str .unit))), (24, .v (.sl (.pair (.int .i64) (.pair .str .unit)))), (0, .v (.int .i64)), (0, .v (.int .i64))] 15 (restr [4, 6, 33, 32, 31, 3, 1] 0 st)).bind fun x => z6s N x K

def zeh (N : Nat) : Tab Bool := []

theorem zd9 {N : Nat} {c : Ctx} (hb : Base Go.Proofs.Try.prog (z1e N) c) : zy Go.Proofs.Try.prog c (zi zp [0, 1, 0, 0, 1, 1, 0, 0, 1, 0, 1, 1, 1, 1]) (z6o N) :=
  z10 (s := [(1, .box (.pair .str (.pair (.int .i64) (.pair (.int .i64) (.pair (.sl (.pair (.int .i64) (.pair .str .unit))) .unit))))), (1, .box (.int .i64)), (0, .clo 52 [3, 1]), (1, .box (.pair (.int .i64) (.pair .str .unit))), (24, .v (.sl (.pair (.int .i64) (.pair .str .unit)))), (0, .v (.int .i64)), (0, .v (.int .i64))]) (m := 15) (g := z6s N) [4, 6, 33, 32, 31, 3, 1] (zd hb N (zeh N) z1n zp TabOk.nil [0, 1, 0, 0, 1, 1, 0, 0, 1, 0, 1, 1, 1, 1] _ rfl) (fun x K => by kernel_rfl)

def z6k (N : Nat) (x31 : (List (Int × ((List UInt8) × Unit)))) (x32 : Int) (t : ((List UInt8) × (Int × (Int × ((List (Int × ((List UInt8) × Unit))) × Unit))))) (last : Int) (x33 : Int) (rec : ((List UInt8) × (Int × (Int × ((List (Int × ((List UInt8) × Unit))) × Unit)))) -> Int -> Int -> Option Bool) (k0 : Bool -> Option Bool) (k1 : Option Bool) : Option Bool :=
 cond (decide (x33 < x32))
 (cond (Go.Lift.inR x33 (List.length x31))
 (z6l N t last (List.getD x31 (Int.toNat x33) ((0 : Int), (([] : List UInt8), ()))) x31 x32 x33
 (fun t1 last1 x47 => cond x47
 (k0 false)
 (rec t1 last1 (Go.IntKind.wrap Go.IntKind.i64 (x33 + (1 : Int))))))
 (none))
 (k1)

def zel (N : Nat) (t : ((List UInt8) × (Int × (Int × ((List (Int × ((List UInt8) × Unit))) × Unit))))) (last : Int) (x31 : (List (Int × ((List UInt8) × Unit)))) (x32 : Int) (x33 : Int) (k0 : Bool -> Option Bool) (k1 : Option Bool) : Option Bool :=
 iter (fun (v : (((List UInt8) × (Int × (Int × ((List (Int × ((List UInt8) × Unit))) × Unit)))) × Int × Int)) r => z6k N x31 x32 v.1 v.2.1 v.2.2 (fun t last x33 => (r (t, last, x33))) k0 k1) N (t, last, x33)

def z6t (N : Nat) (i : ((List (Int × ((List UInt8) × Unit))) × Int)) (v : (((List UInt8) × (Int × (Int × ((List (Int × ((List UInt8) × Unit))) × Unit)))) × Int × Int)) (r : (((List UInt8) × (Int × (Int × ((List (Int × ((List UInt8) × Unit))) × Unit)))) × Int × Int) -> Option Bool) (K : Ex -> List A -> Option Bool) : Option Bool :=
 z6k N i.1 i.2 v.1 v.2.1 v.2.2 (fun t last x33 => (r (t, last, x33))) (fun a0 => (K .ret (mkS [(2, .v .bool)] 46 (a0, ())))) (K (.exit 0) (mkS [] 49 ()))

def z6p (N : Nat) : Hd Bool := fun st K => (unS [(1, .box (.pair .str (.pair (.int .i64) (.pair (.int .i64) (.pair (.sl (.pair (.int .i64) (.pair .str .unit))) .unit))))), (1, .box (.int .i64)), (0, .clo 52 [3, 1]), (26, .v (.sl (.pair (.int .i64) (.pair .str .unit)))), (0, .v (.int .i64)), (0, .v (.int .i64))] 15 (restr [33, 32, 31, 4, 3, 1] 0 st)).bind fun x => iter (fun v r => z6t N ((fun x => (x.2.2.2.1, x.2.2.2.2.1)) x) v r K) N ((fun x => (x.1, x.2.1, x.2.2.2.2.2.1)) x)

def zei (N : Nat) : Tab Bool := [([0, 1, 0, 0, 1, 1, 0, 0, 1, 0, 1, 1, 1, 1], z6o N)]

theorem zda {N : Nat} {c : Ctx} (hb : Base Go.Proofs.Try.prog (z1e N) c) : zy Go.Proofs.Try.prog c (zi zp [0, 1, 0, 1, 1, 1, 1]) (z6p N) :=
  z7m (s := [(1, .box (.pair .str (.pair (.int .i64) (.pair (.int .i64) (.pair (.sl (.pair (.int .i64) (.pair .str .unit))) .unit))))), (1, .box (.int .i64)), (0, .clo 52 [3, 1]), (26, .v (.sl (.pair (.int .i64) (.pair .str .unit)))), (0, .v (.int .i64)), (0, .v (.int .i64))]) (m := 15) (z6t N) [33, 32, 31, 4, 3, 1] N (fun x => (x.2.2.2.1, x.2.2.2.2.1)) (fun x => (x.1, x.2.1, x.2.2.2.2.2.1)) (fun i v => (v.1, v.2.1, (), i.1, i.2, v.2.2, ())) (fun _ => rfl) (zd hb N (zei N) z1n zp (TabOk.cons (zd9 hb) TabOk.nil) [0, 0, 1, 0, 1, 1, 1, 1] _ rfl) (fun i v r K => by kernel_rfl)

def z43 (N : Nat) (t : ((List UInt8) × (Int × (Int × ((List (Int × ((List UInt8) × Unit))) × Unit))))) : Option Bool :=
 z6n N t
 (fun x2 => some x2)
 (zel N t (0 : Int) t.2.2.2.1 (((List.length t.2.2.2.1) : Nat) : Int) (0 : Int)
 (fun x21 => some x21)
 (some true))

def z87 (N : Nat) : Tab Bool := [([0, 1], z6r N), ([0, 1, 0, 1, 1, 1, 1], z6p N)]

theorem zbk (N : Nat) (x : z1j [(0, .v (.pair .str (.pair (.int .i64) (.pair (.int .i64) (.pair (.sl (.pair (.int .i64) (.pair .str .unit))) .unit)))))]) : z60 (z1e N) N (z87 N) z1n Go.Proofs.Try.f46 (mkS [(0, .v (.pair .str (.pair (.int .i64) (.pair (.int .i64) (.pair (.sl (.pair (.int .i64) (.pair .str .unit))) .unit)))))] 0 x) (z2d (.v .bool) 1) = z43 N x.1 := by kernel_rfl

def z67 (N : Nat) : List A -> Res := z17 [(0, .v (.pair .str (.pair (.int .i64) (.pair (.int .i64) (.pair (.sl (.pair (.int .i64) (.pair .str .unit))) .unit)))))] (fun x => z43 N x.1) (z5v (.v .bool) 1)

theorem zem (N : Nat) : Contract Go.Proofs.Try.prog z9 46 (z67 N) :=
  Contract.of (E := z1e N) (H := z87 N) (L := z1n) (N := N) (body := zp) (K := (z2d (.v .bool) 1)) (zdd N) Go.Proofs.Try.func46 (by kernel_rfl) (by decide) (fun _ hb => (TabOk.cons (zdc hb) (TabOk.cons (zda hb) TabOk.nil))) (fun x y h => by rw [zbk]; exact h) (zw (s := (.v .bool)) (m := 1))

def z1f : Code := (Go.Proofs.Try.f35.body).getD .skip

def z4d : List (List Nat × List Nat) := [([0], [1]), ([0, 0, 1], [14, 1]), ([1, 0, 1], [1]), ([0, 0, 1, 0, 1], [2]), ([1, 0, 1, 0, 1], [2]), ([0, 0, 1, 1], [18, 17, 16, 1]), ([0, 1, 0, 1, 1], [18, 17, 16, 1]), ([0, 0, 0, 1, 0, 1, 1], [19, 18, 16, 1, 17]), ([0, 1, 0, 0, 1, 0, 1, 1], [18, 16, 1, 17]), ([1, 0, 1, 0, 0, 1, 0, 1, 1], []), ([0, 0, 0, 1, 1, 0, 0, 1, 0, 1, 1], [3, 4, 1, 18, 17, 16]), ([0, 1, 0, 0, 1, 1, 0, 0, 1, 0, 1, 1], [41, 18, 17, 16, 1]), ([1, 1, 0, 0, 1, 1, 0, 0, 1, 0, 1, 1], [18, 17, 16, 1]), ([0, 0, 1, 1, 0, 0, 1, 1, 0, 0, 1, 0, 1, 1], [2]), ([1, 0, 1, 1, 0, 0, 1, 1, 0, 0, 1, 0, 1, 1], [2]), ([0, 1, 1, 0, 0, 1, 0, 1, 1], [18, 17, 16, 1]), ([1, 1, 1, 0, 0, 1, 0, 1, 1], [18, 17, 16, 1]), ([1, 0, 1, 1], []), ([0, 1, 1, 1], [2]), ([1, 1, 1, 1], [2])]

def z33 (N : Nat) : Env := z1x tys z9 [(46, z67 N), (45, z4j N)] [] [] [] false [] []

theorem zno (N : Nat) : EnvOk Go.Proofs.Try.prog (z33 N) := zj mixed z14 (FnsOk.cons (zem N) (FnsOk.cons (z8m N) (FnsOk.nil))) (ItsOk.nil)

def zfm (N : Nat) (s : ((List ((List UInt8) × (Int × (Int × ((List (Int × ((List UInt8) × Unit))) × Unit))))) × (Int × Unit))) (k0 : Bool -> Option Bool) : Option Bool :=
 cond (decide ((16 : Int) < (((List.length s.1) : Nat) : Int)))
 (k0 true)
 ((z32 N s.2.1 (0 : Int)).bind fun y =>
 k0 (!y))

def zfu (N : Nat) (x : z1j [(1, .box (.pair (.sl (.pair .str (.pair (.int .i64) (.pair (.int .i64) (.pair (.sl (.pair (.int .i64) (.pair .str .unit))) .unit))))) (.pair (.int .i64) .unit)))]) (K : Ex -> List A -> Option Bool) : Option Bool :=
 zfm N x.1 (fun a1 => (K .normal (mkS [(1, .box (.pair (.sl (.pair .str (.pair (.int .i64) (.pair (.int .i64) (.pair (.sl (.pair (.int .i64) (.pair .str .unit))) .unit))))) (.pair (.int .i64) .unit))), (12, .v .bool)] 28 (x.1, a1, ()))))

def zfq (N : Nat) : Hd Bool := fun st K => (unS [(1, .box (.pair (.sl (.pair .str (.pair (.int .i64) (.pair (.int .i64) (.pair (.sl (.pair (.int .i64) (.pair .str .unit))) .unit))))) (.pair (.int .i64) .unit)))] 41 (restr [1] 0 st)).bind fun x => zfu N x K

def zq1 (N : Nat) : Tab Bool := []

theorem znm {N : Nat} {c : Ctx} (hb : Base Go.Proofs.Try.prog (z33 N) c) : zy Go.Proofs.Try.prog c (zi z1f [0, 0, 1]) (zfq N) :=
  z10 (s := [(1, .box (.pair (.sl (.pair .str (.pair (.int .i64) (.pair (.int .i64) (.pair (.sl (.pair (.int .i64) (.pair .str .unit))) .unit))))) (.pair (.int .i64) .unit)))]) (m := 41) (g := zfu N) [1] (zd hb N (zq1 N) z4d z1f TabOk.nil [0, 0, 1] _ rfl) (fun x K => by kernel_rfl)

def zfn (N : Nat) (s : ((List ((List UInt8) × (Int × (Int × ((List (Int × ((List UInt8) × Unit))) × Unit))))) × (Int × Unit))) (k0 : Bool -> Option Bool) (k1 : Option Bool) : Option Bool :=
 zfm N s
 (fun x14 => cond x14
 (k0 false)
 (k1))

def zfv (N : Nat) (x : z1j [(1, .box (.pair (.sl (.pair .str (.pair (.int .i64) (.pair (.int .i64) (.pair (.sl (.pair (.int .i64) (.pair .str .unit))) .unit))))) (.pair (.int .i64) .unit)))]) (K : Ex -> List A -> Option Bool) : Option Bool :=
 zfn N x.1 (fun a0 => (K .ret (mkS [(2, .v .bool)] 40 (a0, ())))) (K .normal (mkS [(1, .box (.pair (.sl (.pair .str (.pair (.int .i64) (.pair (.int .i64) (.pair (.sl (.pair (.int .i64) (.pair .str .unit))) .unit))))) (.pair (.int .i64) .unit)))] 41 (x.1, ())))

def zfr (N : Nat) : Hd Bool := fun st K => (unS [(1, .box (.pair (.sl (.pair .str (.pair (.int .i64) (.pair (.int .i64) (.pair (.sl (.pair (.int .i64) (.pair .str .unit))) .unit))))) (.pair (.int .i64) .unit)))] 41 (restr [1] 0 st)).bind fun x => zfv N x K

def zq2 (N : Nat) : Tab Bool := [([0, 0, 1], zfq N)]

theorem znn {N : Nat} {c : Ctx} (hb : Base Go.Proofs.Try.prog (z33 N) c) : zy Go.Proofs.Try.prog c (zi z1f [0, 1]) (zfr N) :=
  z10 (s := [(1, .box (.pair (.sl (.pair .str (.pair (.int .i64) (.pair (.int .i64) (.pair (.sl (.pair (.int .i64) (.pair .str .unit))) .unit))))) (.pair (.int .i64) .unit)))]) (m := 41) (g := zfv N) [1] (zd hb N (zq2 N) z4d z1f (TabOk.cons (znm hb) TabOk.nil) [0, 1] _ rfl) (fun x K => by kernel_rfl)

def zfl (N : Nat) (s : ((List ((List UInt8) × (Int × (Int × ((List (Int × ((List UInt8) × Unit))) × Unit))))) × (Int × Unit))) (i : Int) (t : ((List UInt8) × (Int × (Int × ((List (Int × ((List UInt8) × Unit))) × Unit))))) (x16 : (List ((List UInt8) × (Int × (Int × ((List (Int × ((List UInt8) × Unit))) × Unit)))))) (x17 : Int) (x18 : Int) (k0 : Bool -> Option Bool) : Option Bool :=
  cond (decide ((0 : Int) < i))
  (cond (Go.Lift.inR (Go.IntKind.wrap Go.IntKind.i64 (i - (1 : Int))) (List.length s.1))
    (cond ((Go.Op.bytesLess t.1 (List.getD s.1 (Int.toNat (Go.IntKind.wrap Go.IntKind.i64 (i - (1 : Int)))) (([] : List UInt8), ((0 : Int), ((0 : Int), (([] : List (Int × ((List UInt8) × Unit))), ()))))).1) || (t.1 == (List.getD s.1 (Int.toNat (Go.IntKind.wrap Go.IntKind.i64 (i - (1 : Int)))) (([] : List UInt8), ((0 : Int), ((0 : Int), (([] : List (Int × ((List UInt8) × Unit))), ()))))).1))
      (k0 true)
      ((z43 N t).bind fun y =>
        k0 (!y)))
    (none))
  ((z43 N t).bind fun y1 =>
    k0 (!y1))

def zfs (N : Nat) (x : z1j [(1, .box (.pair (.sl (.pair .str (.pair (.int .i64) (.pair (.int .i64) (.pair (.sl (.pair (.int .i64) (.pair .str .unit))) .unit))))) (.pair (.int .i64) .unit))), (1, .v (.int .i64)), (0, .box (.pair .str (.pair (.int .i64) (.pair (.int .i64) (.pair (.sl (.pair (.int .i64) (.pair .str .unit))) .unit))))), (11, .v (.sl (.pair .str (.pair (.int .i64) (.pair (.int .i64) (.pair (.sl (.pair (.int .i64) (.pair .str .unit))) .unit)))))), (0, .v (.int .i64)), (0, .v (.int .i64))]) (K : Ex -> List A -> Option Bool) : Option Bool :=
 zfl N x.1 x.2.1 x.2.2.1 x.2.2.2.1 x.2.2.2.2.1 x.2.2.2.2.2.1 (fun a4 => (K .normal (mkS [(1, .box (.pair (.sl (.pair .str (.pair (.int .i64) (.pair (.int .i64) (.pair (.sl (.pair (.int .i64) (.pair .str .unit))) .unit))))) (.pair (.int .i64) .unit))), (14, .v (.sl (.pair .str (.pair (.int .i64) (.pair (.int .i64) (.pair (.sl (.pair (.int .i64) (.pair .str .unit))) .unit)))))), (0, .v (.int .i64)), (0, .v (.int .i64)), (22, .v .bool)] 1 (x.1, x.2.2.2.1, x.2.2.2.2.1, x.2.2.2.2.2.1, a4, ()))))

def zfo (N : Nat) : Hd Bool := fun st K => (unS [(1, .box (.pair (.sl (.pair .str (.pair (.int .i64) (.pair (.int .i64) (.pair (.sl (.pair (.int .i64) (.pair .str .unit))) .unit))))) (.pair (.int .i64) .unit))), (1, .v (.int .i64)), (0, .box (.pair .str (.pair (.int .i64) (.pair (.int .i64) (.pair (.sl (.pair (.int .i64) (.pair .str .unit))) .unit))))), (11, .v (.sl (.pair .str (.pair (.int .i64) (.pair (.int .i64) (.pair (.sl (.pair (.int .i64) (.pair .str .unit))) .unit)))))), (0, .v (.int .i64)), (0, .v (.int .i64))] 24 (restr [3, 4, 1, 18, 17, 16] 0 st)).bind fun x => zfs N x K

def zpz (N : Nat) : Tab Bool := []

theorem znk {N : Nat} {c : Ctx} (hb : Base Go.Proofs.Try.prog (z33 N) c) : zy Go.Proofs.Try.prog c (zi z1f [0, 1, 0, 0, 1, 1, 0, 0, 1, 0, 1, 1]) (zfo N) :=
  z10 (s := [(1, .box (.pair (.sl (.pair .str (.pair (.int .i64) (.pair (.int .i64) (.pair (.sl (.pair (.int .i64) (.pair .str .unit))) .unit))))) (.pair (.int .i64) .unit))), (1, .v (.int .i64)), (0, .box (.pair .str (.pair (.int .i64) (.pair (.int .i64) (.pair (.sl (.pair (.int .i64) (.pair .str .unit))) .unit))))), (11, .v (.sl (.pair .str (.pair (.int .i64) (.pair (.int .i64) (.pair (.sl (.pair (.int .i64) (.pair .str .unit))) .unit)))))), (0, .v (.int .i64)), (0, .v (.int .i64))]) (m := 24) (g := zfs N) [3, 4, 1, 18, 17, 16] (zd hb N (zpz N) z4d z1f TabOk.nil [0, 1, 0, 0, 1, 1, 0, 0, 1, 0, 1, 1] _ rfl) (fun x K => by kernel_rfl)

def zfk (N : Nat) (s : ((List ((List UInt8) × (Int × (Int × ((List (Int × ((List UInt8) × Unit))) × Unit))))) × (Int × Unit))) (x16 : (List ((List UInt8) × (Int × (Int × ((List (Int × ((List UInt8) × Unit))) × Unit)))))) (x17 : Int) (x18 : Int) (rec : Int -> Option Bool) (k0 : Bool -> Option Bool) (k1 : Option Bool) : Option Bool :=
 cond (decide (x18 < x17))
 (cond (Go.Lift.inR x18 (List.length x16))
 (zfl N s x18 (List.getD x16 (Int.toNat x18) (([] : List UInt8), ((0 : Int), ((0 : Int), (([] : List (Int × ((List UInt8) × Unit))), ()))))) x16 x17 x18
 (fun x41 => cond x41
 (k0 false)
 (rec (Go.IntKind.wrap Go.IntKind.i64 (x18 + (1 : Int))))))
 (none))
 (k1)

def zq3 (N : Nat) (s : ((List ((List UInt8) × (Int × (Int × ((List (Int × ((List UInt8) × Unit))) × Unit))))) × (Int × Unit))) (x16 : (List ((List UInt8) × (Int × (Int × ((List (Int × ((List UInt8) × Unit))) × Unit)))))) (x17 : Int) (x18 : Int) (k0 : Bool -> Option Bool) (k1 : Option Bool) : Option Bool :=
 iter (fun (v : Int) r => zfk N s x16 x17 v (fun x18 => (r x18)) k0 k1) N x18

def zft (N : Nat) (i : (((List ((List UInt8) × (Int × (Int × ((List (Int × ((List UInt8) × Unit))) × Unit))))) × (Int × Unit)) × (List ((List UInt8) × (Int × (Int × ((List (Int × ((List UInt8) × Unit))) × Unit))))) × Int)) (v : Int) (r : Int -> Option Bool) (K : Ex -> List A -> Option Bool) : Option Bool :=
 zfk N i.1 i.2.1 i.2.2 v (fun x18 => (r x18)) (fun a0 => (K .ret (mkS [(2, .v .bool)] 40 (a0, ())))) (K (.exit 0) (mkS [] 43 ()))

def zfp (N : Nat) : Hd Bool := fun st K => (unS [(1, .box (.pair (.sl (.pair .str (.pair (.int .i64) (.pair (.int .i64) (.pair (.sl (.pair (.int .i64) (.pair .str .unit))) .unit))))) (.pair (.int .i64) .unit))), (14, .v (.sl (.pair .str (.pair (.int .i64) (.pair (.int .i64) (.pair (.sl (.pair (.int .i64) (.pair .str .unit))) .unit)))))), (0, .v (.int .i64)), (0, .v (.int .i64))] 24 (restr [18, 17, 16, 1] 0 st)).bind fun x => iter (fun v r => zft N ((fun x => (x.1, x.2.1, x.2.2.1)) x) v r K) N ((fun x => x.2.2.2.1) x)

def zq0 (N : Nat) : Tab Bool := [([0, 1, 0, 0, 1, 1, 0, 0, 1, 0, 1, 1], zfo N)]

theorem znl {N : Nat} {c : Ctx} (hb : Base Go.Proofs.Try.prog (z33 N) c) : zy Go.Proofs.Try.prog c (zi z1f [0, 1, 0, 1, 1]) (zfp N) :=
  z7m (s := [(1, .box (.pair (.sl (.pair .str (.pair (.int .i64) (.pair (.int .i64) (.pair (.sl (.pair (.int .i64) (.pair .str .unit))) .unit))))) (.pair (.int .i64) .unit))), (14, .v (.sl (.pair .str (.pair (.int .i64) (.pair (.int .i64) (.pair (.sl (.pair (.int .i64) (.pair .str .unit))) .unit)))))), (0, .v (.int .i64)), (0, .v (.int .i64))]) (m := 24) (zft N) [18, 17, 16, 1] N (fun x => (x.1, x.2.1, x.2.2.1)) (fun x => x.2.2.2.1) (fun i v => (i.1, i.2.1, i.2.2, v, ())) (fun _ => rfl) (zd hb N (zq0 N) z4d z1f (TabOk.cons (znk hb) TabOk.nil) [0, 0, 1, 0, 1, 1] _ rfl) (fun i v r K => by kernel_rfl)

def zhp (N : Nat) (s : ((List ((List UInt8) × (Int × (Int × ((List (Int × ((List UInt8) × Unit))) × Unit))))) × (Int × Unit))) : Option Bool :=
 zfn N s
 (fun x2 => some x2)
 (zq3 N s s.1 (((List.length s.1) : Nat) : Int) (0 : Int)
 (fun x21 => some x21)
 (some true))

def ziv (N : Nat) : Tab Bool := [([0, 1], zfr N), ([0, 1, 0, 1, 1], zfp N)]

theorem zlh (N : Nat) (x : z1j [(0, .v (.pair (.sl (.pair .str (.pair (.int .i64) (.pair (.int .i64) (.pair (.sl (.pair (.int .i64) (.pair .str .unit))) .unit))))) (.pair (.int .i64) .unit)))]) : z60 (z33 N) N (ziv N) z4d Go.Proofs.Try.f35 (mkS [(0, .v (.pair (.sl (.pair .str (.pair (.int .i64) (.pair (.int .i64) (.pair (.sl (.pair (.int .i64) (.pair .str .unit))) .unit))))) (.pair (.int .i64) .unit)))] 0 x) (z2d (.v .bool) 1) = zhp N x.1 := by kernel_rfl

def zdp (N : Nat) : List A -> Res := z17 [(0, .v (.pair (.sl (.pair .str (.pair (.int .i64) (.pair (.int .i64) (.pair (.sl (.pair (.int .i64) (.pair .str .unit))) .unit))))) (.pair (.int .i64) .unit)))] (fun x => zhp N x.1) (z5v (.v .bool) 1)

theorem zq4 (N : Nat) : Contract Go.Proofs.Try.prog z9 35 (zdp N) :=
  Contract.of (E := z33 N) (H := ziv N) (L := z4d) (N := N) (body := z1f) (K := (z2d (.v .bool) 1)) (zno N) Go.Proofs.Try.func35 (by kernel_rfl) (by decide) (fun _ hb => (TabOk.cons (znn hb) (TabOk.cons (znl hb) TabOk.nil))) (fun x y h => by rw [zlh]; exact h) (zw (s := (.v .bool)) (m := 1))

def zby : Code := (Go.Proofs.Try.f36.body).getD .skip

def z8d : List (List Nat × List Nat) := [([0], [0, 1, 2, 6]), ([0, 1], [6]), ([1, 1], [6])]

def z4n (N : Nat) : Env := z1x tys z9 [] [] [] [] false [] []

theorem zdi (N : Nat) : EnvOk Go.Proofs.Try.prog (z4n N) := zj mixed z14 (FnsOk.nil) (ItsOk.nil)

def zap (N : Nat) (tenant : (List UInt8)) (epoch : Int) (next : Int) : Option (Int × ((List UInt8) × (Int × (Int × ((List UInt8) × Unit))))) :=
 some ((1 : Int), (tenant, (next, (epoch, (([] : List UInt8), ())))))

def z8c (N : Nat) : Tab (Int × ((List UInt8) × (Int × (Int × ((List UInt8) × Unit))))) := []

theorem zbx (N : Nat) (x : z1j [(0, .v .str), (0, .v (.int .i64)), (0, .v (.int .i64))]) : z60 (z4n N) N (z8c N) z8d Go.Proofs.Try.f36 (mkS [(0, .v .str), (0, .v (.int .i64)), (0, .v (.int .i64))] 0 x) (z2d (.v (.pair (.int .i64) (.pair .str (.pair (.int .i64) (.pair (.int .i64) (.pair .str .unit)))))) 3) = zap N x.1 x.2.1 x.2.2.1 := by kernel_rfl

def z69 (N : Nat) : List A -> Res := z17 [(0, .v .str), (0, .v (.int .i64)), (0, .v (.int .i64))] (fun x => zap N x.1 x.2.1 x.2.2.1) (z5v (.v (.pair (.int .i64) (.pair .str (.pair (.int .i64) (.pair (.int .i64) (.pair .str .unit)))))) 3)

theorem zes (N : Nat) : Contract Go.Proofs.Try.prog z9 36 (z69 N) :=
  Contract.of (E := z4n N) (H := z8c N) (L := z8d) (N := N) (body := zby) (K := (z2d (.v (.pair (.int .i64) (.pair .str (.pair (.int .i64) (.pair (.int .i64) (.pair .str .unit)))))) 3)) (zdi N) Go.Proofs.Try.func36 (by kernel_rfl) (by decide) (fun _ hb => TabOk.nil) (fun x y h => by rw [zbx]; exact h) (zw (s := (.v (.pair (.int .i64) (.pair .str (.pair (.int .i64) (.pair (.int .i64) (.pair .str .unit))))))) (m := 3))

def zg9 : Code := (Go.Proofs.Try.f37.body).getD .skip

def zc0 : List (List Nat × List Nat) := [([0], [0, 1, 2, 6]), ([0, 1], [6]), ([1, 1], [6])]

def z7g (N : Nat) : Env := z1x tys z9 [] [] [] [] false [] []

theorem zht (N : Nat) : EnvOk Go.Proofs.Try.prog (z7g N) := zj mixed z14 (FnsOk.nil) (ItsOk.nil)

def zga (N : Nat) (tenant : (List UInt8)) (num : Int) (key : (List UInt8)) : Option (Int × ((List UInt8) × (Int × (Int × ((List UInt8) × Unit))))) :=
 some ((2 : Int), (tenant, (num, ((0 : Int), (key, ())))))

def zbz (N : Nat) : Tab (Int × ((List UInt8) × (Int × (Int × ((List UInt8) × Unit))))) := []

theorem zg8 (N : Nat) (x : z1j [(0, .v .str), (0, .v (.int .i64)), (0, .v .str)]) : z60 (z7g N) N (zbz N) zc0 Go.Proofs.Try.f37 (mkS [(0, .v .str), (0, .v (.int .i64)), (0, .v .str)] 0 x) (z2d (.v (.pair (.int .i64) (.pair .str (.pair (.int .i64) (.pair (.int .i64) (.pair .str .unit)))))) 3) = zga N x.1 x.2.1 x.2.2.1 := by kernel_rfl

def z9c (N : Nat) : List A -> Res := z17 [(0, .v .str), (0, .v (.int .i64)), (0, .v .str)] (fun x => zga N x.1 x.2.1 x.2.2.1) (z5v (.v (.pair (.int .i64) (.pair .str (.pair (.int .i64) (.pair (.int .i64) (.pair .str .unit)))))) 3)

theorem zk6 (N : Nat) : Contract Go.Proofs.Try.prog z9 37 (z9c N) :=
  Contract.of (E := z7g N) (H := zbz N) (L := zc0) (N := N) (body := zg9) (K := (z2d (.v (.pair (.int .i64) (.pair .str (.pair (.int .i64) (.pair (.int .i64) (.pair .str .unit)))))) 3)) (zht N) Go.Proofs.Try.func37 (by kernel_rfl) (by decide) (fun _ hb => TabOk.nil) (fun x y h => by rw [zg8]; exact h) (zw (s := (.v (.pair (.int .i64) (.pair .str (.pair (.int .i64) (.pair (.int .i64) (.pair .str .unit))))))) (m := 3))

def z3a : Code := (Go.Proofs.Try.f23.body).getD .skip

def z8e : List (List Nat × List Nat) := [([0], [1]), ([0, 0, 1], [10, 1]), ([1, 0, 1], [1]), ([0, 0, 1, 0, 1], [2]), ([1, 0, 1, 0, 1], [2]), ([0, 1, 1], [1, 3]), ([0, 0, 1, 1, 1], [14, 13, 12, 3, 1]), ([0, 1, 0, 1, 1, 1], [14, 13, 12, 3, 1]), ([0, 0, 0, 1, 0, 1, 1, 1], [15, 12, 14, 3, 13, 1]), ([0, 1, 0, 0, 1, 0, 1, 1, 1], [12, 14, 3, 13, 1]), ([1, 0, 1, 0, 0, 1, 0, 1, 1, 1], [3, 1]), ([0, 0, 0, 1, 1, 0, 0, 1, 0, 1, 1, 1], [3, 5, 14, 13, 12, 1]), ([0, 1, 0, 0, 1, 1, 0, 0, 1, 0, 1, 1, 1], [5, 3, 14, 13, 12, 1]), ([0, 1, 1, 0, 0, 1, 1, 0, 0, 1, 0, 1, 1, 1], [31, 30, 29, 3, 5, 14, 13, 12, 1]), ([0, 1, 1, 1, 0, 0, 1, 1, 0, 0, 1, 0, 1, 1, 1], [31, 30, 29, 3, 5, 14, 13, 12, 1]), ([0, 0, 0, 1, 1, 1, 0, 0, 1, 1, 0, 0, 1, 0, 1, 1, 1], [32, 29, 31, 3, 5, 30, 14, 13, 12, 1]), ([0, 1, 0, 0, 1, 1, 1, 0, 0, 1, 1, 0, 0, 1, 0, 1, 1, 1], [29, 31, 3, 5, 30, 14, 13, 12, 1]), ([1, 0, 1, 0, 0, 1, 1, 1, 0, 0, 1, 1, 0, 0, 1, 0, 1, 1, 1], [14, 13, 12, 3, 1]), ([0, 0, 0, 1, 1, 0, 0, 1, 1, 1, 0, 0, 1, 1, 0, 0, 1, 0, 1, 1, 1], [3, 5, 7, 31, 30, 29, 14, 13, 12, 1]), ([1, 0, 0, 1, 1, 0, 0, 1, 1, 1, 0, 0, 1, 1, 0, 0, 1, 0, 1, 1, 1], [31, 30, 29, 3, 5, 14, 13, 12, 1]), ([0, 1, 1, 0, 0, 1, 1, 1, 0, 0, 1, 1, 0, 0, 1, 0, 1, 1, 1], [31, 30, 29, 3, 5, 14, 13, 12, 1]), ([1, 1, 1, 0, 0, 1, 1, 1, 0, 0, 1, 1, 0, 0, 1, 0, 1, 1, 1], [31, 30, 29, 3, 5, 14, 13, 12, 1]), ([1, 1, 1, 0, 0, 1, 1, 0, 0, 1, 0, 1, 1, 1], [14, 13, 12, 3, 1]), ([0, 1, 1, 0, 0, 1, 0, 1, 1, 1], [14, 13, 12, 3, 1]), ([1, 1, 1, 0, 0, 1, 0, 1, 1, 1], [14, 13, 12, 3, 1]), ([1, 0, 1, 1, 1], [3, 1]), ([0, 1, 1, 1, 1], [2]), ([1, 1, 1, 1, 1], [2])]

def z5n (N : Nat) : Env := z1x tys z9 [(37, z9c N), (36, z69 N), (35, zdp N)] [(3, (.pair (.int .i64) (.pair .str (.pair (.int .i64) (.pair (.int .i64) (.pair .str .unit)))))), (2, (.pair (.int .i64) (.pair .str (.pair (.int .i64) (.pair (.int .i64) (.pair .str .unit))))))] [] [] false [] []

theorem znx (N : Nat) : EnvOk Go.Proofs.Try.prog (z5n N) := zj mixed z14 (FnsOk.cons (zk6 N) (FnsOk.cons (zes N) (FnsOk.cons (zq4 N) (FnsOk.nil)))) (ItsOk.nil)

def zgb (N : Nat) (s : ((List ((List UInt8) × (Int × (Int × ((List (Int × ((List UInt8) × Unit))) × Unit))))) × (Int × Unit))) (t : ((List UInt8) × (Int × (Int × ((List (Int × ((List UInt8) × Unit))) × Unit))))) (x12 : (List ((List UInt8) × (Int × (Int × ((List (Int × ((List UInt8) × Unit))) × Unit)))))) (x13 : Int) (x14 : Int) (x29 : (List (Int × ((List UInt8) × Unit)))) (x30 : Int) (l : (List (Int × ((List UInt8) × (Int × (Int × ((List UInt8) × Unit))))))) (x31 : Int) (rec : (List (Int × ((List UInt8) × (Int × (Int × ((List UInt8) × Unit)))))) -> Int -> Option (List (Int × ((List UInt8) × (Int × (Int × ((List UInt8) × Unit))))))) (k0 : (List (Int × ((List UInt8) × (Int × (Int × ((List UInt8) × Unit)))))) -> Option (List (Int × ((List UInt8) × (Int × (Int × ((List UInt8) × Unit))))))) : Option (List (Int × ((List UInt8) × (Int × (Int × ((List UInt8) × Unit)))))) :=
 cond (decide (x31 < x30))
 (cond (Go.Lift.inR x31 (List.length x29))
 (cond (decide ((((List.length l) + 1) * 56) <= 70368744177664))
 (rec (l ++ ([((2 : Int), (t.1, ((List.getD x29 (Int.toNat x31) ((0 : Int), (([] : List UInt8), ()))).1, ((0 : Int), ((List.getD x29 (Int.toNat x31) ((0 : Int), (([] : List UInt8), ()))).2.1, ())))))] : List (Int × ((List UInt8) × (Int × (Int × ((List UInt8) × Unit))))))) (Go.IntKind.wrap Go.IntKind.i64 (x31 + (1 : Int))))
 (none))
 (none))
 (k0 l)

def zqi (N : Nat) (s : ((List ((List UInt8) × (Int × (Int × ((List (Int × ((List UInt8) × Unit))) × Unit))))) × (Int × Unit))) (l : (List (Int × ((List UInt8) × (Int × (Int × ((List UInt8) × Unit))))))) (t : ((List UInt8) × (Int × (Int × ((List (Int × ((List UInt8) × Unit))) × Unit))))) (x12 : (List ((List UInt8) × (Int × (Int × ((List (Int × ((List UInt8) × Unit))) × Unit)))))) (x13 : Int) (x14 : Int) (x29 : (List (Int × ((List UInt8) × Unit)))) (x30 : Int) (x31 : Int) (k0 : (List (Int × ((List UInt8) × (Int × (Int × ((List UInt8) × Unit)))))) -> Option (List (Int × ((List UInt8) × (Int × (Int × ((List UInt8) × Unit))))))) : Option (List (Int × ((List UInt8) × (Int × (Int × ((List UInt8) × Unit)))))) :=
 iter (fun (v : ((List (Int × ((List UInt8) × (Int × (Int × ((List UInt8) × Unit)))))) × Int)) r => zgb N s t x12 x13 x14 x29 x30 v.1 v.2 (fun l x31 => (r (l, x31))) k0) N (l, x31)

def zgf (N : Nat) (i : (((List ((List UInt8) × (Int × (Int × ((List (Int × ((List UInt8) × Unit))) × Unit))))) × (Int × Unit)) × ((List UInt8) × (Int × (Int × ((List (Int × ((List UInt8) × Unit))) × Unit)))) × (List ((List UInt8) × (Int × (Int × ((List (Int × ((List UInt8) × Unit))) × Unit))))) × Int × Int × (List (Int × ((List UInt8) × Unit))) × Int)) (v : ((List (Int × ((List UInt8) × (Int × (Int × ((List UInt8) × Unit)))))) × Int)) (r : ((List (Int × ((List UInt8) × (Int × (Int × ((List UInt8) × Unit)))))) × Int) -> Option (List (Int × ((List UInt8) × (Int × (Int × ((List UInt8) × Unit))))))) (K : Ex -> List A -> Option (List (Int × ((List UInt8) × (Int × (Int × ((List UInt8) × Unit))))))) : Option (List (Int × ((List UInt8) × (Int × (Int × ((List UInt8) × Unit)))))) :=
 zgb N i.1 i.2.1 i.2.2.1 i.2.2.2.1 i.2.2.2.2.1 i.2.2.2.2.2.1 i.2.2.2.2.2.2 v.1 v.2 (fun l x31 => (r (l, x31))) (fun a1 => (K (.exit 2) (mkS [(1, .box (.pair (.sl (.pair .str (.pair (.int .i64) (.pair (.int .i64) (.pair (.sl (.pair (.int .i64) (.pair .str .unit))) .unit))))) (.pair (.int .i64) .unit))), (1, .row (.pair (.int .i64) (.pair .str (.pair (.int .i64) (.pair (.int .i64) (.pair .str .unit)))))), (8, .v (.sl (.pair .str (.pair (.int .i64) (.pair (.int .i64) (.pair (.sl (.pair (.int .i64) (.pair .str .unit))) .unit)))))), (0, .v (.int .i64)), (0, .v (.int .i64))] 38 (i.1, a1, i.2.2.1, i.2.2.2.1, i.2.2.2.2.1, ()))))

def zgd (N : Nat) : Hd (List (Int × ((List UInt8) × (Int × (Int × ((List UInt8) × Unit)))))) := fun st K => (unS [(1, .box (.pair (.sl (.pair .str (.pair (.int .i64) (.pair (.int .i64) (.pair (.sl (.pair (.int .i64) (.pair .str .unit))) .unit))))) (.pair (.int .i64) .unit))), (1, .row (.pair (.int .i64) (.pair .str (.pair (.int .i64) (.pair (.int .i64) (.pair .str .unit)))))), (1, .box (.pair .str (.pair (.int .i64) (.pair (.int .i64) (.pair (.sl (.pair (.int .i64) (.pair .str .unit))) .unit))))), (6, .v (.sl (.pair .str (.pair (.int .i64) (.pair (.int .i64) (.pair (.sl (.pair (.int .i64) (.pair .str .unit))) .unit)))))), (0, .v (.int .i64)), (0, .v (.int .i64)), (14, .v (.sl (.pair (.int .i64) (.pair .str .unit)))), (0, .v (.int .i64)), (0, .v (.int .i64))] 21 (restr [31, 30, 29, 3, 5, 14, 13, 12, 1] 0 st)).bind fun x => iter (fun v r => zgf N ((fun x => (x.1, x.2.2.1, x.2.2.2.1, x.2.2.2.2.1, x.2.2.2.2.2.1, x.2.2.2.2.2.2.1, x.2.2.2.2.2.2.2.1)) x) v r K) N ((fun x => (x.2.1, x.2.2.2.2.2.2.2.2.1)) x)

def zqg (N : Nat) : Tab (List (Int × ((List UInt8) × (Int × (Int × ((List UInt8) × Unit)))))) := []

theorem znv {N : Nat} {c : Ctx} (hb : Base Go.Proofs.Try.prog (z5n N) c) : zy Go.Proofs.Try.prog c (zi z3a [0, 1, 1, 1, 0, 0, 1, 1, 0, 0, 1, 0, 1, 1, 1]) (zgd N) :=
  z7m (s := [(1, .box (.pair (.sl (.pair .str (.pair (.int .i64) (.pair (.int .i64) (.pair (.sl (.pair (.int .i64) (.pair .str .unit))) .unit))))) (.pair (.int .i64) .unit))), (1, .row (.pair (.int .i64) (.pair .str (.pair (.int .i64) (.pair (.int .i64) (.pair .str .unit)))))), (1, .box (.pair .str (.pair (.int .i64) (.pair (.int .i64) (.pair (.sl (.pair (.int .i64) (.pair .str .unit))) .unit))))), (6, .v (.sl (.pair .str (.pair (.int .i64) (.pair (.int .i64) (.pair (.sl (.pair (.int .i64) (.pair .str .unit))) .unit)))))), (0, .v (.int .i64)), (0, .v (.int .i64)), (14, .v (.sl (.pair (.int .i64) (.pair .str .unit)))), (0, .v (.int .i64)), (0, .v (.int .i64))]) (m := 21) (zgf N) [31, 30, 29, 3, 5, 14, 13, 12, 1] N (fun x => (x.1, x.2.2.1, x.2.2.2.1, x.2.2.2.2.1, x.2.2.2.2.2.1, x.2.2.2.2.2.2.1, x.2.2.2.2.2.2.2.1)) (fun x => (x.2.1, x.2.2.2.2.2.2.2.2.1)) (fun i v => (i.1, v.1, i.2.1, i.2.2.1, i.2.2.2.1, i.2.2.2.2.1, i.2.2.2.2.2.1, i.2.2.2.2.2.2, v.2, ())) (fun _ => rfl) (zd hb N (zqg N) z8e z3a TabOk.nil [0, 0, 1, 1, 1, 0, 0, 1, 1, 0, 0, 1, 0, 1, 1, 1] _ rfl) (fun i v r K => by kernel_rfl)

def zgc (N : Nat) (s : ((List ((List UInt8) × (Int × (Int × ((List (Int × ((List UInt8) × Unit))) × Unit))))) × (Int × Unit))) (x12 : (List ((List UInt8) × (Int × (Int × ((List (Int × ((List UInt8) × Unit))) × Unit)))))) (x13 : Int) (l : (List (Int × ((List UInt8) × (Int × (Int × ((List UInt8) × Unit))))))) (x14 : Int) (rec : (List (Int × ((List UInt8) × (Int × (Int × ((List UInt8) × Unit)))))) -> Int -> Option (List (Int × ((List UInt8) × (Int × (Int × ((List UInt8) × Unit))))))) (k0 : (List (Int × ((List UInt8) × (Int × (Int × ((List UInt8) × Unit)))))) -> Option (List (Int × ((List UInt8) × (Int × (Int × ((List UInt8) × Unit))))))) : Option (List (Int × ((List UInt8) × (Int × (Int × ((List UInt8) × Unit)))))) :=
 cond (decide (x14 < x13))
 (cond (Go.Lift.inR x14 (List.length x12))
 (cond (decide ((((List.length l) + 1) * 56) <= 70368744177664))
 (zqi N s (l ++ ([((1 : Int), ((List.getD x12 (Int.toNat x14) (([] : List UInt8), ((0 : Int), ((0 : Int), (([] : List (Int × ((List UInt8) × Unit))), ()))))).1, ((List.getD x12 (Int.toNat x14) (([] : List UInt8), ((0 : Int), ((0 : Int), (([] : List (Int × ((List UInt8) × Unit))), ()))))).2.2.1, ((List.getD x12 (Int.toNat x14) (([] : List UInt8), ((0 : Int), ((0 : Int), (([] : List (Int × ((List UInt8) × Unit))), ()))))).2.1, (([] : List UInt8), ())))))] : List (Int × ((List UInt8) × (Int × (Int × ((List UInt8) × Unit))))))) (List.getD x12 (Int.toNat x14) (([] : List UInt8), ((0 : Int), ((0 : Int), (([] : List (Int × ((List UInt8) × Unit))), ()))))) x12 x13 x14 (List.getD x12 (Int.toNat x14) (([] : List UInt8), ((0 : Int), ((0 : Int), (([] : List (Int × ((List UInt8) × Unit))), ()))))).2.2.2.1 (((List.length (List.getD x12 (Int.toNat x14) (([] : List UInt8), ((0 : Int), ((0 : Int), (([] : List (Int × ((List UInt8) × Unit))), ()))))).2.2.2.1) : Nat) : Int) (0 : Int)
 (fun l1 => rec l1 (Go.IntKind.wrap Go.IntKind.i64 (x14 + (1 : Int)))))
 (none))
 (none))
 (k0 l)

def zqj (N : Nat) (s : ((List ((List UInt8) × (Int × (Int × ((List (Int × ((List UInt8) × Unit))) × Unit))))) × (Int × Unit))) (l : (List (Int × ((List UInt8) × (Int × (Int × ((List UInt8) × Unit))))))) (x12 : (List ((List UInt8) × (Int × (Int × ((List (Int × ((List UInt8) × Unit))) × Unit)))))) (x13 : Int) (x14 : Int) (k0 : (List (Int × ((List UInt8) × (Int × (Int × ((List UInt8) × Unit)))))) -> Option (List (Int × ((List UInt8) × (Int × (Int × ((List UInt8) × Unit))))))) : Option (List (Int × ((List UInt8) × (Int × (Int × ((List UInt8) × Unit)))))) :=
 iter (fun (v : ((List (Int × ((List UInt8) × (Int × (Int × ((List UInt8) × Unit)))))) × Int)) r => zgc N s x12 x13 v.1 v.2 (fun l x14 => (r (l, x14))) k0) N (l, x14)

def zgg (N : Nat) (i : (((List ((List UInt8) × (Int × (Int × ((List (Int × ((List UInt8) × Unit))) × Unit))))) × (Int × Unit)) × (List ((List UInt8) × (Int × (Int × ((List (Int × ((List UInt8) × Unit))) × Unit))))) × Int)) (v : ((List (Int × ((List UInt8) × (Int × (Int × ((List UInt8) × Unit)))))) × Int)) (r : ((List (Int × ((List UInt8) × (Int × (Int × ((List UInt8) × Unit)))))) × Int) -> Option (List (Int × ((List UInt8) × (Int × (Int × ((List UInt8) × Unit))))))) (K : Ex -> List A -> Option (List (Int × ((List UInt8) × (Int × (Int × ((List UInt8) × Unit))))))) : Option (List (Int × ((List UInt8) × (Int × (Int × ((List UInt8) × Unit)))))) :=
 zgc N i.1 i.2.1 i.2.2 v.1 v.2 (fun l x14 => (r (l, x14))) (fun a1 => (K (.exit 0) (mkS [(1, .box (.pair (.sl (.pair .str (.pair (.int .i64) (.pair (.int .i64) (.pair (.sl (.pair (.int .i64) (.pair .str .unit))) .unit))))) (.pair (.int .i64) .unit))), (1, .row (.pair (.int .i64) (.pair .str (.pair (.int .i64) (.pair (.int .i64) (.pair .str .unit))))))] 49 (i.1, a1, ()))))

def zge (N : Nat) : Hd (List (Int × ((List UInt8) × (Int × (Int × ((List UInt8) × Unit)))))) := fun st K => (unS [(1, .box (.pair (.sl (.pair .str (.pair (.int .i64) (.pair (.int .i64) (.pair (.sl (.pair (.int .i64) (.pair .str .unit))) .unit))))) (.pair (.int .i64) .unit))), (1, .row (.pair (.int .i64) (.pair .str (.pair (.int .i64) (.pair (.int .i64) (.pair .str .unit)))))), (8, .v (.sl (.pair .str (.pair (.int .i64) (.pair (.int .i64) (.pair (.sl (.pair (.int .i64) (.pair .str .unit))) .unit)))))), (0, .v (.int .i64)), (0, .v (.int .i64))] 38 (restr [14, 13, 12, 3, 1] 0 st)).bind fun x => iter (fun v r => zgg N ((fun x => (x.1, x.2.2.1, x.2.2.2.1)) x) v r K) N ((fun x => (x.2.1, x.2.2.2.2.1)) x)

def zqh (N : Nat) : Tab (List (Int × ((List UInt8) × (Int × (Int × ((List UInt8) × Unit)))))) := [([0, 1, 1, 1, 0, 0, 1, 1, 0, 0, 1, 0, 1, 1, 1], zgd N)]

theorem znw {N : Nat} {c : Ctx} (hb : Base Go.Proofs.Try.prog (z5n N) c) : zy Go.Proofs.Try.prog c (zi z3a [0, 1, 0, 1, 1, 1]) (zge N) :=
  z7m (s := [(1, .box (.pair (.sl (.pair .str (.pair (.int .i64) (.pair (.int .i64) (.pair (.sl (.pair (.int .i64) (.pair .str .unit))) .unit))))) (.pair (.int .i64) .unit))), (1, .row (.pair (.int .i64) (.pair .str (.pair (.int .i64) (.pair (.int .i64) (.pair .str .unit)))))), (8, .v (.sl (.pair .str (.pair (.int .i64) (.pair (.int .i64) (.pair (.sl (.pair (.int .i64) (.pair .str .unit))) .unit)))))), (0, .v (.int .i64)), (0, .v (.int .i64))]) (m := 38) (zgg N) [14, 13, 12, 3, 1] N (fun x => (x.1, x.2.2.1, x.2.2.2.1)) (fun x => (x.2.1, x.2.2.2.2.1)) (fun i v => (i.1, v.1, i.2.1, i.2.2, v.2, ())) (fun _ => rfl) (zd hb N (zqh N) z8e z3a (TabOk.cons (znv hb) TabOk.nil) [0, 0, 1, 0, 1, 1, 1] _ rfl) (fun i v r K => by kernel_rfl)

def zhu (N : Nat) (s : ((List ((List UInt8) × (Int × (Int × ((List (Int × ((List UInt8) × Unit))) × Unit))))) × (Int × Unit))) : Option (List (Int × ((List UInt8) × (Int × (Int × ((List UInt8) × Unit)))))) :=
 (zhp N s).bind fun y =>
 cond (!y)
 (some ([] : List (Int × ((List UInt8) × (Int × (Int × ((List UInt8) × Unit)))))))
 (zqj N s ([] : List (Int × ((List UInt8) × (Int × (Int × ((List UInt8) × Unit)))))) s.1 (((List.length s.1) : Nat) : Int) (0 : Int)
 (fun l => cond (decide ((((List.length l) + 1) * 56) <= 70368744177664))
 (some (l ++ ([((4 : Int), (([] : List UInt8), (s.2.1, ((0 : Int), (([] : List UInt8), ())))))] : List (Int × ((List UInt8) × (Int × (Int × ((List UInt8) × Unit))))))))
 (none)))

def zj5 (N : Nat) : Tab (List (Int × ((List UInt8) × (Int × (Int × ((List UInt8) × Unit)))))) := [([0, 1, 0, 1, 1, 1], zge N)]

theorem zlw (N : Nat) (x : z1j [(0, .v (.pair (.sl (.pair .str (.pair (.int .i64) (.pair (.int .i64) (.pair (.sl (.pair (.int .i64) (.pair .str .unit))) .unit))))) (.pair (.int .i64) .unit)))]) : z60 (z5n N) N (zj5 N) z8e Go.Proofs.Try.f23 (mkS [(0, .v (.pair (.sl (.pair .str (.pair (.int .i64) (.pair (.int .i64) (.pair (.sl (.pair (.int .i64) (.pair .str .unit))) .unit))))) (.pair (.int .i64) .unit)))] 0 x) (z2d (.v (.sl (.pair (.int .i64) (.pair .str (.pair (.int .i64) (.pair (.int .i64) (.pair .str .unit))))))) 1) = zhu N x.1 := by kernel_rfl

def zdw (N : Nat) : List A -> Res := z17 [(0, .v (.pair (.sl (.pair .str (.pair (.int .i64) (.pair (.int .i64) (.pair (.sl (.pair (.int .i64) (.pair .str .unit))) .unit))))) (.pair (.int .i64) .unit)))] (fun x => zhu N x.1) (z5v (.v (.sl (.pair (.int .i64) (.pair .str (.pair (.int .i64) (.pair (.int .i64) (.pair .str .unit))))))) 1)

theorem zqk (N : Nat) : Contract Go.Proofs.Try.prog z9 23 (zdw N) :=
  Contract.of (E := z5n N) (H := zj5 N) (L := z8e) (N := N) (body := z3a) (K := (z2d (.v (.sl (.pair (.int .i64) (.pair .str (.pair (.int .i64) (.pair (.int .i64) (.pair .str .unit))))))) 1)) (znx N) Go.Proofs.Try.func23 (by kernel_rfl) (by decide) (fun _ hb => (TabOk.cons (znw hb) TabOk.nil)) (fun x y h => by rw [zlw]; exact h) (zw (s := (.v (.sl (.pair (.int .i64) (.pair .str (.pair (.int .i64) (.pair (.int .i64) (.pair .str .unit)))))))) (m := 1))

def z5s : Code := (Go.Proofs.Try.f54.body).getD .skip

def z9n : List (List Nat × List Nat) := [([0], [0]), ([0, 1], [0, 3]), ([0, 0, 1, 1], [0, 3]), ([0, 1, 0, 1, 1], [0, 3]), ([0, 0, 0, 0, 1, 0, 1, 1], [7, 3, 0]), ([1, 0, 0, 0, 1, 0, 1, 1], [3, 0]), ([1, 1, 0, 0, 0, 1, 0, 1, 1], [3]), ([0, 0, 1, 0, 0, 1, 0, 1, 1], [0, 3]), ([0, 1, 0, 0, 1, 0, 1, 1], [0, 3]), ([1, 1, 0, 0, 1, 0, 1, 1], [0, 3]), ([1, 0, 1, 1], [3]), ([0, 1, 1, 1], [2]), ([1, 1, 1, 1], [2])]

def z6a (N : Nat) : Env := z1x tys z9 [] [] [] [] false [] []

theorem zl0 (N : Nat) : EnvOk Go.Proofs.Try.prog (z6a N) := zj mixed z14 (FnsOk.nil) (ItsOk.nil)

def zdj (N : Nat) (n : Int) (size : Int) (rec : Int -> Int -> Option Int) (k0 : Int -> Option Int) : Option Int :=
 cond (n != (0 : Int))
 (rec (Go.Lift.shrI Go.IntKind.u64 n (7 : Int)) (Go.IntKind.wrap Go.IntKind.i64 (size + (1 : Int))))
 (k0 size)

def znd (N : Nat) (n : Int) (size : Int) (k0 : Int -> Option Int) : Option Int :=
 iter (fun (v : (Int × Int)) r => zdj N v.1 v.2 (fun n size => (r (n, size))) k0) N (n, size)

def zdl (N : Nat) (i : Unit) (v : (Int × Int)) (r : (Int × Int) -> Option Int) (K : Ex -> List A -> Option Int) : Option Int :=
 zdj N v.1 v.2 (fun n size => (r (n, size))) (fun a0 => (K (.exit 0) (mkS [(3, .v (.int .i64))] 9 (a0, ()))))

def zdk (N : Nat) : Hd Int := fun st K => (unS [(0, .v (.int .u64)), (2, .v (.int .i64))] 9 (restr [0, 3] 0 st)).bind fun x => iter (fun v r => zdl N ((fun x => ()) x) v r K) N ((fun x => (x.1, x.2.1)) x)

def znc (N : Nat) : Tab Int := []

theorem zkz {N : Nat} {c : Ctx} (hb : Base Go.Proofs.Try.prog (z6a N) c) : zy Go.Proofs.Try.prog c (zi z5s [0, 1, 0, 1, 1]) (zdk N) :=
  z7m (s := [(0, .v (.int .u64)), (2, .v (.int .i64))]) (m := 9) (zdl N) [0, 3] N (fun x => ()) (fun x => (x.1, x.2.1)) (fun i v => (v.1, v.2, ())) (fun _ => rfl) (zd hb N (znc N) z9n z5s TabOk.nil [0, 0, 1, 0, 1, 1] _ rfl) (fun i v r K => by kernel_rfl)

def zec (N : Nat) (n : Int) : Option Int :=
 znd N (Go.Lift.shrI Go.IntKind.u64 n (7 : Int)) (1 : Int)
 (fun size => some size)

def zf5 (N : Nat) : Tab Int := [([0, 1, 0, 1, 1], zdk N)]

theorem zjt (N : Nat) (x : z1j [(0, .v (.int .u64))]) : z60 (z6a N) N (zf5 N) z9n Go.Proofs.Try.f54 (mkS [(0, .v (.int .u64))] 0 x) (z2d (.v (.int .i64)) 1) = zec N x.1 := by kernel_rfl

def zb9 (N : Nat) : List A -> Res := z17 [(0, .v (.int .u64))] (fun x => zec N x.1) (z5v (.v (.int .i64)) 1)

theorem zne (N : Nat) : Contract Go.Proofs.Try.prog z9 54 (zb9 N) :=
  Contract.of (E := z6a N) (H := zf5 N) (L := z9n) (N := N) (body := z5s) (K := (z2d (.v (.int .i64)) 1)) (zl0 N) Go.Proofs.Try.func54 (by kernel_rfl) (by decide) (fun _ hb => (TabOk.cons (zkz hb) TabOk.nil)) (fun x y h => by rw [zjt]; exact h) (zw (s := (.v (.int .i64))) (m := 1))

def z6h : Code := (Go.Proofs.Try.f48.body).getD .skip

def zba : List (List Nat × List Nat) := [([0], [0]), ([0, 1], [3, 0]), ([0, 1, 1], [3, 4, 0]), ([0, 0, 1, 1, 1], [11, 10, 4, 0, 3]), ([0, 1, 0, 1, 1, 1], [11, 10, 4, 0, 3]), ([0, 0, 0, 1, 0, 1, 1, 1], [12, 11, 4, 0, 10, 3]), ([0, 1, 0, 0, 1, 0, 1, 1, 1], [11, 4, 0, 10, 3]), ([1, 0, 1, 0, 0, 1, 0, 1, 1, 1], [4, 3]), ([0, 0, 0, 1, 1, 0, 0, 1, 0, 1, 1, 1], [4, 5, 0, 11, 10, 3]), ([0, 1, 0, 0, 1, 1, 0, 0, 1, 0, 1, 1, 1], [0, 11, 10, 4, 3]), ([1, 1, 0, 0, 1, 1, 0, 0, 1, 0, 1, 1, 1], [11, 10, 4, 0, 3]), ([0, 1, 1, 0, 0, 1, 0, 1, 1, 1], [11, 10, 4, 0, 3]), ([1, 1, 1, 0, 0, 1, 0, 1, 1, 1], [11, 10, 4, 0, 3]), ([1, 0, 1, 1, 1], [4, 3]), ([0, 1, 1, 1, 1], [4]), ([0, 1, 1, 1, 1, 1], [2]), ([1, 1, 1, 1, 1, 1], [2])]

def z84 (N : Nat) : Env := z1x tys z9 [(54, zb9 N)] [(4, (.int .u8))] [] [] false [] []

theorem zng (N : Nat) : EnvOk Go.Proofs.Try.prog (z84 N) := zj mixed z14 (FnsOk.cons (zne N) (FnsOk.nil)) (ItsOk.nil)

def zf6 (N : Nat) (size : Int) (x10 : Int) (n : Int) (out : (List Int)) (x11 : Int) (rec : Int -> (List Int) -> Int -> Option (List UInt8)) (k0 : (List Int) -> Option (List UInt8)) : Option (List UInt8) :=
 cond (decide (x11 < x10))
 (cond (Go.Lift.inR x11 (List.length out))
 (cond (decide ((Int.toNat x11) < (List.length out)))
 (rec (Go.Lift.shrI Go.IntKind.u64 n (7 : Int)) (List.set out (Int.toNat x11) (Go.Lift.bitsOp Go.BinOp.or Go.IntKind.u8 (Go.IntKind.wrap Go.IntKind.u8 n) (128 : Int))) (Go.IntKind.wrap Go.IntKind.i64 (x11 + (1 : Int))))
 (none))
 (none))
 (k0 out)

def zpr (N : Nat) (n : Int) (size : Int) (out : (List Int)) (x10 : Int) (x11 : Int) (k0 : (List Int) -> Option (List UInt8)) : Option (List UInt8) :=
 iter (fun (v : (Int × (List Int) × Int)) r => zf6 N size x10 v.1 v.2.1 v.2.2 (fun n out x11 => (r (n, out, x11))) k0) N (n, out, x11)

def zf8 (N : Nat) (i : (Int × Int)) (v : (Int × (List Int) × Int)) (r : (Int × (List Int) × Int) -> Option (List UInt8)) (K : Ex -> List A -> Option (List UInt8)) : Option (List UInt8) :=
 zf6 N i.1 i.2 v.1 v.2.1 v.2.2 (fun n out x11 => (r (n, out, x11))) (fun a1 => (K (.exit 0) (mkS [(3, .v (.int .i64)), (0, .row (.int .u8))] 27 (i.1, a1, ()))))

def zf7 (N : Nat) : Hd (List UInt8) := fun st K => (unS [(0, .v (.int .u64)), (2, .v (.int .i64)), (0, .row (.int .u8)), (5, .v (.int .i64)), (0, .v (.int .i64))] 20 (restr [11, 10, 4, 0, 3] 0 st)).bind fun x => iter (fun v r => zf8 N ((fun x => (x.2.1, x.2.2.2.1)) x) v r K) N ((fun x => (x.1, x.2.2.1, x.2.2.2.2.1)) x)

def zpq (N : Nat) : Tab (List UInt8) := []

theorem znf {N : Nat} {c : Ctx} (hb : Base Go.Proofs.Try.prog (z84 N) c) : zy Go.Proofs.Try.prog c (zi z6h [0, 1, 0, 1, 1, 1]) (zf7 N) :=
  z7m (s := [(0, .v (.int .u64)), (2, .v (.int .i64)), (0, .row (.int .u8)), (5, .v (.int .i64)), (0, .v (.int .i64))]) (m := 20) (zf8 N) [11, 10, 4, 0, 3] N (fun x => (x.2.1, x.2.2.2.1)) (fun x => (x.1, x.2.2.1, x.2.2.2.2.1)) (fun i v => (v.1, i.1, v.2.1, i.2, v.2.2, ())) (fun _ => rfl) (zd hb N (zpq N) zba z6h TabOk.nil [0, 0, 1, 0, 1, 1, 1] _ rfl) (fun i v r K => by kernel_rfl)

def zcy (N : Nat) (n : Int) : Option (List UInt8) :=
 (zec N n).bind fun y =>
 cond (decide (((0 : Int) <= y) /\ ((y <= y) /\ (((y * (1 : Int)) <= (281474976710656 : Int)) /\ (y <= (9223372036854775807 : Int))))))
 (zpr N n y (List.replicate (Int.toNat y) (0 : Int)) y (0 : Int)
 (fun out => cond (Go.Lift.inR (Go.IntKind.wrap Go.IntKind.i64 (y - (1 : Int))) (List.length out))
 (cond (decide ((Int.toNat (Go.IntKind.wrap Go.IntKind.i64 (y - (1 : Int)))) < (List.length out)))
 (cond (Go.Lift.inR (Go.IntKind.wrap Go.IntKind.i64 (y - (1 : Int))) (List.length out))
 (cond (decide ((Int.toNat (Go.IntKind.wrap Go.IntKind.i64 (y - (1 : Int)))) < (List.length out)))
 (some (Go.Lift.toStr (List.set out (Int.toNat (Go.IntKind.wrap Go.IntKind.i64 (y - (1 : Int)))) (Go.Lift.bitsOp Go.BinOp.andNot Go.IntKind.u8 (List.getD out (Int.toNat (Go.IntKind.wrap Go.IntKind.i64 (y - (1 : Int)))) (0 : Int)) (128 : Int)))))
 (none))
 (none))
 (none))
 (none)))
 (none)

def zir (N : Nat) : Tab (List UInt8) := [([0, 1, 0, 1, 1, 1], zf7 N)]

theorem zl1 (N : Nat) (x : z1j [(0, .v (.int .u64))]) : z60 (z84 N) N (zir N) zba Go.Proofs.Try.f48 (mkS [(0, .v (.int .u64))] 0 x) (z2d (.v .str) 1) = zcy N x.1 := by kernel_rfl

def z8k (N : Nat) : List A -> Res := z17 [(0, .v (.int .u64))] (fun x => zcy N x.1) (z5v (.v .str) 1)

theorem zf9 (N : Nat) : Contract Go.Proofs.Try.prog z9 48 (z8k N) :=
  Contract.of (E := z84 N) (H := zir N) (L := zba) (N := N) (body := z6h) (K := (z2d (.v .str) 1)) (zng N) Go.Proofs.Try.func48 (by kernel_rfl) (by decide) (fun _ hb => (TabOk.cons (znf hb) TabOk.nil)) (fun x y h => by rw [zl1]; exact h) (zw (s := (.v .str)) (m := 1))

def zoc : Code := (Go.Proofs.Try.f39.body).getD .skip

def zmo : List (List Nat × List Nat) := [([0], [0]), ([0, 1], [2]), ([1, 1], [2])]

def zey (N : Nat) : Env := z1x tys z9 [(48, z8k N)] [] [] [] false [] []

theorem zr0 (N : Nat) : EnvOk Go.Proofs.Try.prog (zey N) := zj mixed z14 (FnsOk.cons (zf9 N) (FnsOk.nil)) (ItsOk.nil)

def z2a (N : Nat) (n : Int) : Option (List UInt8) :=
 (zcy N n).bind fun y =>
 some y

def zmn (N : Nat) : Tab (List UInt8) := []

theorem zob (N : Nat) (x : z1j [(0, .v (.int .u64))]) : z60 (zey N) N (zmn N) zmo Go.Proofs.Try.f39 (mkS [(0, .v (.int .u64))] 0 x) (z2d (.v .str) 1) = z2a N x.1 := by kernel_rfl

def zgv (N : Nat) : List A -> Res := z17 [(0, .v (.int .u64))] (fun x => z2a N x.1) (z5v (.v .str) 1)

theorem zjg (N : Nat) : Contract Go.Proofs.Try.prog z9 39 (zgv N) :=
  Contract.of (E := zey N) (H := zmn N) (L := zmo) (N := N) (body := zoc) (K := (z2d (.v .str) 1)) (zr0 N) Go.Proofs.Try.func39 (by kernel_rfl) (by decide) (fun _ hb => TabOk.nil) (fun x y h => by rw [zob]; exact h) (zw (s := (.v .str)) (m := 1))

def z4x : Code := (Go.Proofs.Try.f38.body).getD .skip

def z2v : List (List Nat × List Nat) := [([0], [0, 1]), ([0, 1], [0, 1]), ([0, 1, 1], [1, 0]), ([0, 1, 1, 1], [4, 5, 0]), ([1, 1, 1, 1], [4, 5, 0])]

def z1o (N : Nat) : Env := z1x tys z9 [(47, z122)] [] [] [0] false [] []

theorem z4z (N : Nat) : EnvOk Go.Proofs.Try.prog (z1o N) := zj mixed z14 (FnsOk.cons (cc_ct z9) (FnsOk.nil)) (ItsOk.nil)

def z1d (N : Nat) (b : (Unit × ((List Int) × Unit))) (s : (List UInt8)) : Option ((Int × Go.Value × Unit) × ((Unit × ((List Int) × Unit)) × Unit)) :=
 cond (decide ((((List.length b.2.1) + (List.length (Go.Lift.ofStr s))) * 1) <= 70368744177664))
 (some (((((List.length s) : Nat) : Int), (Go.Value.nilIface, ())), ((b.1, ((b.2.1 ++ (Go.Lift.ofStr s)), b.2.2)), ())))
 (none)

def z2u (N : Nat) : Tab ((Int × Go.Value × Unit) × ((Unit × ((List Int) × Unit)) × Unit)) := []

theorem z4w (N : Nat) (x : z1j [(0, .box (.pair (.self 85) (.pair (.own (.byt 5)) .unit))), (0, .v .str)]) : z60 (z1o N) N (z2u N) z2v Go.Proofs.Try.f38 (mkS [(0, .box (.pair (.self 85) (.pair (.own (.byt 5)) .unit))), (0, .v .str)] 0 x) (zo6 (.tup [(.int .i64), .opq]) [(0, .box (.pair (.self 85) (.pair (.own (.byt 5)) .unit)))] 1) = z1d N x.1 x.2.1 := by kernel_rfl

def z2e (N : Nat) : List A -> Res := z17 [(0, .box (.pair (.self 85) (.pair (.own (.byt 5)) .unit))), (0, .v .str)] (fun x => z1d N x.1 x.2.1) (zsb (.tup [(.int .i64), .opq]) [(0, .box (.pair (.self 85) (.pair (.own (.byt 5)) .unit)))] 1)

theorem z5f (N : Nat) : Contract Go.Proofs.Try.prog z9 38 (z2e N) :=
  Contract.of (E := z1o N) (H := z2u N) (L := z2v) (N := N) (body := z4x) (K := (zo6 (.tup [(.int .i64), .opq]) [(0, .box (.pair (.self 85) (.pair (.own (.byt 5)) .unit)))] 1)) (z4z N) Go.Proofs.Try.func38 (by kernel_rfl) (by decide) (fun _ hb => TabOk.nil) (fun x y h => by rw [z4w]; exact h) (zks (s := (.tup [(.int .i64), .opq])) (os := [(0, .box (.pair (.self 85) (.pair (.own (.byt 5)) .unit)))]) (m := 1))

def z8n : Code := (Go.Proofs.Try.f49.body).getD .skip

def zen : List (List Nat × List Nat) := [([0], [1]), ([0, 1], [1, 3]), ([0, 0, 1, 1], [13, 3, 1]), ([0, 0, 1, 0, 1, 1], [14, 3, 1, 13]), ([1, 0, 1, 0, 1, 1], []), ([0, 1, 1, 0, 1, 0, 1, 1], [27, 3, 1, 13]), ([1, 1, 1, 0, 1, 0, 1, 1], []), ([0, 1, 1, 1, 1, 0, 1, 0, 1, 1], [41, 3, 1, 13]), ([1, 1, 1, 1, 1, 0, 1, 0, 1, 1], []), ([0, 1, 1, 1, 1, 1, 1, 0, 1, 0, 1, 1], [54, 1]), ([1, 1, 1, 1, 1, 1, 1, 0, 1, 0, 1, 1], []), ([0, 0, 1, 1, 1, 1, 1, 1, 1, 0, 1, 0, 1, 1], [2]), ([1, 0, 1, 1, 1, 1, 1, 1, 1, 0, 1, 0, 1, 1], [2]), ([0, 0, 1, 1, 1, 1, 1, 0, 1, 0, 1, 1], [2]), ([1, 0, 1, 1, 1, 1, 1, 0, 1, 0, 1, 1], [2]), ([0, 0, 1, 1, 1, 0, 1, 0, 1, 1], [2]), ([1, 0, 1, 1, 1, 0, 1, 0, 1, 1], [2]), ([0, 0, 1, 0, 1, 0, 1, 1], [2]), ([1, 0, 1, 0, 1, 0, 1, 1], [2]), ([1, 0, 1, 1], []), ([0, 1, 1, 1], [2]), ([1, 1, 1, 1], [2])]

def z9w (N : Nat) : Env := z1x tys z9 [(45, z4j N), (20, z6c N)] [] [] [] false [] []

theorem zq7 (N : Nat) : EnvOk Go.Proofs.Try.prog (z9w N) := zj mixed z14 (FnsOk.cons (z8m N) (FnsOk.cons (zc5 N) (FnsOk.nil))) (ItsOk.nil)

def ziw (N : Nat) (e : (Int × ((List UInt8) × (Int × (Int × ((List UInt8) × Unit)))))) (k0 : Bool -> Option Bool) : Option Bool :=
 (z7k N e.2.1).bind fun y =>
 cond y
 ((z32 N e.2.2.1 (1 : Int)).bind fun y1 =>
 k0 y1)
 (k0 false)

def ziy (N : Nat) (x : z1j [(1, .box (.pair (.int .i64) (.pair .str (.pair (.int .i64) (.pair (.int .i64) (.pair .str .unit))))))]) (K : Ex -> List A -> Option Bool) : Option Bool :=
 ziw N x.1 (fun a1 => (K .normal (mkS [(1, .box (.pair (.int .i64) (.pair .str (.pair (.int .i64) (.pair (.int .i64) (.pair .str .unit)))))), (1, .v .bool)] 70 (x.1, a1, ()))))

def zix (N : Nat) : Hd Bool := fun st K => (unS [(1, .box (.pair (.int .i64) (.pair .str (.pair (.int .i64) (.pair (.int .i64) (.pair .str .unit))))))] 72 (restr [1] 0 st)).bind fun x => ziy N x K

def zs3 (N : Nat) : Tab Bool := []

theorem zq6 {N : Nat} {c : Ctx} (hb : Base Go.Proofs.Try.prog (z9w N) c) : zy Go.Proofs.Try.prog c (zi z8n [0, 1]) (zix N) :=
  z10 (s := [(1, .box (.pair (.int .i64) (.pair .str (.pair (.int .i64) (.pair (.int .i64) (.pair .str .unit))))))]) (m := 72) (g := ziy N) [1] (zd hb N (zs3 N) zen z8n TabOk.nil [0, 1] _ rfl) (fun x K => by kernel_rfl)

def z6w (N : Nat) (e : (Int × ((List UInt8) × (Int × (Int × ((List UInt8) × Unit)))))) : Option Bool :=
 ziw N e
 (fun ofTenant => cond (e.1 == (1 : Int))
 (cond ofTenant
 ((z32 N e.2.2.2.1 (0 : Int)).bind fun y =>
 cond y
 (some (e.2.2.2.2.1 == ([] : List UInt8)))
 (some false))
 (some false))
 (cond (e.1 == (2 : Int))
 (cond ofTenant
 (cond (e.2.2.2.1 == (0 : Int))
 (some ((((List.length e.2.2.2.2.1) : Nat) : Int) == (32 : Int)))
 (some false))
 (some false))
 (cond (e.1 == (3 : Int))
 (cond ofTenant
 (cond (e.2.2.2.1 == (0 : Int))
 (some (e.2.2.2.2.1 == ([] : List UInt8)))
 (some false))
 (some false))
 (cond (e.1 == (4 : Int))
 ((z32 N e.2.2.1 (0 : Int)).bind fun y1 =>
 cond y1
 (cond (e.2.1 == ([] : List UInt8))
 (cond (e.2.2.2.1 == (0 : Int))
 (some (e.2.2.2.2.1 == ([] : List UInt8)))
 (some false))
 (some false))
 (some false))
 (some false)))))

def zli (N : Nat) : Tab Bool := [([0, 1], zix N)]

theorem znp (N : Nat) (x : z1j [(0, .v (.pair (.int .i64) (.pair .str (.pair (.int .i64) (.pair (.int .i64) (.pair .str .unit))))))]) : z60 (z9w N) N (zli N) zen Go.Proofs.Try.f49 (mkS [(0, .v (.pair (.int .i64) (.pair .str (.pair (.int .i64) (.pair (.int .i64) (.pair .str .unit))))))] 0 x) (z2d (.v .bool) 1) = z6w N x.1 := by kernel_rfl

def zq5 (N : Nat) : List A -> Res := z17 [(0, .v (.pair (.int .i64) (.pair .str (.pair (.int .i64) (.pair (.int .i64) (.pair .str .unit))))))] (fun x => z6w N x.1) (z5v (.v .bool) 1)

theorem zs4 (N : Nat) : Contract Go.Proofs.Try.prog z9 49 (zq5 N) :=
  Contract.of (E := z9w N) (H := zli N) (L := zen) (N := N) (body := z8n) (K := (z2d (.v .bool) 1)) (zq7 N) Go.Proofs.Try.func49 (by kernel_rfl) (by decide) (fun _ hb => (TabOk.cons (zq6 hb) TabOk.nil)) (fun x y h => by rw [znp]; exact h) (zw (s := (.v .bool)) (m := 1))

def zmm : Code := (Go.Proofs.Try.f41.body).getD .skip

def zjf : List (List Nat × List Nat) := [([0], [0]), ([0, 1], [2]), ([1, 1], [2])]

def zca (N : Nat) : Env := z1x tys z9 [(48, z8k N)] [] [] [] false [] []

theorem zoa (N : Nat) : EnvOk Go.Proofs.Try.prog (zca N) := zj mixed z14 (FnsOk.cons (zf9 N) (FnsOk.nil)) (ItsOk.nil)

def z2g (N : Nat) (s : (List UInt8)) : Option (List UInt8) :=
 (zcy N (Go.IntKind.wrap Go.IntKind.u64 (((List.length s) : Nat) : Int))).bind fun y =>
 cond (decide (((List.length y) + (List.length s)) <= 9223372036854775807))
 (some (y ++ s))
 (none)

def zje (N : Nat) : Tab (List UInt8) := []

theorem zml (N : Nat) (x : z1j [(0, .v .str)]) : z60 (zca N) N (zje N) zjf Go.Proofs.Try.f41 (mkS [(0, .v .str)] 0 x) (z2d (.v .str) 1) = z2g N x.1 := by kernel_rfl

def zdz (N : Nat) : List A -> Res := z17 [(0, .v .str)] (fun x => z2g N x.1) (z5v (.v .str) 1)

theorem zgu (N : Nat) : Contract Go.Proofs.Try.prog z9 41 (zdz N) :=
  Contract.of (E := zca N) (H := zje N) (L := zjf) (N := N) (body := zmm) (K := (z2d (.v .str) 1)) (zoa N) Go.Proofs.Try.func41 (by kernel_rfl) (by decide) (fun _ hb => TabOk.nil) (fun x y h => by rw [zml]; exact h) (zw (s := (.v .str)) (m := 1))

theorem zmk (S : Hp) : GlobOk z9 S := fun g d h => by cases h

def Calm (w : World) (S : Hp) (w' : World) : Prop := ∃ S', WF w (fun _ => False) w' /\ Lift.Sub S S' /\ Lift.Sub S' (hp w') /\ ∀ k, S' k ≠ none -> S k ≠ none \/ w.heap.size <= k

theorem Calm.refl {w : World} {S : Hp} (h : Lift.Sub S (hp w)) : Calm w S w := ⟨S, WF.refl _ _, Lift.Sub.refl S, h, fun _ h => .inl h⟩

theorem Calm.cell {w w' : World} {S : Hp} {p : Addr} {v : Value} (h : Calm w S w') (hc : w.cell? p = some v) : w'.cell? p = some v := by
  obtain ⟨S', h1, _⟩ := h
  have hlt : p.block < w.heap.size := by
    cases hh : w.heap[p.block]? with
    | none => simp [World.cell?, hh] at hc
    | some o => exact (Array.getElem?_eq_some_iff.1 hh).1
  have := h1.same p.block hlt (fun h => h)
  simp only [World.cell?] at hc ⊢
  rw [this]
  exact hc

theorem Calm.next {w w1 w2 : World} {S : Hp} (h : Calm w S w1) (hk : ∀ S1, Lift.Sub S1 (hp w1) -> Calm w1 S1 w2) : Calm w S w2 := by
  obtain ⟨S1, h1, h2, h3, h4⟩ := h
  obtain ⟨S2, k1, k2, k3, k4⟩ := hk S1 h3
  refine ⟨S2, h1.trans k1 (fun k hk => .inl hk), h2.trans k2, k3, fun k hk => ?_⟩
  rcases k4 k hk with h | h
  . exact h4 k h
  . exact .inr (Nat.le_trans h1.size h)

theorem zug {w w' : World} {S : Hp} {args : List A} {vals : List Value} {r : A} {outs : List A} {e : Ending}
    (h : Lift.Ends w S args vals (fun _ => []) r outs e w') : ∃ v o S', e = .returned v /\ ARel (hp w') S' (fun _ => undef) r v o /\ Calm w S w' := by
  obtain ⟨v, S', o, ob', rfl, hwf, hSS, hSw, hnew, ⟨hr, _⟩, _⟩ := h
  refine ⟨v, o, S', rfl, hr, S', ⟨hwf.size, fun k hk _ => hwf.same k hk (by rintro ⟨i, hi⟩; cases hi), hwf.tape, hwf.os, hwf.output⟩, hSS, hSw, fun k hk => ?_⟩
  rcases hnew k hk with h | ⟨i, hi⟩ | h
  . exact .inl h
  . cases hi
  . exact .inr h

theorem ziq {w : World} {S : Hp} (l : List (A × Value)) (hl : ∀ p ∈ l, ARel (hp w) S (fun _ => undef) p.1 p.2 [] /\ p.1.refs = []) :
    ArgsRel (hp w) S (l.map (·.1)) (l.map (·.2)) (fun _ => []) := by
  refine ⟨by simp, fun i y hy => ?_, fun _ _ => rfl, (fun i j b hb => by cases hb), fun _ => .nil, (fun i b hb => by cases hb)⟩
  simp only [List.getElem?_map] at hy ⊢
  cases hp : l[i]? with
  | none => rw [hp] at hy; cases hy
  | some p =>
    rw [hp] at hy
    cases hy
    have := hl p (List.mem_of_getElem? hp)
    exact ⟨⟨p.2, rfl, this.1⟩, this.2⟩

theorem zsc (N : Nat) {w : World} {S : Hp} (hS : Lift.Sub S (hp w)) {n : Int} {s : List UInt8} (hy : z2a N n = some s) :
    Calls Try.prog 39 #[.int .u64 n] w fun r w' => r = .returned (.string ⟨⟨s⟩⟩) /\ Calm w S w' := by
  refine ((zjg N).2 w S _ _ _ (ziq [(.v (.int .u64) n, .int .u64 n)] (fun p hp => by rw [List.mem_singleton.1 hp]; exact ⟨⟨VR.int, rfl⟩, rfl⟩)) hS (zmk S) _ hy).mono ?_
  intro e w' he
  obtain ⟨v, o, S', rfl, hr, hc⟩ := zug he
  exact ⟨by rw [VR.str_inv hr.1], hc⟩

theorem zvz (N : Nat) {w : World} {S : Hp} (hS : Lift.Sub S (hp w)) {t s : List UInt8} (hy : z2g N t = some s) :
    Calls Try.prog 41 #[.string ⟨⟨t⟩⟩] w fun r w' => r = .returned (.string ⟨⟨s⟩⟩) /\ Calm w S w' := by
  refine ((zgu N).2 w S _ _ _ (ziq [(.v .str t, .string ⟨⟨t⟩⟩)] (fun p hp => by rw [List.mem_singleton.1 hp]; exact ⟨⟨VR.str, rfl⟩, rfl⟩)) hS (zmk S) _ hy).mono ?_
  intro e w' he
  obtain ⟨v, o, S', rfl, hr, hc⟩ := zug he
  exact ⟨by rw [VR.str_inv hr.1], hc⟩

theorem zt3 (a b : List UInt8) : (⟨⟨a⟩⟩ : ByteArray) ++ ⟨⟨b⟩⟩ = ⟨⟨a ++ b⟩⟩ := by
  apply ByteArray.ext
  rw [ByteArray.data_append]
  apply Array.toList_inj.1
  simp

theorem z59 {w : World} {S : Hp} (hS : Lift.Sub S (hp w)) (cs : Array Value) (E : Nat) : Calm w S (w.alloc (.cells cs E)) := by
  have hh : (w.alloc (.cells cs E)).heap = w.heap.push (.cells cs E (0, 0)) := rfl
  have hk : ∀ k, k < w.heap.size -> (w.alloc (.cells cs E)).heap[k]? = w.heap[k]? := fun k hk => by
    rw [hh, Array.getElem?_push, if_neg (by omega)]
  refine ⟨S, ⟨?_, fun k h1 _ => hk k h1, rfl, rfl, rfl⟩, Lift.Sub.refl S, fun k o ho => ?_, fun _ h => .inl h⟩
  . rw [hh, Array.size_push]; omega
  . have := hS k o ho
    simp only [hp] at this ⊢
    rw [hk k (Array.getElem?_eq_some_iff.1 this).1]
    exact this

theorem z2t {w : World} {cs : Array Value} {E i : Nat} {v : Value} (h : cs[i]? = some v) : (w.alloc (.cells cs E)).cell? ⟨w.heap.size, i, none⟩ = some v := by
  have hh : (w.alloc (.cells cs E)).heap = w.heap.push (.cells cs E (0, 0)) := rfl
  simp [World.cell?, hh, h]

set_option maxHeartbeats 4000000 in
theorem zsu {w w' : World} {S : Hp} {args : List A} {vals : List Value} {ob : Nat -> List Nat} {rA : A} {rV : Value} {outs : List A}
    (hb : ∀ y ∈ args, z5o y = false) (hob : ∀ i, ob i = []) (hC : Calm w S w') (hr : ∀ S', ARel (hp w') S' (fun _ => undef) rA rV []) (hrr : rA.refs = []) : Lift.Ends w S args vals ob rA outs (.returned rV) w' := by
  obtain ⟨S', h1, h2, h3, h4⟩ := hC
  refine ⟨rV, S', [], ob, rfl, ⟨h1.size, fun k hk _ => h1.same k hk (fun h => h), h1.tape, h1.os, h1.output⟩, h2, h3, fun k hk => ?_, ⟨hr S', hrr⟩, (fun k hk => by cases hk), .nil, ?_, ?_, ?_, ?_, fun _ h => h⟩
  . rcases h4 k hk with h | h
    . exact .inl h
    . exact .inr (.inr h)
  . intro i y hy hbx
    have := hb y (List.mem_of_getElem? hy)
    rw [hbx] at this
    cases this
  . intro i k hk
    rw [hob i] at hk
    cases hk
  . intro i j k hi
    rw [hob i] at hi
    cases hi
  . intro i
    rw [hob i]
    exact .nil

theorem zsl (N : Nat) {w : World} {S : Hp} (hS : Lift.Sub S (hp w)) {k n e : Int} {t x : List UInt8} {v : Bool} (hy : z6w N (k, t, n, e, x, ()) = some v) :
    Calls Try.prog 49 #[.agg #[.int .i64 k, .string ⟨⟨t⟩⟩, .int .i64 n, .int .i64 e, .string ⟨⟨x⟩⟩]] w fun r w' => r = .returned (.bool v) /\ Calm w S w' := by
  refine ((zs4 N).2 w S _ _ _ (ziq [(.v (.pair (.int .i64) (.pair .str (.pair (.int .i64) (.pair (.int .i64) (.pair .str .unit))))) (k, t, n, e, x, ()), .agg #[.int .i64 k, .string ⟨⟨t⟩⟩, .int .i64 n, .int .i64 e, .string ⟨⟨x⟩⟩])] (fun p hp => by
    rw [List.mem_singleton.1 hp]
    exact ⟨⟨⟨_, rfl, [.int .i64 k], _, rfl, rfl, [.string ⟨⟨t⟩⟩], _, rfl, rfl, [.int .i64 n], _, rfl, rfl, [.int .i64 e], _, rfl, rfl, [.string ⟨⟨x⟩⟩], [], rfl, rfl, rfl⟩, rfl⟩, rfl⟩)) hS (zmk S) _ hy).mono ?_
  intro e' w' he
  obtain ⟨u, o, S', rfl, hr, hc⟩ := zug he
  exact ⟨by rw [VR.bool_inv hr.1], hc⟩

theorem Calm.drew {w w' : World} {S : Hp} (h : Calm w S w') : Calm w S w'.drew := by
  obtain ⟨S', h1, h2, h3, h4⟩ := h
  exact ⟨S', ⟨h1.size, h1.same, h1.tape, h1.os, h1.output⟩, h2, h3, h4⟩

theorem znz {w : World} {b : Nat} :
    Calls Try.prog 50 #[.pointer (some ⟨b, 0, none⟩)] w fun r w' => r = .returned (.agg #[.pointer (some ⟨b, 3, none⟩), .pointer (some ⟨b, 2, none⟩)]) /\ ∀ S, Lift.Sub S (hp w) -> Calm w S w' := by
  go_enter Try.func50, Try.ntmps50
  go_wp2
  go_region_held3 (fun _ => True) (trivial) (fail)
  all_goals go_wp2
  refine ⟨rfl, _, ?_, rfl, fun S hS => (z59 hS _ _).drew⟩
  have c0 : (w.alloc (.cells #[.pointer (some ⟨b, 3, none⟩), .pointer (some ⟨b, 2, none⟩)] 99)).cell? ⟨w.heap.size, 0, none⟩ = some (.pointer (some ⟨b, 3, none⟩)) := z2t rfl
  have c1 : (w.alloc (.cells #[.pointer (some ⟨b, 3, none⟩), .pointer (some ⟨b, 2, none⟩)] 99)).cell? ⟨w.heap.size, 1, none⟩ = some (.pointer (some ⟨b, 2, none⟩)) := z2t rfl
  simp [results, Try.results50, go_sem, c0, c1]

theorem ztu (N : Nat) {w : World} {S : Hp} {b c : Nat} {e n : Int} {a1 a2 : List UInt8} (hS : Lift.Sub S (hp w))
    (c0 : w.cell? ⟨c, 0, none⟩ = some (.pointer (some ⟨b, 3, none⟩))) (c1 : w.cell? ⟨c, 1, none⟩ = some (.pointer (some ⟨b, 2, none⟩)))
    (b2 : w.cell? ⟨b, 2, none⟩ = some (.int .i64 n)) (b3 : w.cell? ⟨b, 3, none⟩ = some (.int .i64 e))
    (he : 0 <= e) (he' : e <= 1099511627776) (h1 : z2a N e = some a1) (hn : 0 <= n) (hn' : n <= 1099511627776) (h2 : z2a N n = some a2)
    (l1 : a1.length <= 9223372036854775807) (l2 : a1.length + a2.length <= 9223372036854775807) :
    Calls Try.prog 51 #[.slice (some ⟨c, 0, none⟩) 2 2] w fun r w' => r = .returned (.string ⟨⟨a1 ++ a2⟩⟩) /\ Calm w S w' := by
  have H1 := zsc N hS h1
  have H2 : ∀ w1, Calm w S w1 -> Calls Try.prog 39 #[.int .u64 n] w1 fun r w' => r = .returned (.string ⟨⟨a2⟩⟩) /\ Calm w S w' := fun w1 ⟨S1, k1, k2, k3, k4⟩ =>
    (zsc N k3 h2).mono (by rintro r w' ⟨rfl, S2, l1, l2, l3, l4⟩; exact ⟨rfl, S2, k1.trans l1 (fun _ h => .inl h), k2.trans l2, l3, fun k hk => (l4 k hk).elim (k4 k) (fun h => .inr (Nat.le_trans k1.size h))⟩)
  go_enter Try.func51, Try.ntmps51
  go_wp2
  refine wp_loop_rounds 3 ?_
  rw [rounds_succ]
  go_wp2_with (go_at_call 39; refine H1.mono ?_; rintro r w1 ⟨rfl, hq⟩; have q1 := hq.cell c1; have q2 := hq.cell b2; have G2 := H2 w1 hq; clear H1 H2 hq)
  rw [rounds_succ]
  go_wp2_with (go_at_call 39; refine G2.mono ?_; rintro r w2 ⟨rfl, hq⟩; have HM := Go.Lib.hid hq; clear G2 hq)
  rw [rounds_succ]
  go_wp2
  first | go_ret | go_ret2
  refine ⟨?_, HM.out⟩
  have z : (⟨#[]⟩ : ByteArray) = ⟨⟨[]⟩⟩ := rfl
  simp [z, zt3]

theorem zcj {w w1 : World} {S : Hp} (h : Calm w S w1) : ∃ S1, Lift.Sub S1 (hp w1) /\ ∀ w2, Calm w1 S1 w2 -> Calm w S w2 := by
  obtain ⟨S1, k1, k2, k3, k4⟩ := h
  exact ⟨S1, k3, fun w2 ⟨S2, l1, l2, l3, l4⟩ => ⟨S2, k1.trans l1 (fun _ h => .inl h), k2.trans l2, l3, fun k hk => (l4 k hk).elim (k4 k) (fun h => .inr (Nat.le_trans k1.size h))⟩⟩

theorem zrh (N : Nat) {w w1 : World} {S : Hp} {t s : List UInt8} (h : Calm w S w1) (hy : z2g N t = some s) :
    Calls Try.prog 41 #[.string ⟨⟨t⟩⟩] w1 fun r w' => r = .returned (.string ⟨⟨s⟩⟩) /\ Calm w S w' := by
  obtain ⟨S1, hS, hk⟩ := zcj h
  exact (zvz N hS hy).mono (by rintro r w' ⟨rfl, hq⟩; exact ⟨rfl, hk _ hq⟩)

theorem ztv (N : Nat) {w w1 : World} {S : Hp} {b c : Nat} {e n : Int} {a1 a2 : List UInt8} (h : Calm w S w1)
    (c0 : w.cell? ⟨c, 0, none⟩ = some (.pointer (some ⟨b, 3, none⟩))) (c1 : w.cell? ⟨c, 1, none⟩ = some (.pointer (some ⟨b, 2, none⟩)))
    (b2 : w.cell? ⟨b, 2, none⟩ = some (.int .i64 n)) (b3 : w.cell? ⟨b, 3, none⟩ = some (.int .i64 e))
    (he : 0 <= e) (he' : e <= 1099511627776) (h1 : z2a N e = some a1) (hn : 0 <= n) (hn' : n <= 1099511627776) (h2 : z2a N n = some a2)
    (l1 : a1.length <= 9223372036854775807) (l2 : a1.length + a2.length <= 9223372036854775807) :
    Calls Try.prog 51 #[.slice (some ⟨c, 0, none⟩) 2 2] w1 fun r w' => r = .returned (.string ⟨⟨a1 ++ a2⟩⟩) /\ Calm w S w' := by
  obtain ⟨S1, hS, hk⟩ := zcj h
  exact (ztu N hS (h.cell c0) (h.cell c1) (h.cell b2) (h.cell b3) he he' h1 hn hn' h2 l1 l2).mono (by rintro r w' ⟨rfl, hq⟩; exact ⟨rfl, hk _ hq⟩)

theorem z10i {W w2 w3 : World} {S : Hp} {b E F : Nat} {k n e : Int} {t x : List UInt8} {p q : Value} (hk : 0 <= k) (hk' : k <= 255)
    (b1 : W.cell? ⟨b, 1, none⟩ = some (.string ⟨⟨t⟩⟩)) (b2 : W.cell? ⟨b, 2, none⟩ = some (.int .i64 n)) (b3 : W.cell? ⟨b, 3, none⟩ = some (.int .i64 e)) (b4 : W.cell? ⟨b, 4, none⟩ = some (.string ⟨⟨x⟩⟩))
    (h1 : Calm W S w2) (h2 : ∀ S, Lift.Sub S (hp w2) -> Calm w2 S w3) :
    ∃ S4, Calm ((w3.alloc (.cells #[p, q] E)).alloc (.cells #[.int .u8 k] F)) S4 ((w3.alloc (.cells #[p, q] E)).alloc (.cells #[.int .u8 k] F)) /\ (∀ w', Calm ((w3.alloc (.cells #[p, q] E)).alloc (.cells #[.int .u8 k] F)) S4 w' -> Calm W S w') ∧
      ((w3.alloc (.cells #[p, q] E)).alloc (.cells #[.int .u8 k] F)).cell? ⟨b, 1, none⟩ = some (.string ⟨⟨t⟩⟩) ∧
      ((w3.alloc (.cells #[p, q] E)).alloc (.cells #[.int .u8 k] F)).cell? ⟨b, 2, none⟩ = some (.int .i64 n) ∧
      ((w3.alloc (.cells #[p, q] E)).alloc (.cells #[.int .u8 k] F)).cell? ⟨b, 3, none⟩ = some (.int .i64 e) ∧
      ((w3.alloc (.cells #[p, q] E)).alloc (.cells #[.int .u8 k] F)).cell? ⟨b, 4, none⟩ = some (.string ⟨⟨x⟩⟩) ∧
      ((w3.alloc (.cells #[p, q] E)).alloc (.cells #[.int .u8 k] F)).cell? ⟨w3.heap.size, 0, none⟩ = some p ∧
      ((w3.alloc (.cells #[p, q] E)).alloc (.cells #[.int .u8 k] F)).cell? ⟨w3.heap.size, 1, none⟩ = some q ∧
      (convert 83 9 (.slice (some ⟨w3.heap.size + 1, 0, none⟩) 1 1)).run Try.prog ((w3.alloc (.cells #[p, q] E)).alloc (.cells #[.int .u8 k] F)) = .ok (.string ⟨⟨[UInt8.ofNat k.toNat]⟩⟩) ((w3.alloc (.cells #[p, q] E)).alloc (.cells #[.int .u8 k] F)) := by
  have hA : Calm W S w3 := h1.next h2
  have hB : Calm W S (w3.alloc (.cells #[p, q] E)) := hA.next fun S1 h => z59 h _ _
  have hC : Calm W S ((w3.alloc (.cells #[p, q] E)).alloc (.cells #[.int .u8 k] F)) := hB.next fun S1 h => z59 h _ _
  have hD := z59 (w := w3.alloc (.cells #[p, q] E)) (S := fun _ => none) (fun _ _ h => by cases h) #[.int .u8 k] F
  have z : (w3.alloc (.cells #[p, q] E)).heap.size = w3.heap.size + 1 := Array.size_push ..
  obtain ⟨S4, i1, i2⟩ := zcj hC
  refine ⟨S4, Calm.refl i1, i2, hC.cell b1, hC.cell b2, hC.cell b3, hC.cell b4, hD.cell (z2t rfl), hD.cell (z2t rfl), ?_⟩
  have := run_convert_bytes_back (P := Try.prog) ((w3.alloc (.cells #[p, q] E)).alloc (.cells #[.int .u8 k] F)) 83 9 5 ⟨w3.heap.size + 1, 0, none⟩ 1 [UInt8.ofNat k.toNat] Try.underlying83 Try.underlying5 Try.underlying9 (fun j hj => by
    have : j = 0 := by simp at hj; exact hj
    subst this
    have hr : (([UInt8.ofNat k.toNat][0]).toNat : Int) = k := by
      have hb : (UInt8.ofNat k.toNat).toNat = k.toNat % 256 := UInt8.toNat_ofNat ..
      show ((UInt8.ofNat k.toNat).toNat : Int) = k
      rw [hb]
      omega
    have := z2t (w := w3.alloc (.cells #[p, q] E)) (cs := #[.int .u8 k]) (E := F) (i := 0) rfl
    rw [z] at this
    rw [hr]
    exact this)
  exact this

attribute [local irreducible] Calm in
set_option maxHeartbeats 3200000 in
theorem zy4 (N : Nat) {w : World} {S : Hp} {k n e : Int} {t x s1 s2 s3 s4 : List UInt8} (hS : Lift.Sub S (hp w)) (hf : z6w N (k, t, n, e, x, ()) = some true) (hk : 0 <= k) (hk' : k <= 255)
    (h1 : z2g N t = some s1) (h4 : z2g N x = some s4)
    (he : 0 <= e) (he' : e <= 1099511627776) (h2 : z2a N e = some s2) (hn : 0 <= n) (hn' : n <= 1099511627776) (h3 : z2a N n = some s3)
    (l1 : 1 + s1.length <= 9223372036854775807) (l2 : 1 + s1.length + (s2.length + s3.length) <= 9223372036854775807) (l3 : 1 + s1.length + (s2.length + s3.length) + s4.length <= 9223372036854775807) :
    Calls Try.prog 40 #[.agg #[.int .i64 k, .string ⟨⟨t⟩⟩, .int .i64 n, .int .i64 e, .string ⟨⟨x⟩⟩]] w (fun r w' => r = .returned (.tuple #[.string ⟨⟨[UInt8.ofNat k.toNat] ++ s1 ++ (s2 ++ s3) ++ s4⟩⟩, .int .i64 0]) /\ Calm w S w') := by
  suffices HX : ∀ R : Ending -> World -> Prop, Go.RowKit.Hid (∀ w', Calm w S w' -> R (.returned (.tuple #[.string ⟨⟨[UInt8.ofNat k.toNat] ++ s1 ++ (s2 ++ s3) ++ s4⟩⟩, .int .i64 0])) w') -> Calls Try.prog 40 #[.agg #[.int .i64 k, .string ⟨⟨t⟩⟩, .int .i64 n, .int .i64 e, .string ⟨⟨x⟩⟩]] w R from HX _ (Go.Lib.hid (fun w' h => ⟨rfl, h⟩))
  intro R HR
  obtain ⟨W, hW⟩ : ∃ W, W = w.alloc (.cells #[.int .i64 k, .string ⟨⟨t⟩⟩, .int .i64 n, .int .i64 e, .string ⟨⟨x⟩⟩] 77) := ⟨_, rfl⟩
  have hc := z59 hS #[.int .i64 k, .string ⟨⟨t⟩⟩, .int .i64 n, .int .i64 e, .string ⟨⟨x⟩⟩] 77
  have b0 : W.cell? ⟨w.heap.size, 0, none⟩ = some (.int .i64 k) := by rw [hW]; exact z2t rfl
  have b1 : W.cell? ⟨w.heap.size, 1, none⟩ = some (.string ⟨⟨t⟩⟩) := by rw [hW]; exact z2t rfl
  have b2 : W.cell? ⟨w.heap.size, 2, none⟩ = some (.int .i64 n) := by rw [hW]; exact z2t rfl
  have b3 : W.cell? ⟨w.heap.size, 3, none⟩ = some (.int .i64 e) := by rw [hW]; exact z2t rfl
  have b4 : W.cell? ⟨w.heap.size, 4, none⟩ = some (.string ⟨⟨x⟩⟩) := by rw [hW]; exact z2t rfl
  rw [<- hW] at hc
  obtain ⟨S1, g3, hcc0⟩ := zcj hc
  have hcc := Go.Lib.hid hcc0
  clear hcc0 hc
  have HF := zsl N g3 hf
  have HZ := Go.Lib.hid (fun w2 w3 : World => z10i (W := W) (w2 := w2) (w3 := w3) (S := S1) (E := 99) (F := 5) (p := .pointer (some ⟨w.heap.size, 3, none⟩)) (q := .pointer (some ⟨w.heap.size, 2, none⟩)) hk hk' b1 b2 b3 b4)
  have HL := Go.Lib.hid (And.intro h1 (And.intro h2 (And.intro h3 (And.intro h4 (And.intro l1 (And.intro l2 l3))))))
  have HE := Go.Lib.hid (And.intro he (And.intro he' (And.intro hn hn')))
  clear h1 h2 h3 h4 l1 l2 l3 he he' hn hn' b1 b2 b3 b4
  subst hW
  have HNo := fun w2 : World => znz (w := w2) (b := w.heap.size)
  go_enter Try.func40, Try.ntmps40
  go_wp2_with (first
    | (go_at_call 49; refine HF.mono ?_; rintro r w2 ⟨rfl, hq⟩; have hn2 := HNo w2; have k0 := hq.cell b0; have HM2 := Go.Lib.hid hq; clear HF hq HNo)
    | (go_at_call 50; refine hn2.mono ?_; rintro r w3 ⟨rfl, hq3⟩; have j0 := (hq3 _ (show Lift.Sub (fun _ => none) (hp w2) from fun _ _ h => by cases h)).cell k0; have j1 := (z59 (w := w3) (S := fun _ => none) (fun _ _ h => by cases h) #[.pointer (some ⟨w.heap.size, 3, none⟩), .pointer (some ⟨w.heap.size, 2, none⟩)] 99).cell j0; obtain ⟨S4, y0, y1, y2, y3, y4, y5, y6, y7, y8⟩ := HZ.out w2 w3 HM2.out hq3; clear hn2 hq3 k0))
  obtain ⟨W4, hW4⟩ : ∃ W4, W4 = ((w3.alloc (.cells #[.pointer (some ⟨w.heap.size, 3, none⟩), .pointer (some ⟨w.heap.size, 2, none⟩)] 99)).alloc (.cells #[.int .u8 k] 5)) := ⟨_, rfl⟩
  rw [<- hW4] at y0 y1 y2 y3 y4 y5 y6 y7 ⊢
  clear y8 hW4 j1 j0 HZ
  have HT1 : ∀ w1, Calm W4 S4 w1 -> _ := fun w1 h => zrh N h HL.out.1
  have HT4 : ∀ w1, Calm W4 S4 w1 -> _ := fun w1 h => zrh N h HL.out.2.2.2.1
  have HP : ∀ w1, Calm W4 S4 w1 -> _ := fun w1 h => ztv N h y6 y7 y3 y4 HE.out.1 HE.out.2.1 HL.out.2.1 HE.out.2.2.1 HE.out.2.2.2 HL.out.2.2.1 (by have := HL.out; omega) (by have := HL.out; omega)
  have z1 : ∀ w1, Calm W4 S4 w1 -> w1.cell? ⟨w.heap.size, 1, none⟩ = some (.string ⟨⟨t⟩⟩) := fun w1 h => h.cell y2
  have z4 : ∀ w1, Calm W4 S4 w1 -> w1.cell? ⟨w.heap.size, 4, none⟩ = some (.string ⟨⟨x⟩⟩) := fun w1 h => h.cell y5
  have Y1 := Go.Lib.hid y1
  clear y1 y2 y3 y4 y5 y6 y7
  have q1 : ¬ 9223372036854775807 < 1 + s1.length := by have := HL.out; omega
  have q2 : ¬ 9223372036854775807 < 1 + s1.length + (s2.length + s3.length) := by have := HL.out.2.2.2.2.2.1; omega
  have q3 : ¬ 9223372036854775807 < 1 + s1.length + (s2.length + s3.length) + s4.length := by have := HL.out.2.2.2.2.2.2; omega
  have q4 : (9223372036854775807 < 1 + s1.length) = False := eq_false (by omega)
  have q5 : (9223372036854775807 < 1 + s1.length + (s2.length + s3.length)) = False := eq_false (by omega)
  have q6 : (9223372036854775807 < 1 + s1.length + (s2.length + s3.length) + s4.length) = False := eq_false (by omega)
  go_region_held3 (fun w' => Calm W4 S4 w' /\ w'.cell? ⟨w.heap.size, 1, none⟩ = some (.string ⟨⟨t⟩⟩) /\ w'.cell? ⟨w.heap.size, 4, none⟩ = some (.string ⟨⟨x⟩⟩))
    (first | exact ⟨y0, z1 _ y0, z4 _ y0⟩ | exact ⟨y0.drew, z1 _ y0.drew, z4 _ y0.drew⟩ | (rename_i hs; exact ⟨hs.1.drew, z1 _ hs.1.drew, z4 _ hs.1.drew⟩) | (exact ⟨by assumption, z1 _ (by assumption), z4 _ (by assumption)⟩))
    (first
      | (go_at_call_of 41 (Value.string ⟨⟨t⟩⟩); refine (HT1 _ (by first | exact y0.drew | assumption)).mono ?_; rintro r w' ⟨rfl, hq⟩)
      | (go_at_call_of 41 (Value.string ⟨⟨x⟩⟩); refine (HT4 _ (by first | exact y0.drew | assumption)).mono ?_; rintro r w' ⟨rfl, hq⟩)
      | (go_at_call 51; refine (HP _ (by first | exact y0.drew | assumption)).mono ?_; rintro r w' ⟨rfl, hq⟩))
  all_goals go_wp2
  all_goals (simp only [zt3]; exact HR.out _ (hcc.out _ (Y1.out _ (by assumption))))

theorem z10j (N : Nat) {w : World} {S : Hp} {k n e : Int} {t x : List UInt8} (hS : Lift.Sub S (hp w)) (hf : z6w N (k, t, n, e, x, ()) = some false) :
    Calls Try.prog 40 #[.agg #[.int .i64 k, .string ⟨⟨t⟩⟩, .int .i64 n, .int .i64 e, .string ⟨⟨x⟩⟩]] w (fun r w' => r = .returned (.tuple #[.string ⟨⟨[]⟩⟩, .int .i64 2]) /\ Calm w S w') := by
  suffices HX : ∀ R : Ending -> World -> Prop, Go.RowKit.Hid (∀ w', Calm w S w' -> R (.returned (.tuple #[.string ⟨⟨[]⟩⟩, .int .i64 2])) w') -> Calls Try.prog 40 #[.agg #[.int .i64 k, .string ⟨⟨t⟩⟩, .int .i64 n, .int .i64 e, .string ⟨⟨x⟩⟩]] w R from HX _ (Go.Lib.hid (fun w' h => ⟨rfl, h⟩))
  intro R HR
  obtain ⟨W, hW⟩ : ∃ W, W = w.alloc (.cells #[.int .i64 k, .string ⟨⟨t⟩⟩, .int .i64 n, .int .i64 e, .string ⟨⟨x⟩⟩] 77) := ⟨_, rfl⟩
  have hc := z59 hS #[.int .i64 k, .string ⟨⟨t⟩⟩, .int .i64 n, .int .i64 e, .string ⟨⟨x⟩⟩] 77
  have b0 : W.cell? ⟨w.heap.size, 0, none⟩ = some (.int .i64 k) := by rw [hW]; exact z2t rfl
  have b1 : W.cell? ⟨w.heap.size, 1, none⟩ = some (.string ⟨⟨t⟩⟩) := by rw [hW]; exact z2t rfl
  have b2 : W.cell? ⟨w.heap.size, 2, none⟩ = some (.int .i64 n) := by rw [hW]; exact z2t rfl
  have b3 : W.cell? ⟨w.heap.size, 3, none⟩ = some (.int .i64 e) := by rw [hW]; exact z2t rfl
  have b4 : W.cell? ⟨w.heap.size, 4, none⟩ = some (.string ⟨⟨x⟩⟩) := by rw [hW]; exact z2t rfl
  rw [<- hW] at hc
  obtain ⟨S1, g3, hcc0⟩ := zcj hc
  have hcc := Go.Lib.hid hcc0
  clear hcc0 hc
  have HF := zsl N g3 hf
  subst hW
  go_enter Try.func40, Try.ntmps40
  go_wp2_with (go_at_call 49; refine HF.mono ?_; rintro r w2 ⟨rfl, hq⟩; have HM2 := Go.Lib.hid hq; clear HF hq)
  exact HR.out _ (hcc.out _ HM2.out)

abbrev EvT : T := .pair (.int .i64) (.pair .str (.pair (.int .i64) (.pair (.int .i64) (.pair .str .unit))))

theorem z14q {S : Hp} {t x : List UInt8} {k e n : Int} {v : Value} (h : VR S EvT (k, t, n, e, x, ()) v) : v = .agg #[.int .i64 k, .string ⟨⟨t⟩⟩, .int .i64 n, .int .i64 e, .string ⟨⟨x⟩⟩] := by
  have h' : ∃ cs, v = .agg cs /\ Rd S EvT (k, t, n, e, x, ()) cs.toList := h
  obtain ⟨cs, rfl, c1, c2, hc, k1, c3, c4, hc', k2, c5, c6, hc'', k3, c7, c8, hc3, k4, c9, c10, hc4, k5, k6⟩ := h'
  have e1 : c1 = [.int .i64 k] := k1
  have e2 : c3 = [.string ⟨⟨t⟩⟩] := k2
  have e3 : c5 = [.int .i64 n] := k3
  have e4 : c7 = [.int .i64 e] := k4
  have e5 : c9 = [.string ⟨⟨x⟩⟩] := k5
  have e6 : c10 = [] := k6
  congr 1
  apply Array.toList_inj.1
  rw [hc, hc', hc'', hc3, hc4, e1, e2, e3, e4, e5, e6]
  rfl

def zd3 (N : Nat) (v : EvT.den) : Option (List UInt8 × Int × Unit) :=
 (z6w N v).bind fun ok =>
 cond (!ok) (some ([], (2, ())))
 ((z2g N v.2.1).bind fun s1 =>
 (z2a N v.2.2.2.1).bind fun s2 =>
 (z2a N v.2.2.1).bind fun s3 =>
 (z2g N v.2.2.2.2.1).bind fun s4 =>
 cond (decide ((0 <= v.1 /\ v.1 <= 255) /\ (0 <= v.2.2.2.1 /\ v.2.2.2.1 <= 1099511627776) /\ (0 <= v.2.2.1 /\ v.2.2.1 <= 1099511627776) ∧
 1 + s1.length + (s2.length + s3.length) + s4.length <= 9223372036854775807))
 (some ([UInt8.ofNat v.1.toNat] ++ s1 ++ (s2 ++ s3) ++ s4, (0, ()))) none)

theorem zy5 (N : Nat) {w : World} {S : Hp} {t x y : List UInt8} {k e n f : Int} (hS : Lift.Sub S (hp w)) (hy : zd3 N (k, t, n, e, x, ()) = some (y, (f, ()))) :
    Calls Try.prog 40 #[.agg #[.int .i64 k, .string ⟨⟨t⟩⟩, .int .i64 n, .int .i64 e, .string ⟨⟨x⟩⟩]] w fun r w' => r = .returned (.tuple #[.string ⟨⟨y⟩⟩, .int .i64 f]) /\ Calm w S w' := by
  unfold zd3 at hy
  dsimp only at hy
  cases hw : z6w N (k, t, n, e, x, ()) with
  | none => rw [hw] at hy; cases hy
  | some ok =>
  rw [hw, Option.bind_some] at hy
  cases ok with
  | false =>
    cases hy
    exact z10j N hS hw
  | true =>
    rw [Bool.not_true, cond_false] at hy
    cases h1 : z2g N t with
    | none => rw [h1] at hy; cases hy
    | some s1 =>
    rw [h1, Option.bind_some] at hy
    cases h2 : z2a N e with
    | none => rw [h2] at hy; cases hy
    | some s2 =>
    rw [h2, Option.bind_some] at hy
    cases h3 : z2a N n with
    | none => rw [h3] at hy; cases hy
    | some s3 =>
    rw [h3, Option.bind_some] at hy
    cases h4 : z2g N x with
    | none => rw [h4] at hy; cases hy
    | some s4 =>
    rw [h4, Option.bind_some] at hy
    by_cases hl : (0 <= k /\ k <= 255) /\ (0 <= e /\ e <= 1099511627776) /\ (0 <= n /\ n <= 1099511627776) /\ 1 + s1.length + (s2.length + s3.length) + s4.length <= 9223372036854775807
    . rw [decide_eq_true hl] at hy
      cases hy
      obtain ⟨⟨a1, a2⟩, ⟨a3, a4⟩, ⟨a5, a6⟩, a7⟩ := hl
      exact zy4 N hS hw a1 a2 h1 h4 a3 a4 h2 a5 a6 h3 (by omega) (by omega) a7
    . rw [decide_eq_false hl] at hy
      cases hy

def zdq (N : Nat) : List A -> Res := z17 [(0, .v (.pair (.int .i64) (.pair .str (.pair (.int .i64) (.pair (.int .i64) (.pair .str .unit))))))] (fun x => zd3 N x.1) (z5v (.tup [.str, (.int .i64)]) 1)

theorem zq9 (N : Nat) : Contract Try.prog z9 40 (zdq N) := by
  refine Contract.hand ⟨_, Try.func40, by kernel_rfl, by decide⟩ ?_
  intro w S vals ob x y har hS hg hy
  obtain ⟨⟨k, t, n, e, x, u⟩, u'⟩ := x
  cases u
  cases u'
  obtain ⟨s, f, u⟩ := y
  cases u
  obtain ⟨⟨v0, hv0, hA0, ho0⟩, _⟩ := har.rel 0 _ rfl
  have hvals : vals = [v0] := by
    match vals, har.len with
    | [a], _ => cases hv0; rfl
  have e0 := z14q hA0
  subst e0
  subst hvals
  refine (zy5 N hS hy).mono ?_
  rintro r w' ⟨rfl, hC⟩
  exact zsu (fun y hy => by rw [List.mem_singleton.1 hy]; rfl) (fun i => by
    match i with
    | 0 => exact ho0
    | i + 1 => exact har.out _ (by simp [mkS, z83])) hC (fun S' => ⟨rfl, _, rfl, .cons VR.str (.cons VR.int .nil)⟩) rfl

def z54 : Code := (Go.Proofs.Try.f24.body).getD .skip

def z8o : List (List Nat × List Nat) := [([0], [0]), ([0, 0, 1], [11, 0]), ([1, 0, 1], [0]), ([0, 0, 1, 0, 1], [2, 3]), ([1, 0, 1, 0, 1], [2, 3]), ([0, 1, 1], [0, 4]), ([0, 1, 1, 1], [0, 4]), ([0, 0, 1, 1, 1, 1], [19, 18, 17, 4]), ([0, 1, 0, 1, 1, 1, 1], [19, 18, 17, 4]), ([0, 0, 0, 1, 0, 1, 1, 1, 1], [20, 17, 19, 4, 18]), ([0, 1, 0, 0, 1, 0, 1, 1, 1, 1], [17, 19, 4, 18]), ([1, 0, 1, 0, 0, 1, 0, 1, 1, 1, 1], [4]), ([0, 0, 0, 1, 1, 0, 0, 1, 0, 1, 1, 1, 1], [6, 4, 19, 18, 17]), ([0, 1, 0, 0, 1, 1, 0, 0, 1, 0, 1, 1, 1, 1], [8, 7, 4, 19, 18, 17]), ([0, 0, 1, 1, 0, 0, 1, 1, 0, 0, 1, 0, 1, 1, 1, 1], [29, 8, 7, 4, 19, 18, 17]), ([1, 0, 1, 1, 0, 0, 1, 1, 0, 0, 1, 0, 1, 1, 1, 1], [7, 4, 19, 18, 17]), ([0, 0, 1, 0, 1, 1, 0, 0, 1, 1, 0, 0, 1, 0, 1, 1, 1, 1], [2, 3]), ([1, 0, 1, 0, 1, 1, 0, 0, 1, 1, 0, 0, 1, 0, 1, 1, 1, 1], [2, 3]), ([1, 1, 1, 0, 0, 1, 1, 0, 0, 1, 0, 1, 1, 1, 1], [19, 18, 17, 4]), ([0, 1, 1, 0, 0, 1, 0, 1, 1, 1, 1], [19, 18, 17, 4]), ([1, 1, 1, 0, 0, 1, 0, 1, 1, 1, 1], [19, 18, 17, 4]), ([1, 0, 1, 1, 1, 1], [4]), ([0, 1, 1, 1, 1, 1], [2, 3]), ([1, 1, 1, 1, 1, 1], [2, 3])]

def z5a (N : Nat) : Env := z1x tys z9 [(40, zdq N), (41, zdz N), (38, z2e N), (39, zgv N), (42, zxs)] [] [] [] false [(4, (.pair (.self 85) (.pair (.own (.byt 5)) .unit)))] []

theorem zk1 (N : Nat) : EnvOk Go.Proofs.Try.prog (z5a N) := zj mixed z14 (FnsOk.cons (zq9 N) (FnsOk.cons (zgu N) (FnsOk.cons (z5f N) (FnsOk.cons (zjg N) (FnsOk.cons (z14g z9) (FnsOk.nil)))))) (ItsOk.nil)

def zbp (N : Nat) (x17 : (List (Int × ((List UInt8) × (Int × (Int × ((List UInt8) × Unit))))))) (x18 : Int) (out : (Unit × ((List Int) × Unit))) (x19 : Int) (rec : (Unit × ((List Int) × Unit)) -> Int -> Option ((List UInt8) × Int × Unit)) (k0 : (List UInt8) -> Int -> Option ((List UInt8) × Int × Unit)) (k1 : (Unit × ((List Int) × Unit)) -> Option ((List UInt8) × Int × Unit)) : Option ((List UInt8) × Int × Unit) :=
 cond (decide (x19 < x18))
 (cond (Go.Lift.inR x19 (List.length x17))
 ((zd3 N (List.getD x17 (Int.toNat x19) ((0 : Int), (([] : List UInt8), ((0 : Int), ((0 : Int), (([] : List UInt8), ()))))))).bind fun y =>
 cond (y.2.1 != (0 : Int))
 (k0 ([] : List UInt8) y.2.1)
 ((z2g N y.1).bind fun y1 =>
 (z1d N out y1).bind fun y2 =>
 rec y2.2.1 (Go.IntKind.wrap Go.IntKind.i64 (x19 + (1 : Int)))))
 (none))
 (k1 out)

def zlm (N : Nat) (out : (Unit × ((List Int) × Unit))) (x17 : (List (Int × ((List UInt8) × (Int × (Int × ((List UInt8) × Unit))))))) (x18 : Int) (x19 : Int) (k0 : (List UInt8) -> Int -> Option ((List UInt8) × Int × Unit)) (k1 : (Unit × ((List Int) × Unit)) -> Option ((List UInt8) × Int × Unit)) : Option ((List UInt8) × Int × Unit) :=
 iter (fun (v : ((Unit × ((List Int) × Unit)) × Int)) r => zbp N x17 x18 v.1 v.2 (fun out x19 => (r (out, x19))) k0 k1) N (out, x19)

def zbr (N : Nat) (i : ((List (Int × ((List UInt8) × (Int × (Int × ((List UInt8) × Unit)))))) × Int)) (v : ((Unit × ((List Int) × Unit)) × Int)) (r : ((Unit × ((List Int) × Unit)) × Int) -> Option ((List UInt8) × Int × Unit)) (K : Ex -> List A -> Option ((List UInt8) × Int × Unit)) : Option ((List UInt8) × Int × Unit) :=
 zbp N i.1 i.2 v.1 v.2 (fun out x19 => (r (out, x19))) (fun a0 a1 => (K .ret (mkS [(2, .v .str), (0, .v (.int .i64))] 32 (a0, a1, ())))) (fun a0 => (K (.exit 0) (mkS [(4, .box (.pair (.self 85) (.pair (.own (.byt 5)) .unit)))] 31 (a0, ()))))

def zbq (N : Nat) : Hd ((List UInt8) × Int × Unit) := fun st K => (unS [(4, .box (.pair (.self 85) (.pair (.own (.byt 5)) .unit))), (12, .v (.sl (.pair (.int .i64) (.pair .str (.pair (.int .i64) (.pair (.int .i64) (.pair .str .unit))))))), (0, .v (.int .i64)), (0, .v (.int .i64))] 16 (restr [19, 18, 17, 4] 0 st)).bind fun x => iter (fun v r => zbr N ((fun x => (x.2.1, x.2.2.1)) x) v r K) N ((fun x => (x.1, x.2.2.2.1)) x)

def zll (N : Nat) : Tab ((List UInt8) × Int × Unit) := []

theorem zk0 {N : Nat} {c : Ctx} (hb : Base Go.Proofs.Try.prog (z5a N) c) : zy Go.Proofs.Try.prog c (zi z54 [0, 1, 0, 1, 1, 1, 1]) (zbq N) :=
  z7m (s := [(4, .box (.pair (.self 85) (.pair (.own (.byt 5)) .unit))), (12, .v (.sl (.pair (.int .i64) (.pair .str (.pair (.int .i64) (.pair (.int .i64) (.pair .str .unit))))))), (0, .v (.int .i64)), (0, .v (.int .i64))]) (m := 16) (zbr N) [19, 18, 17, 4] N (fun x => (x.2.1, x.2.2.1)) (fun x => (x.1, x.2.2.2.1)) (fun i v => (v.1, i.1, i.2, v.2, ())) (fun _ => rfl) (zd hb N (zll N) z8o z54 TabOk.nil [0, 0, 1, 0, 1, 1, 1, 1] _ rfl) (fun i v r K => by kernel_rfl)

def zbs (N : Nat) (l : (List (Int × ((List UInt8) × (Int × (Int × ((List UInt8) × Unit))))))) : Option ((List UInt8) × Int × Unit) :=
 cond (decide ((256 : Int) < (((List.length l) : Nat) : Int)))
 (some (([] : List UInt8), ((3 : Int), ())))
 ((z2a N (Go.IntKind.wrap Go.IntKind.u64 (((List.length l) : Nat) : Int))).bind fun y =>
 (z1d N ((), (([] : List Int), ())) y).bind fun y1 =>
 zlm N y1.2.1 l (((List.length l) : Nat) : Int) (0 : Int)
 (fun x2 x3 => some (x2, (x3, ())))
 (fun out => (z13a (out, ())).bind fun y2 =>
 some (y2.1, ((0 : Int), ()))))

def zdr (N : Nat) : Tab ((List UInt8) × Int × Unit) := [([0, 1, 0, 1, 1, 1, 1], zbq N)]

theorem zhq (N : Nat) (x : z1j [(0, .v (.sl (.pair (.int .i64) (.pair .str (.pair (.int .i64) (.pair (.int .i64) (.pair .str .unit)))))))]) : z60 (z5a N) N (zdr N) z8o Go.Proofs.Try.f24 (mkS [(0, .v (.sl (.pair (.int .i64) (.pair .str (.pair (.int .i64) (.pair (.int .i64) (.pair .str .unit)))))))] 0 x) (z2d (.tup [.str, (.int .i64)]) 1) = zbs N x.1 := by kernel_rfl

def zao (N : Nat) : List A -> Res := z17 [(0, .v (.sl (.pair (.int .i64) (.pair .str (.pair (.int .i64) (.pair (.int .i64) (.pair .str .unit)))))))] (fun x => zbs N x.1) (z5v (.tup [.str, (.int .i64)]) 1)

theorem zln (N : Nat) : Contract Go.Proofs.Try.prog z9 24 (zao N) :=
  Contract.of (E := z5a N) (H := zdr N) (L := z8o) (N := N) (body := z54) (K := (z2d (.tup [.str, (.int .i64)]) 1)) (zk1 N) Go.Proofs.Try.func24 (by kernel_rfl) (by decide) (fun _ hb => (TabOk.cons (zk0 hb) TabOk.nil)) (fun x y h => by rw [zhq]; exact h) (zw (s := (.tup [.str, (.int .i64)])) (m := 1))

def z2h : Code := (Go.Proofs.Try.f25.body).getD .skip

def z5b : List (List Nat × List Nat) := [([0], [0]), ([0, 0, 1], [9, 0]), ([1, 0, 1], [0]), ([0, 0, 1, 0, 1], [2]), ([1, 0, 1, 0, 1], [2]), ([0, 1, 1], [3]), ([0, 1, 1, 1], [2]), ([1, 1, 1, 1], [2])]

def z41 (N : Nat) : Env := z1x tys z9 [] [] [] [] false [] []

theorem zkf (N : Nat) : EnvOk Go.Proofs.Try.prog (z41 N) := zj mixed z14 (FnsOk.nil) (ItsOk.nil)

def zcb (N : Nat) (n : Int) (k0 : Bool -> Option Int) : Option Int :=
 cond (decide (n < (0 : Int)))
 (k0 true)
 (k0 (decide ((65536 : Int) < n)))

def zcf (N : Nat) (x : z1j [(0, .v (.int .i64))]) (K : Ex -> List A -> Option Int) : Option Int :=
 zcb N x.1 (fun a1 => (K .normal (mkS [(0, .v (.int .i64)), (8, .v .bool)] 8 (x.1, a1, ()))))

def zcd (N : Nat) : Hd Int := fun st K => (unS [(0, .v (.int .i64))] 17 (restr [0] 0 st)).bind fun x => zcf N x K

def zmq (N : Nat) : Tab Int := []

theorem zkd {N : Nat} {c : Ctx} (hb : Base Go.Proofs.Try.prog (z41 N) c) : zy Go.Proofs.Try.prog c (zi z2h [0, 0, 1]) (zcd N) :=
  z10 (s := [(0, .v (.int .i64))]) (m := 17) (g := zcf N) [0] (zd hb N (zmq N) z5b z2h TabOk.nil [0, 0, 1] _ rfl) (fun x K => by kernel_rfl)

def zcc (N : Nat) (n : Int) (k0 : Int -> Option Int) (k1 : Option Int) : Option Int :=
 zcb N n
 (fun x9 => cond x9
 (k0 (0 : Int))
 (k1))

def zcg (N : Nat) (x : z1j [(0, .v (.int .i64))]) (K : Ex -> List A -> Option Int) : Option Int :=
 zcc N x.1 (fun a0 => (K .ret (mkS [(2, .v (.int .i64))] 15 (a0, ())))) (K .normal (mkS [(0, .v (.int .i64))] 17 (x.1, ())))

def zce (N : Nat) : Hd Int := fun st K => (unS [(0, .v (.int .i64))] 17 (restr [0] 0 st)).bind fun x => zcg N x K

def zmr (N : Nat) : Tab Int := [([0, 0, 1], zcd N)]

theorem zke {N : Nat} {c : Ctx} (hb : Base Go.Proofs.Try.prog (z41 N) c) : zy Go.Proofs.Try.prog c (zi z2h [0, 1]) (zce N) :=
  z10 (s := [(0, .v (.int .i64))]) (m := 17) (g := zcg N) [0] (zd hb N (zmr N) z5b z2h (TabOk.cons (zkd hb) TabOk.nil) [0, 1] _ rfl) (fun x K => by kernel_rfl)

def zch (N : Nat) (n : Int) : Option Int :=
 zcc N n
 (fun x2 => some x2)
 (some (Go.IntKind.wrap Go.IntKind.i64 ((1 : Int) + (Go.IntKind.wrap Go.IntKind.i64 (Int.tdiv (Go.IntKind.wrap Go.IntKind.i64 ((Go.IntKind.wrap Go.IntKind.i64 ((if ((0 : Int) > (Go.IntKind.wrap Go.IntKind.i64 (n - (102 : Int)))) then (0 : Int) else (Go.IntKind.wrap Go.IntKind.i64 (n - (102 : Int)))) + (110 : Int))) - (1 : Int))) (110 : Int))))))

def ze0 (N : Nat) : Tab Int := [([0, 1], zce N)]

theorem zif (N : Nat) (x : z1j [(0, .v (.int .i64))]) : z60 (z41 N) N (ze0 N) z5b Go.Proofs.Try.f25 (mkS [(0, .v (.int .i64))] 0 x) (z2d (.v (.int .i64)) 1) = zch N x.1 := by kernel_rfl

def zb1 (N : Nat) : List A -> Res := z17 [(0, .v (.int .i64))] (fun x => zch N x.1) (z5v (.v (.int .i64)) 1)

theorem zms (N : Nat) : Contract Go.Proofs.Try.prog z9 25 (zb1 N) :=
  Contract.of (E := z41 N) (H := ze0 N) (L := z5b) (N := N) (body := z2h) (K := (z2d (.v (.int .i64)) 1)) (zkf N) Go.Proofs.Try.func25 (by kernel_rfl) (by decide) (fun _ hb => (TabOk.cons (zke hb) TabOk.nil)) (fun x y h => by rw [zif]; exact h) (zw (s := (.v (.int .i64))) (m := 1))

def zkl : Code := (Go.Proofs.Try.f13.body).getD .skip

def zh4 : List (List Nat × List Nat) := [([0], [1]), ([0, 1], [3]), ([0, 0, 1, 1], [10, 3]), ([1, 0, 1, 1], [3]), ([0, 0, 1, 0, 1, 1], [2]), ([1, 0, 1, 0, 1, 1], [2]), ([0, 1, 1, 1], [5, 4]), ([0, 0, 1, 1, 1, 1], [17, 4]), ([1, 0, 1, 1, 1, 1], [4]), ([0, 0, 1, 0, 1, 1, 1, 1], [2]), ([1, 0, 1, 0, 1, 1, 1, 1], [2]), ([0, 1, 1, 1, 1, 1], [2]), ([1, 1, 1, 1, 1, 1], [2])]

def zaj (N : Nat) : Env := z1x tys z9 [(25, zb1 N), (24, zao N), (23, zdw N)] [] [] [] false [] []

theorem zn5 (N : Nat) : EnvOk Go.Proofs.Try.prog (zaj N) := zj mixed z14 (FnsOk.cons (zms N) (FnsOk.cons (zln N) (FnsOk.cons (zqk N) (FnsOk.nil)))) (ItsOk.nil)

def zf1 (N : Nat) (s : ((List ((List UInt8) × (Int × (Int × ((List (Int × ((List UInt8) × Unit))) × Unit))))) × (Int × Unit))) : Option Int :=
 (zhu N s).bind fun y =>
 cond ((((List.length y) : Nat) : Int) == (0 : Int))
 (some (0 : Int))
 ((zbs N y).bind fun y1 =>
 cond (y1.2.1 != (0 : Int))
 (some (0 : Int))
 ((zch N (((List.length y1.1) : Nat) : Int)).bind fun y2 =>
 some y2))

def zh3 (N : Nat) : Tab Int := []

theorem zkk (N : Nat) (x : z1j [(0, .v (.pair (.sl (.pair .str (.pair (.int .i64) (.pair (.int .i64) (.pair (.sl (.pair (.int .i64) (.pair .str .unit))) .unit))))) (.pair (.int .i64) .unit)))]) : z60 (zaj N) N (zh3 N) zh4 Go.Proofs.Try.f13 (mkS [(0, .v (.pair (.sl (.pair .str (.pair (.int .i64) (.pair (.int .i64) (.pair (.sl (.pair (.int .i64) (.pair .str .unit))) .unit))))) (.pair (.int .i64) .unit)))] 0 x) (z2d (.v (.int .i64)) 1) = zf1 N x.1 := by kernel_rfl

def zcu (N : Nat) : List A -> Res := z17 [(0, .v (.pair (.sl (.pair .str (.pair (.int .i64) (.pair (.int .i64) (.pair (.sl (.pair (.int .i64) (.pair .str .unit))) .unit))))) (.pair (.int .i64) .unit)))] (fun x => zf1 N x.1) (z5v (.v (.int .i64)) 1)

theorem zom (N : Nat) : Contract Go.Proofs.Try.prog z9 13 (zcu N) :=
  Contract.of (E := zaj N) (H := zh3 N) (L := zh4) (N := N) (body := zkl) (K := (z2d (.v (.int .i64)) 1)) (zn5 N) Go.Proofs.Try.func13 (by kernel_rfl) (by decide) (fun _ hb => TabOk.nil) (fun x y h => by rw [zkk]; exact h) (zw (s := (.v (.int .i64))) (m := 1))

def zb7 : Code := (Go.Proofs.Try.f5.body).getD .skip

def z76 : List (List Nat × List Nat) := [([0], []), ([0, 1], [0]), ([1, 1], [0])]

def z49 (N : Nat) : Env := z1x tys z9 [(13, zcu N), (7, z65 N), (12, z8i N), (11, ze9 N)] [] [] [] false [] []

theorem zbw (N : Nat) : EnvOk Go.Proofs.Try.prog (z49 N) := zj mixed z14 (FnsOk.cons (zom N) (FnsOk.cons (zcs N) (FnsOk.cons (zio N) (FnsOk.cons (zr9 N) (FnsOk.nil))))) (ItsOk.nil)

def z1s (N : Nat) : Option Bool :=
 (zf1 N (([] : List ((List UInt8) × (Int × (Int × ((List (Int × ((List UInt8) × Unit))) × Unit))))), ((0 : Int), ()))).bind fun y =>
 cond (y == (1 : Int))
 (some true)
 (some false)

def z75 (N : Nat) : Tab Bool := []

theorem zb6 (N : Nat) (x : z1j []) : z60 (z49 N) N (z75 N) z76 Go.Proofs.Try.f5 (mkS [] 0 x) (z2d (.v .bool) 0) = z1s N := by kernel_rfl

def z5m (N : Nat) : List A -> Res := z17 [] (fun x => z1s N) (z5v (.v .bool) 0)

theorem zdh (N : Nat) : Contract Go.Proofs.Try.prog z9 5 (z5m N) :=
  Contract.of (E := z49 N) (H := z75 N) (L := z76) (N := N) (body := zb7) (K := (z2d (.v .bool) 0)) (zbw N) Go.Proofs.Try.func5 (by kernel_rfl) (by decide) (fun _ hb => TabOk.nil) (fun x y h => by rw [zb6]; exact h) (zw (s := (.v .bool)) (m := 0))

def zh0 : Code := (Go.Proofs.Try.f43.body).getD .skip

def zcl : List (List Nat × List Nat) := [([0], [0]), ([0, 1], [2]), ([1, 1], [2])]

def z7s (N : Nat) : Env := z1x tys z9 [] [] [] [] false [] []

theorem zij (N : Nat) : EnvOk Go.Proofs.Try.prog (z7s N) := zj mixed z14 (FnsOk.nil) (ItsOk.nil)

def z2r (N : Nat) (n : Int) : Option Bool :=
 cond (decide ((0 : Int) <= n))
 (some (decide (n <= (1099511627776 : Int))))
 (some false)

def zck (N : Nat) : Tab Bool := []

theorem zgz (N : Nat) (x : z1j [(0, .v (.int .i64))]) : z60 (z7s N) N (zck N) zcl Go.Proofs.Try.f43 (mkS [(0, .v (.int .i64))] 0 x) (z2d (.v .bool) 1) = z2r N x.1 := by kernel_rfl

def z9l (N : Nat) : List A -> Res := z17 [(0, .v (.int .i64))] (fun x => z2r N x.1) (z5v (.v .bool) 1)

theorem zkg (N : Nat) : Contract Go.Proofs.Try.prog z9 43 (z9l N) :=
  Contract.of (E := z7s N) (H := zck N) (L := zcl) (N := N) (body := zh0) (K := (z2d (.v .bool) 1)) (zij N) Go.Proofs.Try.func43 (by kernel_rfl) (by decide) (fun _ hb => TabOk.nil) (fun x y h => by rw [zgz]; exact h) (zw (s := (.v .bool)) (m := 1))

def zil : Code := (Go.Proofs.Try.f28.body).getD .skip

def ze5 : List (List Nat × List Nat) := [([0], [1]), ([0, 1], [2]), ([1, 1], [2])]

def z8t (N : Nat) : Env := z1x tys z9 [(43, z9l N)] [] [] [] false [] []

theorem zki (N : Nat) : EnvOk Go.Proofs.Try.prog (z8t N) := zj mixed z14 (FnsOk.cons (zkg N) (FnsOk.nil)) (ItsOk.nil)

def z4f (N : Nat) (b : (Int × (Int × (Int × (Int × Unit))))) : Option Bool :=
 (z2r N b.1).bind fun y =>
 cond y
 ((z2r N b.2.1).bind fun y1 =>
 cond y1
 ((z2r N b.2.2.2.1).bind fun y2 =>
 cond y2
 (cond (decide ((0 : Int) <= b.2.2.1))
 (some (decide (b.2.2.1 <= b.1)))
 (some false))
 (some false))
 (some false))
 (some false)

def ze4 (N : Nat) : Tab Bool := []

theorem zik (N : Nat) (x : z1j [(0, .v (.pair (.int .i64) (.pair (.int .i64) (.pair (.int .i64) (.pair (.int .i64) .unit)))))]) : z60 (z8t N) N (ze4 N) ze5 Go.Proofs.Try.f28 (mkS [(0, .v (.pair (.int .i64) (.pair (.int .i64) (.pair (.int .i64) (.pair (.int .i64) .unit)))))] 0 x) (z2d (.v .bool) 1) = z4f N x.1 := by kernel_rfl

def z64 (N : Nat) : List A -> Res := z17 [(0, .v (.pair (.int .i64) (.pair (.int .i64) (.pair (.int .i64) (.pair (.int .i64) .unit)))))] (fun x => z4f N x.1) (z5v (.v .bool) 1)

theorem zcn (N : Nat) : Contract Go.Proofs.Try.prog z9 28 (z64 N) :=
  Contract.of (E := z8t N) (H := ze4 N) (L := ze5) (N := N) (body := zil) (K := (z2d (.v .bool) 1)) (zki N) Go.Proofs.Try.func28 (by kernel_rfl) (by decide) (fun _ hb => TabOk.nil) (fun x y h => by rw [zik]; exact h) (zw (s := (.v .bool)) (m := 1))

def z42 : Code := (Go.Proofs.Try.f27.body).getD .skip

def zai : List (List Nat × List Nat) := [([0], [2, 1, 4]), ([0, 0, 1], [18, 2, 4, 1]), ([1, 0, 1], [2, 1, 4]), ([0, 0, 1, 0, 1], [4]), ([1, 0, 1, 0, 1], [4]), ([0, 1, 1], [5, 2, 1, 4]), ([0, 1, 1, 1], [2, 4]), ([0, 1, 1, 1, 1], [4]), ([1, 1, 1, 1, 1], [4])]

def z7t (N : Nat) : Env := z1x tys z9 [(28, z64 N), (19, z9r N), (18, z9s N)] [] [] [] false [] []

theorem zr8 (N : Nat) : EnvOk Go.Proofs.Try.prog (z7t N) := zj mixed z14 (FnsOk.cons (zcn N) (FnsOk.cons (zhh N) (FnsOk.cons (zhm N) (FnsOk.nil)))) (ItsOk.nil)

def zcp (N : Nat) (now : Int) (b : (Int × (Int × (Int × (Int × Unit))))) (x4 : (Int × (Int × (Int × (Int × Unit))))) (k0 : Bool -> Option (Int × (Int × (Int × (Int × Unit))))) : Option (Int × (Int × (Int × (Int × Unit)))) :=
 (z4f N b).bind fun y =>
 cond (!y)
 (k0 true)
 (cond (decide (now <= b.2.2.2.1))
 (k0 true)
 (k0 (decide ((1099511627776 : Int) < now))))

def zjo (N : Nat) (x : z1j [(1, .v (.int .i64)), (0, .box (.pair (.int .i64) (.pair (.int .i64) (.pair (.int .i64) (.pair (.int .i64) .unit))))), (1, .box (.pair (.int .i64) (.pair (.int .i64) (.pair (.int .i64) (.pair (.int .i64) .unit)))))]) (K : Ex -> List A -> Option (Int × (Int × (Int × (Int × Unit))))) : Option (Int × (Int × (Int × (Int × Unit)))) :=
 zcp N x.1 x.2.1 x.2.2.1 (fun a3 => (K .normal (mkS [(1, .v (.int .i64)), (0, .box (.pair (.int .i64) (.pair (.int .i64) (.pair (.int .i64) (.pair (.int .i64) .unit))))), (1, .box (.pair (.int .i64) (.pair (.int .i64) (.pair (.int .i64) (.pair (.int .i64) .unit))))), (13, .v .bool)] 19 (x.1, x.2.1, x.2.2.1, a3, ()))))

def zjm (N : Nat) : Hd (Int × (Int × (Int × (Int × Unit)))) := fun st K => (unS [(1, .v (.int .i64)), (0, .box (.pair (.int .i64) (.pair (.int .i64) (.pair (.int .i64) (.pair (.int .i64) .unit))))), (1, .box (.pair (.int .i64) (.pair (.int .i64) (.pair (.int .i64) (.pair (.int .i64) .unit)))))] 33 (restr [2, 1, 4] 0 st)).bind fun x => zjo N x K

def zt5 (N : Nat) : Tab (Int × (Int × (Int × (Int × Unit)))) := []

theorem zr6 {N : Nat} {c : Ctx} (hb : Base Go.Proofs.Try.prog (z7t N) c) : zy Go.Proofs.Try.prog c (zi z42 [0, 0, 1]) (zjm N) :=
  z10 (s := [(1, .v (.int .i64)), (0, .box (.pair (.int .i64) (.pair (.int .i64) (.pair (.int .i64) (.pair (.int .i64) .unit))))), (1, .box (.pair (.int .i64) (.pair (.int .i64) (.pair (.int .i64) (.pair (.int .i64) .unit)))))]) (m := 33) (g := zjo N) [2, 1, 4] (zd hb N (zt5 N) zai z42 TabOk.nil [0, 0, 1] _ rfl) (fun x K => by kernel_rfl)

def zcq (N : Nat) (now : Int) (b : (Int × (Int × (Int × (Int × Unit))))) (x4 : (Int × (Int × (Int × (Int × Unit))))) (k0 : Option (Int × (Int × (Int × (Int × Unit))))) (k1 : Option (Int × (Int × (Int × (Int × Unit))))) : Option (Int × (Int × (Int × (Int × Unit)))) :=
 zcp N now b x4
 (fun x18 => cond x18
 (k0)
 (k1))

def zjp (N : Nat) (x : z1j [(1, .v (.int .i64)), (0, .box (.pair (.int .i64) (.pair (.int .i64) (.pair (.int .i64) (.pair (.int .i64) .unit))))), (1, .box (.pair (.int .i64) (.pair (.int .i64) (.pair (.int .i64) (.pair (.int .i64) .unit)))))]) (K : Ex -> List A -> Option (Int × (Int × (Int × (Int × Unit))))) : Option (Int × (Int × (Int × (Int × Unit)))) :=
 zcq N x.1 x.2.1 x.2.2.1 (K .ret (mkS [(4, .box (.pair (.int .i64) (.pair (.int .i64) (.pair (.int .i64) (.pair (.int .i64) .unit)))))] 33 (x.2.1, ()))) (K .normal (mkS [(1, .v (.int .i64)), (0, .box (.pair (.int .i64) (.pair (.int .i64) (.pair (.int .i64) (.pair (.int .i64) .unit))))), (1, .box (.pair (.int .i64) (.pair (.int .i64) (.pair (.int .i64) (.pair (.int .i64) .unit)))))] 33 (x.1, x.2.1, x.2.2.1, ())))

def zjn (N : Nat) : Hd (Int × (Int × (Int × (Int × Unit)))) := fun st K => (unS [(1, .v (.int .i64)), (0, .box (.pair (.int .i64) (.pair (.int .i64) (.pair (.int .i64) (.pair (.int .i64) .unit))))), (1, .box (.pair (.int .i64) (.pair (.int .i64) (.pair (.int .i64) (.pair (.int .i64) .unit)))))] 33 (restr [2, 1, 4] 0 st)).bind fun x => zjp N x K

def zt6 (N : Nat) : Tab (Int × (Int × (Int × (Int × Unit)))) := [([0, 0, 1], zjm N)]

theorem zr7 {N : Nat} {c : Ctx} (hb : Base Go.Proofs.Try.prog (z7t N) c) : zy Go.Proofs.Try.prog c (zi z42 [0, 1]) (zjn N) :=
  z10 (s := [(1, .v (.int .i64)), (0, .box (.pair (.int .i64) (.pair (.int .i64) (.pair (.int .i64) (.pair (.int .i64) .unit))))), (1, .box (.pair (.int .i64) (.pair (.int .i64) (.pair (.int .i64) (.pair (.int .i64) .unit)))))]) (m := 33) (g := zjp N) [2, 1, 4] (zd hb N (zt6 N) zai z42 (TabOk.cons (zr6 hb) TabOk.nil) [0, 1] _ rfl) (fun x K => by kernel_rfl)

def zcr (N : Nat) (b : (Int × (Int × (Int × (Int × Unit))))) (now : Int) : Option (Int × (Int × (Int × (Int × Unit)))) :=
 zcq N now b ((0 : Int), ((0 : Int), ((0 : Int), ((0 : Int), ()))))
 (some b)
 ((zee N b.2.1 (Go.IntKind.wrap Go.IntKind.i64 (now - b.2.2.2.1))).bind fun y =>
 (zef N b.2.2.1 y).bind fun y1 =>
 some (b.1, (b.2.1, ((if (b.1 < y1) then b.1 else y1), (now, b.2.2.2.2)))))

def zn2 (N : Nat) : Tab (Int × (Int × (Int × (Int × Unit)))) := [([0, 1], zjn N)]

theorem zoj (N : Nat) (x : z1j [(0, .v (.pair (.int .i64) (.pair (.int .i64) (.pair (.int .i64) (.pair (.int .i64) .unit))))), (0, .v (.int .i64))]) : z60 (z7t N) N (zn2 N) zai Go.Proofs.Try.f27 (mkS [(0, .v (.pair (.int .i64) (.pair (.int .i64) (.pair (.int .i64) (.pair (.int .i64) .unit))))), (0, .v (.int .i64))] 0 x) (z2d (.v (.pair (.int .i64) (.pair (.int .i64) (.pair (.int .i64) (.pair (.int .i64) .unit))))) 2) = zcr N x.1 x.2.1 := by kernel_rfl

def zh2 (N : Nat) : List A -> Res := z17 [(0, .v (.pair (.int .i64) (.pair (.int .i64) (.pair (.int .i64) (.pair (.int .i64) .unit))))), (0, .v (.int .i64))] (fun x => zcr N x.1 x.2.1) (z5v (.v (.pair (.int .i64) (.pair (.int .i64) (.pair (.int .i64) (.pair (.int .i64) .unit))))) 2)

theorem zt7 (N : Nat) : Contract Go.Proofs.Try.prog z9 27 (zh2 N) :=
  Contract.of (E := z7t N) (H := zn2 N) (L := zai) (N := N) (body := z42) (K := (z2d (.v (.pair (.int .i64) (.pair (.int .i64) (.pair (.int .i64) (.pair (.int .i64) .unit))))) 2)) (zr8 N) Go.Proofs.Try.func27 (by kernel_rfl) (by decide) (fun _ hb => (TabOk.cons (zr7 hb) TabOk.nil)) (fun x y h => by rw [zoj]; exact h) (zw (s := (.v (.pair (.int .i64) (.pair (.int .i64) (.pair (.int .i64) (.pair (.int .i64) .unit)))))) (m := 2))

def z63 : Code := (Go.Proofs.Try.f17.body).getD .skip

def zah : List (List Nat × List Nat) := [([0], [2, 1, 4]), ([0, 1], [6, 4]), ([0, 1, 1], [6, 7, 4]), ([0, 0, 1, 1, 1], [13, 6, 7, 4]), ([1, 0, 1, 1, 1], [7, 6, 4]), ([0, 1, 0, 1, 1, 1], [7, 6, 4]), ([0, 1, 1, 1, 1], [4, 5]), ([1, 1, 1, 1, 1], [4, 5])]

def z6e (N : Nat) : Env := z1x tys z9 [(27, zh2 N), (28, z64 N)] [] [] [] false [] []

theorem zmz (N : Nat) : EnvOk Go.Proofs.Try.prog (z6e N) := zj mixed z14 (FnsOk.cons (zt7 N) (FnsOk.cons (zcn N) (FnsOk.nil))) (ItsOk.nil)

def z8s (N : Nat) (x4 : (Int × (Int × (Int × (Int × Unit))))) (later : (Int × (Int × (Int × (Int × Unit))))) (rest : (Int × (Int × (Int × (Int × Unit))))) (k0 : (Int × (Int × (Int × (Int × Unit)))) -> Option ((Int × (Int × (Int × (Int × Unit)))) × Bool × Unit)) : Option ((Int × (Int × (Int × (Int × Unit)))) × Bool × Unit) :=
 (z4f N later).bind fun y =>
 cond y
 (k0 (rest.1, (rest.2.1, ((if ((0 : Int) > (Go.IntKind.wrap Go.IntKind.i64 (later.2.2.1 - (1 : Int)))) then (0 : Int) else (Go.IntKind.wrap Go.IntKind.i64 (later.2.2.1 - (1 : Int)))), rest.2.2.2))))
 (k0 rest)

def ze2 (N : Nat) (x : z1j [(4, .box (.pair (.int .i64) (.pair (.int .i64) (.pair (.int .i64) (.pair (.int .i64) .unit))))), (1, .box (.pair (.int .i64) (.pair (.int .i64) (.pair (.int .i64) (.pair (.int .i64) .unit))))), (0, .box (.pair (.int .i64) (.pair (.int .i64) (.pair (.int .i64) (.pair (.int .i64) .unit)))))]) (K : Ex -> List A -> Option ((Int × (Int × (Int × (Int × Unit)))) × Bool × Unit)) : Option ((Int × (Int × (Int × (Int × Unit)))) × Bool × Unit) :=
 z8s N x.1 x.2.1 x.2.2.1 (fun a2 => (K .normal (mkS [(4, .box (.pair (.int .i64) (.pair (.int .i64) (.pair (.int .i64) (.pair (.int .i64) .unit))))), (1, .box (.pair (.int .i64) (.pair (.int .i64) (.pair (.int .i64) (.pair (.int .i64) .unit))))), (0, .box (.pair (.int .i64) (.pair (.int .i64) (.pair (.int .i64) (.pair (.int .i64) .unit)))))] 15 (x.1, x.2.1, a2, ()))))

def ze1 (N : Nat) : Hd ((Int × (Int × (Int × (Int × Unit)))) × Bool × Unit) := fun st K => (unS [(4, .box (.pair (.int .i64) (.pair (.int .i64) (.pair (.int .i64) (.pair (.int .i64) .unit))))), (1, .box (.pair (.int .i64) (.pair (.int .i64) (.pair (.int .i64) (.pair (.int .i64) .unit))))), (0, .box (.pair (.int .i64) (.pair (.int .i64) (.pair (.int .i64) (.pair (.int .i64) .unit)))))] 15 (restr [6, 7, 4] 0 st)).bind fun x => ze2 N x K

def zoh (N : Nat) : Tab ((Int × (Int × (Int × (Int × Unit)))) × Bool × Unit) := []

theorem zmy {N : Nat} {c : Ctx} (hb : Base Go.Proofs.Try.prog (z6e N) c) : zy Go.Proofs.Try.prog c (zi z63 [0, 1, 1, 1]) (ze1 N) :=
  z10 (s := [(4, .box (.pair (.int .i64) (.pair (.int .i64) (.pair (.int .i64) (.pair (.int .i64) .unit))))), (1, .box (.pair (.int .i64) (.pair (.int .i64) (.pair (.int .i64) (.pair (.int .i64) .unit))))), (0, .box (.pair (.int .i64) (.pair (.int .i64) (.pair (.int .i64) (.pair (.int .i64) .unit)))))]) (m := 15) (g := ze2 N) [6, 7, 4] (zd hb N (zoh N) zah z63 TabOk.nil [0, 1, 1, 1] _ rfl) (fun x K => by kernel_rfl)

def z2s (N : Nat) (b : (Int × (Int × (Int × (Int × Unit))))) (now : Int) : Option ((Int × (Int × (Int × (Int × Unit)))) × Bool × Unit) :=
 (zcr N b now).bind fun y =>
 z8s N ((0 : Int), ((0 : Int), ((0 : Int), ((0 : Int), ())))) y y
 (fun rest => some (rest, ((!(Go.Lift.eqD (Go.Lift.T.pair (Go.Lift.T.int Go.IntKind.i64) (Go.Lift.T.pair (Go.Lift.T.int Go.IntKind.i64) (Go.Lift.T.pair (Go.Lift.T.int Go.IntKind.i64) (Go.Lift.T.pair (Go.Lift.T.int Go.IntKind.i64) Go.Lift.T.unit)))) rest y)), ())))

def zh1 (N : Nat) : Tab ((Int × (Int × (Int × (Int × Unit)))) × Bool × Unit) := [([0, 1, 1, 1], ze1 N)]

theorem zkh (N : Nat) (x : z1j [(0, .v (.pair (.int .i64) (.pair (.int .i64) (.pair (.int .i64) (.pair (.int .i64) .unit))))), (0, .v (.int .i64))]) : z60 (z6e N) N (zh1 N) zah Go.Proofs.Try.f17 (mkS [(0, .v (.pair (.int .i64) (.pair (.int .i64) (.pair (.int .i64) (.pair (.int .i64) .unit))))), (0, .v (.int .i64))] 0 x) (z2d (.tup [(.pair (.int .i64) (.pair (.int .i64) (.pair (.int .i64) (.pair (.int .i64) .unit)))), .bool]) 2) = z2s N x.1 x.2.1 := by kernel_rfl

def zcm (N : Nat) : List A -> Res := z17 [(0, .v (.pair (.int .i64) (.pair (.int .i64) (.pair (.int .i64) (.pair (.int .i64) .unit))))), (0, .v (.int .i64))] (fun x => z2s N x.1 x.2.1) (z5v (.tup [(.pair (.int .i64) (.pair (.int .i64) (.pair (.int .i64) (.pair (.int .i64) .unit)))), .bool]) 2)

theorem ze3 (N : Nat) : Contract Go.Proofs.Try.prog z9 17 (zcm N) :=
  Contract.of (E := z6e N) (H := zh1 N) (L := zah) (N := N) (body := z63) (K := (z2d (.tup [(.pair (.int .i64) (.pair (.int .i64) (.pair (.int .i64) (.pair (.int .i64) .unit)))), .bool]) 2)) (zmz N) Go.Proofs.Try.func17 (by kernel_rfl) (by decide) (fun _ hb => (TabOk.cons (zmy hb) TabOk.nil)) (fun x y h => by rw [zkh]; exact h) (zw (s := (.tup [(.pair (.int .i64) (.pair (.int .i64) (.pair (.int .i64) (.pair (.int .i64) .unit)))), .bool])) (m := 2))

def zn1 : Code := (Go.Proofs.Try.f26.body).getD .skip

def zjl : List (List Nat × List Nat) := [([0], [2, 1, 4]), ([0, 1], [4]), ([1, 1], [4])]

def zco (N : Nat) : Env := z1x tys z9 [] [] [] [] false [] []

theorem zoi (N : Nat) : EnvOk Go.Proofs.Try.prog (zco N) := zj mixed z14 (FnsOk.nil) (ItsOk.nil)

def zpm (N : Nat) (c : ((List UInt8) × (Int × (Int × Unit)))) (now : Int) : Option (Int × (Int × (Int × (Int × Unit)))) :=
 some (c.2.1, (c.2.2.1, ((0 : Int), (now, ()))))

def zjk (N : Nat) : Tab (Int × (Int × (Int × (Int × Unit)))) := []

theorem zn0 (N : Nat) (x : z1j [(0, .v (.pair .str (.pair (.int .i64) (.pair (.int .i64) .unit)))), (0, .v (.int .i64))]) : z60 (zco N) N (zjk N) zjl Go.Proofs.Try.f26 (mkS [(0, .v (.pair .str (.pair (.int .i64) (.pair (.int .i64) .unit)))), (0, .v (.int .i64))] 0 x) (z2d (.v (.pair (.int .i64) (.pair (.int .i64) (.pair (.int .i64) (.pair (.int .i64) .unit))))) 2) = zpm N x.1 x.2.1 := by kernel_rfl

def ze6 (N : Nat) : List A -> Res := z17 [(0, .v (.pair .str (.pair (.int .i64) (.pair (.int .i64) .unit)))), (0, .v (.int .i64))] (fun x => zpm N x.1 x.2.1) (z5v (.v (.pair (.int .i64) (.pair (.int .i64) (.pair (.int .i64) (.pair (.int .i64) .unit))))) 2)

theorem zr5 (N : Nat) : Contract Go.Proofs.Try.prog z9 26 (ze6 N) :=
  Contract.of (E := zco N) (H := zjk N) (L := zjl) (N := N) (body := zn1) (K := (z2d (.v (.pair (.int .i64) (.pair (.int .i64) (.pair (.int .i64) (.pair (.int .i64) .unit))))) 2)) (zoi N) Go.Proofs.Try.func26 (by kernel_rfl) (by decide) (fun _ hb => TabOk.nil) (fun x y h => by rw [zn0]; exact h) (zw (s := (.v (.pair (.int .i64) (.pair (.int .i64) (.pair (.int .i64) (.pair (.int .i64) .unit)))))) (m := 2))

def zbu : Code := (Go.Proofs.Try.f16.body).getD .skip

def z8a : List (List Nat × List Nat) := [([0], [0, 3, 4]), ([0, 1], [6, 4, 0]), ([0, 0, 1, 1], [15, 4, 0, 6]), ([1, 0, 1, 1], [0, 6, 4]), ([0, 0, 1, 0, 1, 1], [4, 5, 0]), ([1, 0, 1, 0, 1, 1], [4, 5, 0]), ([0, 1, 1, 1], [4, 5, 0]), ([1, 1, 1, 1], [4, 5, 0])]

def z4l (N : Nat) : Env := z1x tys z9 [(26, ze6 N), (21, z9y N)] [] [] [0] false [(13, .unit)] []

theorem zdg (N : Nat) : EnvOk Go.Proofs.Try.prog (z4l N) := zj mixed z14 (FnsOk.cons (zr5 N) (FnsOk.cons (zj1 N) (FnsOk.nil))) (ItsOk.nil)

def z1p (N : Nat) (r_ : ((List ((List UInt8) × (Int × (Int × Unit)))) × (Int × (Go.Value × Unit)))) (o : ((List UInt8) × ((List UInt8) × Unit))) : Option (((Int × (Int × (Int × (Int × Unit)))) × Bool × Unit) × (((List ((List UInt8) × (Int × (Int × Unit)))) × (Int × (Go.Value × Unit))) × Unit)) :=
 (z70 N r_.1 o.2.1).bind fun y =>
 cond (decide (y < (0 : Int)))
 (some ((((0 : Int), ((0 : Int), ((0 : Int), ((0 : Int), ())))), (false, ())), (r_, ())))
 (cond (Go.Lift.inR y (List.length r_.1))
 (cond (decide ((Int.toNat y) < (List.length r_.1)))
 (some ((((List.getD r_.1 (Int.toNat y) (([] : List UInt8), ((0 : Int), ((0 : Int), ())))).2.1, ((List.getD r_.1 (Int.toNat y) (([] : List UInt8), ((0 : Int), ((0 : Int), ())))).2.2.1, ((0 : Int), (r_.2.1, ())))), (true, ())), (r_, ())))
 (none))
 (none))

def z89 (N : Nat) : Tab (((Int × (Int × (Int × (Int × Unit)))) × Bool × Unit) × (((List ((List UInt8) × (Int × (Int × Unit)))) × (Int × (Go.Value × Unit))) × Unit)) := []

theorem zbt (N : Nat) (x : z1j [(0, .box (.pair (.own (.pair .str (.pair (.int .i64) (.pair (.int .i64) .unit)))) (.pair (.int .i64) (.pair .opq .unit)))), (0, .v (.pair .str (.pair .str .unit)))]) : z60 (z4l N) N (z89 N) z8a Go.Proofs.Try.f16 (mkS [(0, .box (.pair (.own (.pair .str (.pair (.int .i64) (.pair (.int .i64) .unit)))) (.pair (.int .i64) (.pair .opq .unit)))), (0, .v (.pair .str (.pair .str .unit)))] 0 x) (zo6 (.tup [(.pair (.int .i64) (.pair (.int .i64) (.pair (.int .i64) (.pair (.int .i64) .unit)))), .bool]) [(0, .box (.pair (.own (.pair .str (.pair (.int .i64) (.pair (.int .i64) .unit)))) (.pair (.int .i64) (.pair .opq .unit))))] 1) = z1p N x.1 x.2.1 := by kernel_rfl

def z68 (N : Nat) : List A -> Res := z17 [(0, .box (.pair (.own (.pair .str (.pair (.int .i64) (.pair (.int .i64) .unit)))) (.pair (.int .i64) (.pair .opq .unit)))), (0, .v (.pair .str (.pair .str .unit)))] (fun x => z1p N x.1 x.2.1) (zsb (.tup [(.pair (.int .i64) (.pair (.int .i64) (.pair (.int .i64) (.pair (.int .i64) .unit)))), .bool]) [(0, .box (.pair (.own (.pair .str (.pair (.int .i64) (.pair (.int .i64) .unit)))) (.pair (.int .i64) (.pair .opq .unit))))] 1)

theorem z73 (N : Nat) : Contract Go.Proofs.Try.prog z9 16 (z68 N) :=
  Contract.of (E := z4l N) (H := z89 N) (L := z8a) (N := N) (body := zbu) (K := (zo6 (.tup [(.pair (.int .i64) (.pair (.int .i64) (.pair (.int .i64) (.pair (.int .i64) .unit)))), .bool]) [(0, .box (.pair (.own (.pair .str (.pair (.int .i64) (.pair (.int .i64) .unit)))) (.pair (.int .i64) (.pair .opq .unit))))] 1)) (zdg N) Go.Proofs.Try.func16 (by kernel_rfl) (by decide) (fun _ hb => TabOk.nil) (fun x y h => by rw [zbt]; exact h) (zks (s := (.tup [(.pair (.int .i64) (.pair (.int .i64) (.pair (.int .i64) (.pair (.int .i64) .unit)))), .bool])) (os := [(0, .box (.pair (.own (.pair .str (.pair (.int .i64) (.pair (.int .i64) .unit)))) (.pair (.int .i64) (.pair .opq .unit))))]) (m := 1))

def zdf : Code := (Go.Proofs.Try.f14.body).getD .skip

def z97 : List (List Nat × List Nat) := [([0], [0]), ([0, 1], [2, 0]), ([1, 1], [2, 0])]

def z55 (N : Nat) : Env := z1x tys z9 [] [] [] [0] false [] []

theorem zer (N : Nat) : EnvOk Go.Proofs.Try.prog (z55 N) := zj mixed z14 (FnsOk.nil) (ItsOk.nil)

def z72 (N : Nat) (r_ : ((List ((List UInt8) × (Int × (Int × Unit)))) × (Int × ((Option (List (((List UInt8) × ((List UInt8) × Unit)) × (Int × (Int × (Int × (Int × Unit))))))) × Unit)))) : Option (Bool × (((List ((List UInt8) × (Int × (Int × Unit)))) × (Int × ((Option (List (((List UInt8) × ((List UInt8) × Unit)) × (Int × (Int × (Int × (Int × Unit))))))) × Unit))) × Unit)) :=
 some ((!(!(Option.isSome r_.2.2.1))), (r_, ()))

def z94 (N : Nat) : Tab (Bool × (((List ((List UInt8) × (Int × (Int × Unit)))) × (Int × ((Option (List (((List UInt8) × ((List UInt8) × Unit)) × (Int × (Int × (Int × (Int × Unit))))))) × Unit))) × Unit)) := []

theorem zde (N : Nat) (x : z1j [(0, .box (.pair (.own (.pair .str (.pair (.int .i64) (.pair (.int .i64) .unit)))) (.pair (.int .i64) (.pair (.mp (.pair .str (.pair .str .unit)) (.pair (.int .i64) (.pair (.int .i64) (.pair (.int .i64) (.pair (.int .i64) .unit))))) .unit))))]) : z60 (z55 N) N (z94 N) z97 Go.Proofs.Try.f14 (mkS [(0, .box (.pair (.own (.pair .str (.pair (.int .i64) (.pair (.int .i64) .unit)))) (.pair (.int .i64) (.pair (.mp (.pair .str (.pair .str .unit)) (.pair (.int .i64) (.pair (.int .i64) (.pair (.int .i64) (.pair (.int .i64) .unit))))) .unit))))] 0 x) (zo6 (.v .bool) [(0, .box (.pair (.own (.pair .str (.pair (.int .i64) (.pair (.int .i64) .unit)))) (.pair (.int .i64) (.pair (.mp (.pair .str (.pair .str .unit)) (.pair (.int .i64) (.pair (.int .i64) (.pair (.int .i64) (.pair (.int .i64) .unit))))) .unit))))] 0) = z72 N x.1 := by kernel_rfl

def z71 (N : Nat) : List A -> Res := z17 [(0, .box (.pair (.own (.pair .str (.pair (.int .i64) (.pair (.int .i64) .unit)))) (.pair (.int .i64) (.pair (.mp (.pair .str (.pair .str .unit)) (.pair (.int .i64) (.pair (.int .i64) (.pair (.int .i64) (.pair (.int .i64) .unit))))) .unit))))] (fun x => z72 N x.1) (zsb (.v .bool) [(0, .box (.pair (.own (.pair .str (.pair (.int .i64) (.pair (.int .i64) .unit)))) (.pair (.int .i64) (.pair (.mp (.pair .str (.pair .str .unit)) (.pair (.int .i64) (.pair (.int .i64) (.pair (.int .i64) (.pair (.int .i64) .unit))))) .unit))))] 0)

theorem z88 (N : Nat) : Contract Go.Proofs.Try.prog z9 14 (z71 N) :=
  Contract.of (E := z55 N) (H := z94 N) (L := z97) (N := N) (body := zdf) (K := (zo6 (.v .bool) [(0, .box (.pair (.own (.pair .str (.pair (.int .i64) (.pair (.int .i64) .unit)))) (.pair (.int .i64) (.pair (.mp (.pair .str (.pair .str .unit)) (.pair (.int .i64) (.pair (.int .i64) (.pair (.int .i64) (.pair (.int .i64) .unit))))) .unit))))] 0)) (zer N) Go.Proofs.Try.func14 (by kernel_rfl) (by decide) (fun _ hb => TabOk.nil) (fun x y h => by rw [zde]; exact h) (zks (s := (.v .bool)) (os := [(0, .box (.pair (.own (.pair .str (.pair (.int .i64) (.pair (.int .i64) .unit)))) (.pair (.int .i64) (.pair (.mp (.pair .str (.pair .str .unit)) (.pair (.int .i64) (.pair (.int .i64) (.pair (.int .i64) (.pair (.int .i64) .unit))))) .unit))))]) (m := 0))

def z96 : Code := (Go.Proofs.Try.f14.body).getD .skip

def z5i : List (List Nat × List Nat) := [([0], [0]), ([0, 1], [2]), ([1, 1], [2])]

def z36 (N : Nat) : Env := z1x tys z9 [] [] [] [] false [] []

theorem za1 (N : Nat) : EnvOk Go.Proofs.Try.prog (z36 N) := zj mixed z14 (FnsOk.nil) (ItsOk.nil)

def z47 (N : Nat) : Option Bool :=
 some false

def z5h (N : Nat) : Tab Bool := []

theorem z95 (N : Nat) (x : z1j [(0, .nilp)]) : z60 (z36 N) N (z5h N) z5i Go.Proofs.Try.f14 (mkS [(0, .nilp)] 0 x) (z2d (.v .bool) 1) = z47 N := by kernel_rfl

def za0 (N : Nat) : List A -> Res := z17 [(0, .nilp)] (fun x => z47 N) (z5v (.v .bool) 1)

theorem zb4 (N : Nat) : Contract Go.Proofs.Try.prog z9 14 (za0 N) :=
  Contract.of (E := z36 N) (H := z5h N) (L := z5i) (N := N) (body := z96) (K := (z2d (.v .bool) 1)) (za1 N) Go.Proofs.Try.func14 (by kernel_rfl) (by decide) (fun _ hb => TabOk.nil) (fun x y h => by rw [z95]; exact h) (zw (s := (.v .bool)) (m := 1))

def z4k (N : Nat) : List A -> Res := zvc [(0, .nilp)] (fun x => z47 N) (z5v (.v .bool) 1) (z71 N)

theorem z8p (N : Nat) : Contract Go.Proofs.Try.prog z9 14 (z4k N) := Contract.alt (zb4 N) (z88 N)

abbrev OwT : T := .pair .str (.pair .str .unit)

abbrev BkT : T := .pair (.int .i64) (.pair (.int .i64) (.pair (.int .i64) (.pair (.int .i64) .unit)))

abbrev RtT : T := .pair (.own ClassT) (.pair (.int .i64) (.pair (.mp OwT BkT) .unit))

abbrev RtA : T := .pair (.own ClassT) (.pair (.int .i64) (.pair .opq .unit))

theorem zia (S : Hp) : GlobOk z9 S := fun g d h => by cases h

theorem zyi (S : Hp) (t c : List UInt8) : VR S OwT (t, (c, ())) (.agg #[.string ⟨⟨t⟩⟩, .string ⟨⟨c⟩⟩]) :=
  show ∃ cs, _ = Value.agg cs /\ Rd S OwT (t, (c, ())) cs.toList from ⟨_, rfl, [.string ⟨⟨t⟩⟩], _, rfl, rfl, [.string ⟨⟨c⟩⟩], [], rfl, rfl, rfl⟩

abbrev bkV (a b c d : Int) : Value := .agg #[.int .i64 a, .int .i64 b, .int .i64 c, .int .i64 d]

theorem z123 (S : Hp) (a b c d : Int) : VR S BkT (a, (b, (c, (d, ())))) (bkV a b c d) :=
  show ∃ cs, _ = Value.agg cs /\ Rd S BkT (a, (b, (c, (d, ())))) cs.toList from
    ⟨_, rfl, [.int .i64 a], _, rfl, rfl, [.int .i64 b], _, rfl, rfl, [.int .i64 c], _, rfl, rfl, [.int .i64 d], [], rfl, rfl, rfl⟩

theorem z124 {S : Hp} {a b c d : Int} {v : Value} (h : VR S BkT (a, (b, (c, (d, ())))) v) : v = bkV a b c d := by
  have h' : ∃ cs, v = .agg cs /\ Rd S BkT (a, (b, (c, (d, ())))) cs.toList := h
  obtain ⟨cs, rfl, c1, c2, hc, k1, c3, c4, hc', k2, c5, c6, hc'', k3, c7, c8, hc3, k4, k5⟩ := h'
  have e1 : c1 = [.int .i64 a] := k1
  have e2 : c3 = [.int .i64 b] := k2
  have e3 : c5 = [.int .i64 c] := k3
  have e4 : c7 = [.int .i64 d] := k4
  have e5 : c8 = [] := k5
  congr 1
  apply Array.toList_inj.1
  rw [hc, hc', hc'', hc3, e1, e2, e3, e4, e5]
  rfl

theorem zxn {h S : Hp} {a b c d : Int} {ok : Bool} {v : Value} {o : List Nat} (hr : ARel h S (fun _ => undef) (.tup [⟨BkT, (a, (b, (c, (d, ()))))⟩, ⟨.bool, ok⟩]) v o) : v = .tuple #[bkV a b c d, .bool ok] := by
  obtain ⟨_, vs, rfl, ht⟩ := hr
  generalize hvs : vs.toList = l at ht
  cases ht with
  | cons h1 ht =>
  cases ht with
  | cons h2 ht =>
  cases ht
  congr 1
  apply Array.toList_inj.1
  rw [hvs, z124 h1, VR.bool_inv h2]

theorem zv5 {h S : Hp} {cls : List ClassT.den} {start : Int} {m : Option (List (OwT.den × BkT.den))} {v : Value} {o : List Nat} (hr : ARel h S (fun _ => undef) (.box RtT (cls, (start, (m, ())))) v o) :
    ∃ b sv mv E fr b1 b2, o = b :: (b1 ++ b2) /\ v = .pointer (some ⟨b, 0, none⟩) /\ h b = some (.cells #[sv, .int .i64 start, mv] E fr) /\ Free #[sv, .int .i64 start, mv] fr /\ RowRel h S ClassT cls sv b1 /\ MpRel h S OwT BkT m mv b2 := by
  obtain ⟨b, cs, E, fr, bs, rfl, rfl, hb, hf, c1, c2, b1, b2, hc, hbs, ⟨sv, hsv, hrow⟩, c3, c4, b3, b4, hc', hbs', ⟨hb3, hi⟩, c5, c6, b5, b6, hc'', hbs'', ⟨mv, hmv, hmp⟩, ⟨hb6, hu⟩⟩ := hr
  have e3 : c3 = [.int .i64 start] := hi
  have e6 : c6 = [] := hu
  have ecs : cs = #[sv, .int .i64 start, mv] := by
    apply Array.toList_inj.1
    rw [hc, hc', hc'', hsv, e3, hmv, e6]; rfl
  subst ecs
  exact ⟨b, sv, mv, E, fr, b1, b5, by rw [hbs, hbs', hbs'', hb3, hb6]; simp, rfl, hb, hf, hrow, hmp⟩

theorem z14h {h S : Hp} {cls : List ClassT.den} {start : Int} {m : Option (List (OwT.den × BkT.den))} {b E : Nat} {fr : Nat × Nat} {sv mv : Value} {b1 b2 : List Nat} (hb : h b = some (.cells #[sv, .int .i64 start, mv] E fr)) (hf : Free #[sv, .int .i64 start, mv] fr)
    (h1 : RowRel h S ClassT cls sv b1) (h2 : MpRel h S OwT BkT m mv b2) : ARel h S (fun _ => undef) (.box RtT (cls, (start, (m, ())))) (.pointer (some ⟨b, 0, none⟩)) (b :: (b1 ++ b2)) :=
  ⟨b, _, E, fr, _, rfl, rfl, hb, hf, [sv], [.int .i64 start, mv], b1, b2, rfl, rfl, ⟨sv, rfl, h1⟩, [.int .i64 start], [mv], [], b2, rfl, rfl, ⟨rfl, rfl⟩, [mv], [], b2, [], rfl, by simp, ⟨mv, rfl, h2⟩, ⟨rfl, rfl⟩⟩

theorem zy2 {w0 : World} {w : World} {S0 : Hp} {ob0 : List Nat} {bf : Nat} {L : List (Nat × Array Value × Nat)} {cls : List ClassT.den} {start : Int} {xs : List (OwT.den × BkT.den)} (h : BSt RtT w0 S0 ob0 bf w (cls, (start, (some xs, ()))) L) : ∃ mb, w.cell? ⟨bf, 2, none⟩ = some (.map (some mb)) := by
  obtain ⟨S, o, h1, h2, h3, h4, h5, h6, h7, hL⟩ := h
  obtain ⟨b, sv, mv, E, fr, b1, b2, rfl, e, hb, hf, hrow, hmp⟩ := zv5 h5
  cases e
  rcases hmp with ⟨e, _⟩ | ⟨xs', mb, es, cl, e, e1, e2, e3, _⟩
  . cases e
  . subst e2
    have hb' : w.heap[bf]? = _ := hb
    exact ⟨mb, by simp [World.cell?, hb']⟩

theorem zy3 {w0 : World} {w : World} {S0 : Hp} {ob0 : List Nat} {bf : Nat} {L : List (Nat × Array Value × Nat)} (N : Nat) {cls : List ClassT.den} {start : Int} {xs : List (OwT.den × BkT.den)} {mb : Nat} (t c : List UInt8) (h : BSt RtT w0 S0 ob0 bf w (cls, (start, (some xs, ()))) L) (hc : w.cell? ⟨bf, 2, none⟩ = some (.map (some mb))) :
    ∃ a1 a2 a3 a4, (z40 (eqD OwT) (t, (c, ())) xs).getD (0, (0, (0, (0, ())))) = (a1, (a2, (a3, (a4, ())))) /\ (Instr.lookup 40 (.map (some mb)) (.agg #[.string ⟨⟨t⟩⟩, .string ⟨⟨c⟩⟩]) true).run Try.prog w = .ok (.tuple #[bkV a1 a2 a3 a4, .bool (z40 (eqD OwT) (t, (c, ())) xs).isSome]) w := by
  obtain ⟨S, o, h1, h2, h3, h4, h5, h6, h7, hL⟩ := h
  obtain ⟨b, sv, mv, E, fr, b1, b2, rfl, e, hb, hf, hrow, hmp⟩ := zv5 h5
  cases e
  have hb' : w.heap[bf]? = _ := hb
  have hmv : mv = .map (some mb) := by simpa [World.cell?, hb'] using hc
  subst hmv
  rcases hmp with ⟨e, _⟩ | ⟨xs', mb', es, cl, e, e1, e2, e3, e4, _⟩
  . cases e
  . cases e; cases e2
    obtain ⟨u, hu, hrun⟩ := ztr (zbv N) (S := S) (t := 40) (ki := 49) (ke := ty49) (ve := ty51) (by kernel_rfl) (zyi S t c) e3 e4
    generalize hq : (z40 (eqD OwT) (t, (c, ())) xs).getD (0, (0, (0, (0, ())))) = q
    obtain ⟨a1, a2, a3, a4, ⟨⟩⟩ := q
    refine ⟨a1, a2, a3, a4, rfl, ?_⟩
    have hu' : VR S BkT (a1, (a2, (a3, (a4, ())))) u := by rw [<- hq]; exact hu
    rw [z124 hu'] at hrun
    exact hrun

theorem z102 {w : World} {S : Hp} : ArgsRel (hp w) S [] [] (fun _ => []) := ⟨rfl, (fun i y hy => by simp at hy), fun _ _ => rfl, (fun i j b hb => by cases hb), fun _ => .nil, (fun i b hb => by cases hb)⟩

theorem z11j {w : World} {S : Hp} {a : A} {v : Value} (h : ARel (hp w) S (fun _ => undef) a v []) (hr : a.refs = []) : ArgsRel (hp w) S [a] [v] (fun _ => []) := by
  refine ⟨rfl, fun i y hy => ?_, fun _ _ => rfl, (fun i j b hb => by cases hb), fun _ => .nil, (fun i b hb => by cases hb)⟩
  cases i with
  | zero => simp at hy; subst hy; exact ⟨⟨v, rfl, h⟩, hr⟩
  | succ i => simp at hy

theorem z11i {w : World} {S : Hp} {a b : A} {v u : Value} (h : ARel (hp w) S (fun _ => undef) a v []) (hr : a.refs = []) (h2 : ARel (hp w) S (fun _ => undef) b u []) (hr2 : b.refs = []) : ArgsRel (hp w) S [a, b] [v, u] (fun _ => []) := by
  refine ⟨rfl, fun i y hy => ?_, fun _ _ => rfl, (fun i j b hb => by cases hb), fun _ => .nil, (fun i b hb => by cases hb)⟩
  cases i with
  | zero => simp at hy; subst hy; exact ⟨⟨v, rfl, h⟩, hr⟩
  | succ i =>
    cases i with
    | zero => simp at hy; subst hy; exact ⟨⟨u, rfl, h2⟩, hr2⟩
    | succ i => simp at hy

theorem zma {w0 : World} {w : World} {S0 : Hp} {ob0 : List Nat} {bf : Nat} {L : List (Nat × Array Value × Nat)} (N : Nat) {cls : List ClassT.den} {start : Int} {m : Option (List (OwT.den × BkT.den))} (h : BSt RtT w0 S0 ob0 bf w (cls, (start, (m, ()))) L) :
    Calls Try.prog 14 #[.pointer (some ⟨bf, 0, none⟩)] w fun e w' => e = .returned (.bool m.isSome) /\ BSt RtT w0 S0 ob0 bf w' (cls, (start, (m, ()))) L := by
  have hy : z72 N (cls, (start, (m, ()))) = some (m.isSome, ((cls, (start, (m, ()))), ())) := by
    show some (!(!m.isSome), _) = _
    rw [Bool.not_not]
  refine (BSt.boxed (z88 N) zia h (args := []) (vals := []) (fun S _ => z102) (y := (m.isSome, ((cls, (start, (m, ()))), ()))) hy rfl).mono ?_
  rintro e w' ⟨v, S', o', rfl, hr, h'⟩
  exact ⟨by rw [VR.bool_inv hr.1], h'⟩

def zgs (N : Nat) (cls : List ClassT.den) (start : Int) (o : OwT.den) : Option (BkT.den × (Bool × Unit)) := (z1p N (cls, (start, (.nilIface, ()))) o).map (·.1)

theorem zzb (N : Nat) (cls : List ClassT.den) (start : Int) (v : Value) (o : OwT.den) : z1p N (cls, (start, (v, ()))) o = (zgs N cls start o).bind fun q => some (q, ((cls, (start, (v, ()))), ())) := by
  unfold zgs z1p
  dsimp only
  cases z70 N cls o.2.1 with
  | none => rfl
  | some y =>
    simp only [Option.bind_some]
    cases decide (y < 0) with
    | true => rfl
    | false =>
      simp only [cond_false]
      cases inR y (List.length cls) with
      | false => rfl
      | true =>
        simp only [cond_true]
        cases decide (Int.toNat y < List.length cls) <;> rfl

theorem zx3 {w0 : World} {w : World} {S0 : Hp} {ob0 : List Nat} {bf : Nat} {L : List (Nat × Array Value × Nat)} (N : Nat) {cls : List ClassT.den} {start : Int} {xs : List (OwT.den × BkT.den)} {mb : Nat} {t c : List UInt8} {a1 a2 a3 a4 : Int} {ok : Bool} (h : BSt RtT w0 S0 ob0 bf w (cls, (start, (some xs, ()))) L) (hc : w.cell? ⟨bf, 2, none⟩ = some (.map (some mb)))
    (hy : zgs N cls start (t, (c, ())) = some ((a1, (a2, (a3, (a4, ())))), (ok, ()))) :
    Calls Try.prog 16 #[.pointer (some ⟨bf, 0, none⟩), .agg #[.string ⟨⟨t⟩⟩, .string ⟨⟨c⟩⟩]] w fun e w' => e = .returned (.tuple #[bkV a1 a2 a3 a4, .bool ok]) /\ BSt RtT w0 S0 ob0 bf w' (cls, (start, (some xs, ()))) L /\ w'.cell? ⟨bf, 2, none⟩ = some (.map (some mb)) := by
  obtain ⟨S, o, h1, h2, h3, h4, h5, h6, h7, hL⟩ := h
  obtain ⟨b, sv, mv, E, fr, p1, p2, rfl, e, hb, hf, hrow, hmp⟩ := zv5 h5
  cases e
  have hb' : w.heap[bf]? = _ := hb
  have hmv : mv = .map (some mb) := by simpa [World.cell?, hb'] using hc
  subst hmv
  have hmp' := hmp
  rcases hmp with ⟨e, _⟩ | ⟨xs', mb', es, cl, e, e1, e2, e3, e4, e5, e6⟩
  . cases e
  cases e; cases e2
  subst e1
  have h6' := h6
  rw [List.nodup_cons, List.nodup_append] at h6'
  obtain ⟨n1, n2, n3, n4⟩ := h6'
  have hbm : bf ≠ mb := fun e => n1 (by simp [e])
  have hpm : mb ∉ p1 := fun hm => n4 mb hm mb (by simp) rfl
  have hms : mb < w.heap.size := by
    have : w.heap[mb]? = _ := e3
    exact (Array.getElem?_eq_some_iff.1 this).1
  have h5' : ARel (hp w) S (fun _ => undef) (.box RtA (cls, (start, (.map (some mb), ())))) (.pointer (some ⟨bf, 0, none⟩)) (bf :: p1) :=
    ⟨bf, _, E, fr, _, rfl, rfl, hb, hf, [sv], [.int .i64 start, .map (some mb)], p1, [], rfl, by simp, ⟨sv, rfl, hrow⟩, [.int .i64 start], [.map (some mb)], [], [], rfl, rfl, ⟨rfl, rfl⟩, [.map (some mb)], [], [], [], rfl, rfl, ⟨rfl, rfl, rfl⟩, ⟨rfl, rfl⟩⟩
  have har := zvw h5' (List.nodup_cons.2 ⟨fun hm => n1 (by simp [hm]), n2⟩) (fun k hk => (h7 k (by simp at hk ⊢; rcases hk with hk | hk <;> simp [hk])).1) (z11j (a := .v OwT (t, (c, ()))) (v := .agg #[.string ⟨⟨t⟩⟩, .string ⟨⟨c⟩⟩]) ⟨zyi S t c, rfl⟩ rfl)
  have hy' : z1p N (cls, (start, (.map (some mb), ()))) (t, (c, ())) = some (((a1, (a2, (a3, (a4, ())))), (ok, ())), ((cls, (start, (.map (some mb), ()))), ())) := by
    rw [zzb, hy]; rfl
  refine ((z73 N).2 w S _ _ _ har h3 (zia S) (((a1, (a2, (a3, (a4, ())))), (ok, ())), ((cls, (start, (.map (some mb), ()))), ())) hy').mono ?_
  rintro e w' ⟨v, S', q, ob', rfl, hwf, hSS, hSw, hnew, ⟨hr, _⟩, hq, _, hbox, hob1, hob2, hob3, _⟩
  have hin : ∀ k, (∃ i, k ∈ (fun i => if i = 0 then bf :: p1 else []) i) -> k ∈ bf :: p1 := by
    rintro k ⟨i, hi⟩
    by_cases hi0 : i = 0
    . simpa [hi0] using hi
    . simp [hi0] at hi
  have hmn : mb ∉ bf :: p1 := by
    intro hm
    rcases List.mem_cons.1 hm with hm | hm
    . exact hbm hm.symm
    . exact hpm hm
  obtain ⟨x2, v2, g1, g2, _, g4⟩ := hbox 0 _ rfl rfl
  cases g1
  simp at g2
  subst g2
  obtain ⟨b', cs', E', fr', bs', eo, ev, hb2, hf2, c1, c2, q1, q2, hcs, hbs, ⟨sv', hsv, hrow'⟩, c3, c4, q3, q4, hcs', hbs', ⟨hq3, hi⟩, c5, c6, q5, q6, hcs'', hbs'', ⟨hq5, hop, _⟩, ⟨hq6, hu⟩⟩ := g4
  cases ev
  have i3 : c3 = [.int .i64 start] := hi
  have i6 : c6 = [] := hu
  have ecs : cs' = #[sv', .int .i64 start, .map (some mb)] := by
    apply Array.toList_inj.1
    rw [hcs, hcs', hcs'', hsv, i3, hop, i6]; rfl
  subst ecs
  have ebs : bs' = q1 := by rw [hbs, hbs', hbs'', hq3, hq5, hq6]; simp
  subst ebs
  have hsame : hp w' mb = hp w mb := hwf.same mb hms (fun hh => hmn (hin mb hh))
  have hnd := hob3 0
  rw [eo] at hnd
  have hfar : ∀ k ∈ bf :: bs', k ≠ mb := by
    rintro k hk rfl
    have := (hob1 0 k (by rw [eo]; exact hk)).1
    rcases this with h | h
    . exact hmn (hin k h)
    . omega
  refine ⟨by rw [zxn hr], zzy h1 h2 h4 h7 hL (S' := S') (o' := bf :: (bs' ++ [mb])) ⟨hwf.size, fun k hk hn => hwf.same k hk (fun hh => hn (by have := hin k hh; simp at this ⊢; rcases this with h | h <;> simp [h])), hwf.tape, hwf.os, hwf.output⟩ hSS hSw (fun k hk => ?_) ?_ ?_ (fun k hk => ?_), ?_⟩
  . rcases hnew k hk with h | h | h
    . exact .inl h
    . exact .inr (.inl (by have := hin k h; simp at this ⊢; rcases this with h | h <;> simp [h]))
    . exact .inr (.inr h)
  . exact z14h hb2 hf2 hrow' (hmp'.mono hSS (fun k hk => by rw [List.mem_singleton.1 hk]; exact hsame))
  . rw [<- List.cons_append, List.nodup_append]
    exact ⟨hnd, by simp, fun k hk u hu => by rw [List.mem_singleton.1 hu]; exact hfar k hk⟩
  . have hk' : k ∈ bf :: bs' \/ k = mb := by simp at hk ⊢; rcases hk with h | h | h <;> simp [h]
    rcases hk' with hk' | rfl
    . obtain ⟨z1, z2, _⟩ := hob1 0 k (by rw [eo]; exact hk')
      refine ⟨z2, ?_⟩
      rcases z1 with h | h
      . exact .inl (by have := hin k h; simp at this ⊢; rcases this with h | h <;> simp [h])
      . exact .inr h
    . refine ⟨?_, .inl (by simp)⟩
      cases hs : S' k with
      | none => rfl
      | some u =>
        rcases hnew k (by rw [hs]; simp) with h | h | h
        . exact absurd (h7 k (by simp)).1 h
        . exact absurd (hin k h) hmn
        . omega
  . have hb2' : w'.heap[bf]? = _ := hb2
    simp [World.cell?, hb2']

theorem zxa {w0 : World} {w : World} {S0 : Hp} {ob0 : List Nat} {bf : Nat} {L : List (Nat × Array Value × Nat)} (N : Nat) {x : RtT.den} {a1 a2 a3 a4 b1 b2 b3 b4 now : Int} {ok : Bool} (h : BSt RtT w0 S0 ob0 bf w x L) (hy : z2s N (a1, (a2, (a3, (a4, ())))) now = some ((b1, (b2, (b3, (b4, ())))), (ok, ()))) :
    Calls Try.prog 17 #[bkV a1 a2 a3 a4, .int .i64 now] w fun e w' => e = .returned (.tuple #[bkV b1 b2 b3 b4, .bool ok]) /\ BSt RtT w0 S0 ob0 bf w' x L := by
  refine (BSt.plain (ze3 N) zia h (args := [.v BkT (a1, (a2, (a3, (a4, ())))), .v (.int .i64) now]) (vals := [bkV a1 a2 a3 a4, .int .i64 now]) (fun S _ => z11i ⟨z123 S a1 a2 a3 a4, rfl⟩ rfl ⟨VR.int, rfl⟩ rfl) (y := ((b1, (b2, (b3, (b4, ())))), (ok, ()))) hy).mono ?_
  rintro e w' ⟨v, S', o', rfl, hr, h'⟩
  exact ⟨by rw [zxn hr], h'⟩

def z35 (N : Nat) (r : RtT.den) (o : OwT.den) : Option ((BkT.den × (Bool × Unit)) × RtT.den) := match z40 (eqD OwT) o (r.2.2.1.getD []) with
  | some b => some ((b, (true, ())), r)
  | none => (zgs N r.1 r.2.1 o).bind fun q => some (q, r)

theorem z2b {w : World} {cs : Array Value} {E : Nat} {p : Addr} {v : Value} (h : w.cell? p = some v) : (w.alloc (.cells cs E)).cell? p = some v := Go.Lib.cell?_alloc_some _ h

theorem zrc {w : World} {cs : Array Value} {E i : Nat} {v : Value} (h : cs[i]? = some v) : (w.alloc (.cells cs E)).cell? ⟨w.heap.size, i, none⟩ = some v := by
  have hh : (w.alloc (.cells cs E)).heap = w.heap.push (.cells cs E (0, 0)) := rfl
  simp [World.cell?, hh, h]

theorem z14t (w : World) (cs : Array Value) (E : Nat) : (w.alloc (.cells cs E)).heap.size = w.heap.size + 1 := Array.size_push ..

theorem z14u {w : World} {A cs : Array Value} {F E i : Nat} {v : Value} (h : cs[i]? = some v) : ((w.alloc (.cells A F)).alloc (.cells cs E)).cell? ⟨w.heap.size + 1, i, none⟩ = some v := by
  have := zrc (w := w.alloc (.cells A F)) (E := E) h
  rwa [z14t] at this

theorem zh6 {w : World} {p : Addr} {v : Value} (hc : w.cell? p = some v) : p.block < w.heap.size := by
  cases hh : w.heap[p.block]? with
  | none => simp [World.cell?, hh] at hc
  | some o => exact (Array.getElem?_eq_some_iff.1 hh).1

theorem z1r {w : World} {p q : Addr} {x : Value} (h : q.block ≠ p.block) : (w.setCell p x).cell? q = w.cell? q := by
  simp only [World.setCell, World.cell?]
  rw [Array.getElem?_modify, if_neg (Ne.symm h)]

theorem zvi {w : World} {n : Nat} {tmps : Array Value} {a1 a2 a3 a4 : Int} {ok : Bool} (h6 : tmps.getD 6 undef = .pointer (some ⟨n, 0, none⟩)) (h7 : tmps.getD 7 undef = .bool ok)
    (c0 : w.cell? ⟨n, 0, none⟩ = some (.int .i64 a1)) (c1 : w.cell? ⟨n, 1, none⟩ = some (.int .i64 a2)) (c2 : w.cell? ⟨n, 2, none⟩ = some (.int .i64 a3)) (c3 : w.cell? ⟨n, 3, none⟩ = some (.int .i64 a4)) :
    (results Try.f15 tmps).run Try.prog w = .ok (.tuple #[bkV a1 a2 a3 a4, .bool ok]) w := by
  rw [results_cell_tmp rfl, h6, h7]
  simp [asAddr, Go.loadVar, go_sem, c0, c1, c2, c3]

set_option maxHeartbeats 4000000 in
theorem zwr (N : Nat) {w0 w : World} {S0 : Hp} {ob0 : List Nat} {bf : Nat} {L : List (Nat × Array Value × Nat)} {cls : List ClassT.den} {start : Int} {xs : List (OwT.den × BkT.den)} {mb : Nat} {t c : List UInt8} {a1 a2 a3 a4 : Int} {fv : Value}
    (h : BSt RtT w0 S0 ob0 bf w (cls, (start, (some xs, ()))) L) (hc : w.cell? ⟨bf, 2, none⟩ = some (.map (some mb)))
    (hl : z40 (eqD OwT) (t, (c, ())) xs = some (a1, (a2, (a3, (a4, ()))))) {R : Ending -> World -> Prop} (HR : ∀ w', BSt RtT w0 S0 ob0 bf w' (cls, (start, (some xs, ()))) L -> w'.cell? ⟨bf, 2, none⟩ = some (.map (some mb)) -> R (.returned (.tuple #[bkV a1 a2 a3 a4, .bool true])) w') :
    Calls Try.prog 15 #[.map (some mb), .agg #[.string ⟨⟨t⟩⟩, .string ⟨⟨c⟩⟩], fv] w R := by
  have HH := Go.Lib.hid HR
  have H1 := (h.alloc #[.string ⟨⟨t⟩⟩, .string ⟨⟨c⟩⟩] 49).alloc #[.int .i64 0, .int .i64 0, .int .i64 0, .int .i64 0] 51
  obtain ⟨b1, b2, b3, b4, e1, e2⟩ := zy3 N t c H1 (z2b (z2b hc))
  rw [hl] at e1 e2
  cases e1
  have HS := Go.Lib.hid h
  have HC := Go.Lib.hid hc
  clear HR H1 h hl hc
  go_enter Try.func15, Try.ntmps15
  go_wp2
  refine bodyPost_ret (zvi (n := w.heap.size + 1) (a1 := a1) (a2 := a2) (a3 := a3) (a4 := a4) (ok := true) rfl rfl ?_ ?_ ?_ ?_) rfl ?_
  iterate 4 · exact z2b (z14u rfl)
  exact HH.out _ ((((HS.out.alloc _ _).alloc _ _).alloc _ _).swap (fun p hp => by simp [hp])) (z2b (z2b (z2b HC.out)))

set_option maxHeartbeats 4000000 in
theorem zwq (N : Nat) {w0 w : World} {S0 : Hp} {ob0 : List Nat} {bf : Nat} {L : List (Nat × Array Value × Nat)} {cls : List ClassT.den} {start : Int} {xs : List (OwT.den × BkT.den)} {mb : Nat} {t c : List UInt8} {a1 a2 a3 a4 : Int} {ok : Bool}
    (h : BSt RtT w0 S0 ob0 bf w (cls, (start, (some xs, ()))) L) (hc : w.cell? ⟨bf, 2, none⟩ = some (.map (some mb)))
    (hl : z40 (eqD OwT) (t, (c, ())) xs = none) (hy : zgs N cls start (t, (c, ())) = some ((a1, (a2, (a3, (a4, ())))), (ok, ()))) {R : Ending -> World -> Prop} (HR : ∀ w', BSt RtT w0 S0 ob0 bf w' (cls, (start, (some xs, ()))) L -> w'.cell? ⟨bf, 2, none⟩ = some (.map (some mb)) -> R (.returned (.tuple #[bkV a1 a2 a3 a4, .bool ok])) w') :
    Calls Try.prog 15 #[.map (some mb), .agg #[.string ⟨⟨t⟩⟩, .string ⟨⟨c⟩⟩], .func (.func 16) #[.pointer (some ⟨bf, 0, none⟩)] #[]] w R := by
  have HH := Go.Lib.hid HR
  have HD := Go.Lib.hid (fun (q : Nat × Array Value × Nat) (hq : q ∈ L) => (Nat.ne_of_lt (Nat.lt_succ_of_lt (h.lt q hq)) : q.1 ≠ w.heap.size + 1))
  have H1 := (h.alloc #[.string ⟨⟨t⟩⟩, .string ⟨⟨c⟩⟩] 49).alloc #[.int .i64 0, .int .i64 0, .int .i64 0, .int .i64 0] 51
  obtain ⟨b1, b2, b3, b4, e1, e2⟩ := zy3 N t c H1 (z2b (z2b hc))
  rw [hl] at e1 e2
  cases e1
  have H2 := (H1.alloc #[.int .i64 0, .int .i64 0, .int .i64 0, .int .i64 0] 51)
  simp only [z14t] at H2
  have HF := zx3 N H2 (z2b (z2b (z2b hc))) hy
  have HL := Go.Lib.hid (zh6 hc)
  clear HR H1 h hl hc H2 hy
  go_enter Try.func15, Try.ntmps15
  go_wp2_with (go_at_call 16; refine HF.mono ?_; rintro r w2 ⟨rfl, hq, hm⟩; have Q := Go.Lib.hid hq; have QM := Go.Lib.hid hm; have q0 := hq.cell (p := w.heap.size + 1) (cs := #[.int .i64 0, .int .i64 0, .int .i64 0, .int .i64 0]) (E := 51) (i := 0) (v := .int .i64 0) (by simp) rfl; have q1 := hq.cell (p := w.heap.size + 1) (cs := #[.int .i64 0, .int .i64 0, .int .i64 0, .int .i64 0]) (E := 51) (i := 1) (v := .int .i64 0) (by simp) rfl; have q2 := hq.cell (p := w.heap.size + 1) (cs := #[.int .i64 0, .int .i64 0, .int .i64 0, .int .i64 0]) (E := 51) (i := 2) (v := .int .i64 0) (by simp) rfl; have q3 := hq.cell (p := w.heap.size + 1) (cs := #[.int .i64 0, .int .i64 0, .int .i64 0, .int .i64 0]) (E := 51) (i := 3) (v := .int .i64 0) (by simp) rfl; have f0 := hq.free (p := w.heap.size + 1) (cs := #[.int .i64 0, .int .i64 0, .int .i64 0, .int .i64 0]) (E := 51) (i := 0) (by simp); have f1 := hq.free (p := w.heap.size + 1) (cs := #[.int .i64 0, .int .i64 0, .int .i64 0, .int .i64 0]) (E := 51) (i := 1) (by simp); have f2 := hq.free (p := w.heap.size + 1) (cs := #[.int .i64 0, .int .i64 0, .int .i64 0, .int .i64 0]) (E := 51) (i := 2) (by simp); have f3 := hq.free (p := w.heap.size + 1) (cs := #[.int .i64 0, .int .i64 0, .int .i64 0, .int .i64 0]) (E := 51) (i := 3) (by simp); clear HF hq hm)
  have F := (((((Q.out.swap (L' := (w.heap.size + 1, #[.int .i64 0, .int .i64 0, .int .i64 0, .int .i64 0], 51) :: L) (fun p hp => by rcases List.mem_cons.1 hp with rfl | hp <;> simp [*])).setCell HD.out 0 (.int .i64 a1)).setCell HD.out 1 (.int .i64 a2)).setCell HD.out 2 (.int .i64 a3)).setCell HD.out 3 (.int .i64 a4))
  exact bodyPost_ret (zvi (n := w.heap.size + 1) (a1 := a1) (a2 := a2) (a3 := a3) (a4 := a4) (ok := ok) rfl rfl (F.cell (List.mem_cons_self ..) rfl) (F.cell (List.mem_cons_self ..) rfl) (F.cell (List.mem_cons_self ..) rfl) (F.cell (List.mem_cons_self ..) rfl)) rfl (HH.out _ (F.swap (fun p hp => by simp [hp])) (by have := HL.out; rw [z1r, z1r, z1r, z1r]; exact QM.out; all_goals (dsimp only at this ⊢; omega)))

theorem zgo (N : Nat) {w0 w : World} {S0 : Hp} {ob0 : List Nat} {bf : Nat} {L : List (Nat × Array Value × Nat)} {cls : List ClassT.den} {start : Int} {xs : List (OwT.den × BkT.den)} {mb : Nat} {t c : List UInt8} {a1 a2 a3 a4 : Int} {ok : Bool} {x' : RtT.den}
    (h : BSt RtT w0 S0 ob0 bf w (cls, (start, (some xs, ()))) L) (hc : w.cell? ⟨bf, 2, none⟩ = some (.map (some mb)))
    (hy : z35 N (cls, (start, (some xs, ()))) (t, (c, ())) = some (((a1, (a2, (a3, (a4, ())))), (ok, ())), x')) :
    Calls Try.prog 15 #[.map (some mb), .agg #[.string ⟨⟨t⟩⟩, .string ⟨⟨c⟩⟩], .func (.func 16) #[.pointer (some ⟨bf, 0, none⟩)] #[]] w fun e w' => e = .returned (.tuple #[bkV a1 a2 a3 a4, .bool ok]) /\ x' = (cls, (start, (some xs, ()))) /\ BSt RtT w0 S0 ob0 bf w' (cls, (start, (some xs, ()))) L /\ w'.cell? ⟨bf, 2, none⟩ = some (.map (some mb)) := by
  unfold z35 at hy
  dsimp only [Option.getD_some] at hy
  cases hl : z40 (eqD OwT) (t, (c, ())) xs with
  | some b =>
    rw [hl] at hy
    cases hy
    exact zwr N h hc hl (fun w' h' hm => ⟨rfl, rfl, h', hm⟩)
  | none =>
    rw [hl] at hy
    dsimp only at hy
    cases hf : zgs N cls start (t, (c, ())) with
    | none => rw [hf] at hy; cases hy
    | some q =>
      rw [hf] at hy
      cases hy
      exact zwq N h hc hl hf (fun w' h' hm => ⟨rfl, rfl, h', hm⟩)

theorem z13z {w : World} {S : Hp} {x : RtT.den} {t c : List UInt8} {now : Int} {vals : List Value} {ob : Nat -> List Nat} (har : ArgsRel (hp w) S [.box RtT x, .v .str t, .v .str c, .v (.int .i64) now] vals ob) (hS : Lift.Sub S (hp w)) :
    ∃ bf, vals = [.pointer (some ⟨bf, 0, none⟩), .string ⟨⟨t⟩⟩, .string ⟨⟨c⟩⟩, .int .i64 now] /\ ob 0 ≠ [] /\ (∀ i, ob (i + 1) = []) /\ BSt RtT w S (ob 0) bf w x [] := by
  obtain ⟨bf, vs, rfl, hne, hB⟩ := BSt.start har hS
  have hl := har.len
  match vs, hl with
  | [v1, v2, v3], _ =>
    obtain ⟨⟨u1, e1, r1⟩, _⟩ := har.rel 1 _ rfl
    obtain ⟨⟨u2, e2, r2⟩, _⟩ := har.rel 2 _ rfl
    obtain ⟨⟨u3, e3, r3⟩, _⟩ := har.rel 3 _ rfl
    cases e1; cases e2; cases e3
    refine ⟨bf, ?_, hne, fun i => ?_, hB⟩
    . rw [VR.str_inv r1.1, VR.str_inv r2.1, VR.int_inv r3.1]
    . match i with
      | 0 => exact r1.2
      | 1 => exact r2.2
      | 2 => exact r3.2
      | i + 3 => exact har.out _ (by simp)

theorem z11q (N : Nat) {w0 w : World} {S0 : Hp} {ob0 : List Nat} {bf : Nat} {L : List (Nat × Array Value × Nat)} {cls : List ClassT.den} {start : Int} {xs : List (OwT.den × BkT.den)} {mb : Nat} (t c : List UInt8) (b1 b2 b3 b4 : Int)
    (h : BSt RtT w0 S0 ob0 bf w (cls, (start, (some xs, ()))) L) (hc : w.cell? ⟨bf, 2, none⟩ = some (.map (some mb))) :
    ∃ w', (Instr.mapUpdate 40 (.map (some mb)) (.agg #[.string ⟨⟨t⟩⟩, .string ⟨⟨c⟩⟩]) (.agg #[.int .i64 b1, .int .i64 b2, .int .i64 b3, .int .i64 b4])).run Try.prog w = .ok () w' /\ BSt RtT w0 S0 ob0 bf w' (cls, (start, (some (znh (eqD OwT) (t, (c, ())) (b1, (b2, (b3, (b4, ())))) xs), ()))) L /\ w'.cell? ⟨bf, 2, none⟩ = some (.map (some mb)) := by
  obtain ⟨S, o, h1, h2, h3, h4, h5, h6, h7, hL⟩ := h
  obtain ⟨b, sv, mv, E, fr, p1, p2, rfl, e, hb, hf, hrow, hmp⟩ := zv5 h5
  cases e
  have hb' : w.heap[bf]? = _ := hb
  have hmv : mv = .map (some mb) := by simpa [World.cell?, hb'] using hc
  subst hmv
  rcases hmp with ⟨e, _⟩ | ⟨xs', mb', es, cl, e, e1, e2, e3, e4, e5, e6⟩
  . cases e
  . cases e; cases e2
    subst e1
    obtain ⟨es', cl', hrun, g1, g2, g3⟩ := ztp (zbv N) (S := S) (t := 40) (ki := 49) (ke := ty49) (ve := ty51) (by kernel_rfl) (zyi S t c) (z123 S b1 b2 b3 b4) e3 e4 e5 e6
    refine ⟨_, hrun, ?_, ?_⟩
    rotate_left
    . have hbm : bf ≠ mb := by
        rw [List.nodup_cons] at h6
        exact fun e => h6.1 (by simp [e])
      have := zf (w := w) (o := .map es' cl') hbm
      have hb2 : (zu w mb (.map es' cl')).heap[bf]? = w.heap[bf]? := this
      simp [World.cell?, hb2, hb']
    have hne : ∀ k, k ≠ mb -> (zu w mb (.map es' cl')).heap[k]? = w.heap[k]? := fun k hk => zf (w := w) (o := .map es' cl') hk
    have hsz : (zu w mb (.map es' cl')).heap.size = w.heap.size := by simp [zu]
    have hnd : bf ≠ mb /\ mb ∉ p1 := by
      have h6' := h6
      rw [List.nodup_cons] at h6'
      refine ⟨fun e => h6'.1 (by simp [e]), fun hm => ?_⟩
      have := (List.nodup_append.1 h6'.2).2.2 mb hm mb (by simp)
      exact this rfl
    refine zzy h1 h2 h4 h7 hL (S' := S) (o' := bf :: (p1 ++ [mb])) ⟨Nat.le_of_eq hsz.symm, fun k hk hn => hne k (fun e => hn (by simp [e])), rfl, rfl, rfl⟩ (Lift.Sub.refl S) (fun k q hq => ?_) (fun k hk => .inl hk) ?_ h6 (fun k hk => ⟨(h7 k hk).1, .inl hk⟩)
    . have := h3 k q hq
      simp only [hp] at this ⊢
      rw [hne k (fun e => ?_)]
      . exact this
      . subst e
        rw [(h7 k (by simp)).1] at hq
        cases hq
    . refine z14h (b := bf) (sv := sv) (mv := .map (some mb)) (E := E) (fr := fr) ?_ hf (hrow.mono (Lift.Sub.refl S) (fun k hk => hne k (fun e => hnd.2 (e ▸ hk)))) (.inr ⟨_, mb, es', cl', rfl, rfl, rfl, z1h e3, g1, g2, g3⟩)
      show (zu w mb (.map es' cl')).heap[bf]? = _
      rw [hne bf hnd.1]; exact hb'

theorem sK {w0 w : World} {S0 : Hp} {ob0 : List Nat} {bf n p E F mb : Nat} {x : RtT.den} {t c : Value} {zs : Array Value} (h : BSt RtT w0 S0 ob0 bf w x [(p, zs, E), (n, #[t, c], F)]) (hm : w.cell? ⟨bf, 2, none⟩ = some (.map (some mb))) :
    BSt RtT w0 S0 ob0 bf w x [(n, #[t, c], F)] /\ w.cell? ⟨n, 0, none⟩ = some t /\ w.cell? ⟨n, 1, none⟩ = some c /\ w.cell? ⟨bf, 2, none⟩ = some (.map (some mb)) :=
  ⟨h.swap (fun p hp => by simp at hp; simp [hp]), h.cell (p := n) (cs := #[t, c]) (E := F) (by simp) rfl, h.cell (p := n) (cs := #[t, c]) (E := F) (by simp) rfl, hm⟩

theorem s4b {w0 w : World} {S0 : Hp} {ob0 : List Nat} {bf n p E F : Nat} {x : RtT.den} {t c : Value} {zs : Array Value} (h : BSt RtT w0 S0 ob0 bf w x [(p, zs, E), (n, #[t, c], F)]) (hn : n ≠ p) (a b d e : Value) :
    BSt RtT w0 S0 ob0 bf ((((w.setCell ⟨p, 0, none⟩ a).setCell ⟨p, 1, none⟩ b).setCell ⟨p, 2, none⟩ d).setCell ⟨p, 3, none⟩ e) x [(p, (((zs.setIfInBounds 0 a).setIfInBounds 1 b).setIfInBounds 2 d).setIfInBounds 3 e, E), (n, #[t, c], F)] := by
  have hd : ∀ q ∈ [(n, #[t, c], F)], q.1 ≠ p := fun q hq => by rw [List.mem_singleton.1 hq]; exact hn
  exact (((h.setCell hd 0 a).setCell hd 1 b).setCell hd 2 d).setCell hd 3 e

theorem s4 {w0 w : World} {S0 : Hp} {ob0 : List Nat} {bf n p E F mb : Nat} {x : RtT.den} {t c : Value} {zs : Array Value} (h : BSt RtT w0 S0 ob0 bf w x [(p, zs, E), (n, #[t, c], F)]) (hm : w.cell? ⟨bf, 2, none⟩ = some (.map (some mb))) (hn : n ≠ p) (hb : bf ≠ p) (a b d e : Value) :
    BSt RtT w0 S0 ob0 bf ((((w.setCell ⟨p, 0, none⟩ a).setCell ⟨p, 1, none⟩ b).setCell ⟨p, 2, none⟩ d).setCell ⟨p, 3, none⟩ e) x [(n, #[t, c], F)] /\ ((((w.setCell ⟨p, 0, none⟩ a).setCell ⟨p, 1, none⟩ b).setCell ⟨p, 2, none⟩ d).setCell ⟨p, 3, none⟩ e).cell? ⟨n, 0, none⟩ = some t /\ ((((w.setCell ⟨p, 0, none⟩ a).setCell ⟨p, 1, none⟩ b).setCell ⟨p, 2, none⟩ d).setCell ⟨p, 3, none⟩ e).cell? ⟨n, 1, none⟩ = some c /\ ((((w.setCell ⟨p, 0, none⟩ a).setCell ⟨p, 1, none⟩ b).setCell ⟨p, 2, none⟩ d).setCell ⟨p, 3, none⟩ e).cell? ⟨bf, 2, none⟩ = some (.map (some mb)) :=
  sK (s4b h hn a b d e) (by rw [z1r hb, z1r hb, z1r hb, z1r hb]; exact hm)

end
end Go.Proofs.YtbnhlpehccohjaaLg
