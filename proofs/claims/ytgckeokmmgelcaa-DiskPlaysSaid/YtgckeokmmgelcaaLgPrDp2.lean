import Derived.Test.YtgckeokmmgelcaaLgPrDp1
import Derived.Shelf.SlMaps.Clone
import Derived.WalkKit
import Derived.Tactics
import Derived.Tactics2
import Derived.Defers
import Derived.Lib.Hide
import Derived.Below
import Derived.Recover
import Derived.Orders
import Derived.WalkSmall
import Derived.LoopN
import Derived.Deep.RegionHeld3
import Derived.Laws.IdiomStrings
import Derived.Test.YtgckeokmmgelcaaLgW
import Derived.Test.YtgckeokmmgelcaaChecked
import Derived.KernelRfl
set_option linter.all false
set_option maxRecDepth 100000
namespace Go.Proofs.YtgckeokmmgelcaaLg
noncomputable section
open Go Go.Lift

def ty3 : TyI := ⟨(Go.TypeDesc.int Go.IntKind.i64), 1, 8, (.int .i64), (0 : Int), false⟩

theorem zul : TyOk Go.Proofs.Try.prog 3 ty3 := TyOk.of (by kernel_rfl) (by kernel_rfl) (by kernel_rfl) (by kernel_rfl)

def ty4 : TyI := ⟨Go.TypeDesc.bool, 1, 1, .bool, false, false⟩

theorem zuk : TyOk Go.Proofs.Try.prog 4 ty4 := TyOk.of (by kernel_rfl) (by kernel_rfl) (by kernel_rfl) (by kernel_rfl)

def ty5 : TyI := ⟨(Go.TypeDesc.int Go.IntKind.u8), 1, 1, (.int .u8), (0 : Int), false⟩

theorem zuj : TyOk Go.Proofs.Try.prog 5 ty5 := TyOk.of (by kernel_rfl) (by kernel_rfl) (by kernel_rfl) (by kernel_rfl)

def ty9 : TyI := ⟨Go.TypeDesc.string, 1, 16, .str, ([] : List UInt8), false⟩

theorem zui : TyOk Go.Proofs.Try.prog 9 ty9 := TyOk.of (by kernel_rfl) (by kernel_rfl) (by kernel_rfl) (by kernel_rfl)

def ty20 : TyI := ⟨(Go.TypeDesc.interface (List.toArray ([] : List (String × Nat)))), 1, 16, .opq, Go.Value.nilIface, false⟩

theorem ztl : TyOk Go.Proofs.Try.prog 20 ty20 := TyOk.of (by kernel_rfl) (by kernel_rfl) (by kernel_rfl) (by kernel_rfl)

def ty22 : TyI := ⟨(Go.TypeDesc.slice 45), 1, 24, (.sl (.pair (.int .i64) (.pair (.int .i64) .unit))), ([] : List (Int × (Int × Unit))), false⟩

theorem ztk : TyOk Go.Proofs.Try.prog 22 ty22 := TyOk.of (by kernel_rfl) (by kernel_rfl) (by kernel_rfl) (by kernel_rfl)

def ty23 : TyI := ⟨(Go.TypeDesc.slice 34), 1, 24, (.sl (.pair (.int .i64) (.pair (.int .i64) (.pair .str .unit)))), ([] : List (Int × (Int × ((List UInt8) × Unit)))), false⟩

theorem ztj : TyOk Go.Proofs.Try.prog 23 ty23 := TyOk.of (by kernel_rfl) (by kernel_rfl) (by kernel_rfl) (by kernel_rfl)

def ty25 : TyI := ⟨(Go.TypeDesc.pointer 49), 1, 8, .opq, (Go.Value.pointer none), false⟩

theorem zti : TyOk Go.Proofs.Try.prog 25 ty25 := TyOk.of (by kernel_rfl) (by kernel_rfl) (by kernel_rfl) (by kernel_rfl)

def ty26 : TyI := ⟨(Go.TypeDesc.int Go.IntKind.i64), 1, 8, (.int .i64), (0 : Int), false⟩

theorem zth : TyOk Go.Proofs.Try.prog 26 ty26 := TyOk.of (by kernel_rfl) (by kernel_rfl) (by kernel_rfl) (by kernel_rfl)

def ty29 : TyI := ⟨(Go.TypeDesc.slice 9), 1, 24, (.sl .str), ([] : List (List UInt8)), false⟩

theorem ztg : TyOk Go.Proofs.Try.prog 29 ty29 := TyOk.of (by kernel_rfl) (by kernel_rfl) (by kernel_rfl) (by kernel_rfl)

def ty31 : TyI := ⟨(Go.TypeDesc.struct (List.toArray ([(Go.Field.mk "Blocks" 29 0 false "" "" 0), (Go.Field.mk "Crashes" 22 1 false "" "" 24), (Go.Field.mk "Writes" 3 2 false "" "" 48), (Go.Field.mk "Down" 4 3 false "" "" 56)] : List Go.Field))), 4, 64, (.pair (.sl .str) (.pair (.sl (.pair (.int .i64) (.pair (.int .i64) .unit))) (.pair (.int .i64) (.pair .bool .unit)))), (([] : List (List UInt8)), ([] : List (Int × (Int × Unit))), (0 : Int), false, ()), true⟩

theorem ztf : TyOk Go.Proofs.Try.prog 31 ty31 := TyOk.of (by kernel_rfl) (by kernel_rfl) (by kernel_rfl) (by kernel_rfl)

def ty34 : TyI := ⟨(Go.TypeDesc.struct (List.toArray ([(Go.Field.mk "Kind" 3 0 false "" "" 0), (Go.Field.mk "At" 3 1 false "" "" 8), (Go.Field.mk "Text" 9 2 false "" "" 16)] : List Go.Field))), 3, 32, (.pair (.int .i64) (.pair (.int .i64) (.pair .str .unit))), ((0 : Int), (0 : Int), ([] : List UInt8), ()), true⟩

theorem zte : TyOk Go.Proofs.Try.prog 34 ty34 := TyOk.of (by kernel_rfl) (by kernel_rfl) (by kernel_rfl) (by kernel_rfl)

def ty45 : TyI := ⟨(Go.TypeDesc.struct (List.toArray ([(Go.Field.mk "At" 3 0 false "" "" 0), (Go.Field.mk "Keep" 3 1 false "" "" 8)] : List Go.Field))), 2, 16, (.pair (.int .i64) (.pair (.int .i64) .unit)), ((0 : Int), (0 : Int), ()), true⟩

theorem ztd : TyOk Go.Proofs.Try.prog 45 ty45 := TyOk.of (by kernel_rfl) (by kernel_rfl) (by kernel_rfl) (by kernel_rfl)

def ty46 : TyI := ⟨(Go.TypeDesc.slice 54), 1, 24, (.sl (.arr 128 (.int .u8))), ([] : List (List Int)), false⟩

theorem ztc : TyOk Go.Proofs.Try.prog 46 ty46 := TyOk.of (by kernel_rfl) (by kernel_rfl) (by kernel_rfl) (by kernel_rfl)

def ty47 : TyI := ⟨(Go.TypeDesc.map 3 3), 1, 8, .opq, (Go.Value.map none), false⟩

theorem ztb : TyOk Go.Proofs.Try.prog 47 ty47 := TyOk.of (by kernel_rfl) (by kernel_rfl) (by kernel_rfl) (by kernel_rfl)

def ty49 : TyI := ⟨(Go.TypeDesc.struct (List.toArray ([(Go.Field.mk "blocks" 46 0 false "" "porter/disk" 0), (Go.Field.mk "crashes" 47 1 false "" "porter/disk" 24), (Go.Field.mk "down" 4 2 false "" "porter/disk" 32), (Go.Field.mk "writes" 3 3 false "" "porter/disk" 40)] : List Go.Field))), 4, 48, (.pair (.sl (.arr 128 (.int .u8))) (.pair .opq (.pair .bool (.pair (.int .i64) .unit)))), (([] : List (List Int)), (Go.Value.map none), false, (0 : Int), ()), true⟩

theorem zta : TyOk Go.Proofs.Try.prog 49 ty49 := TyOk.of (by kernel_rfl) (by kernel_rfl) (by kernel_rfl) (by kernel_rfl)

def ty51 : TyI := ⟨(Go.TypeDesc.slice 5), 1, 24, (.sl (.int .u8)), ([] : List Int), false⟩

theorem zt9 : TyOk Go.Proofs.Try.prog 51 ty51 := TyOk.of (by kernel_rfl) (by kernel_rfl) (by kernel_rfl) (by kernel_rfl)

def ty54 : TyI := ⟨(Go.TypeDesc.array 128 5), 128, 128, (.arr 128 (.int .u8)), ((0 : Int) :: (0 : Int) :: (0 : Int) :: (0 : Int) :: (0 : Int) :: (0 : Int) :: (0 : Int) :: (0 : Int) :: (0 : Int) :: (0 : Int) :: (0 : Int) :: (0 : Int) :: (0 : Int) :: (0 : Int) :: (0 : Int) :: (0 : Int) :: (0 : Int) :: (0 : Int) :: (0 : Int) :: (0 : Int) :: (0 : Int) :: (0 : Int) :: (0 : Int) :: (0 : Int) :: (0 : Int) :: (0 : Int) :: (0 : Int) :: (0 : Int) :: (0 : Int) :: (0 : Int) :: (0 : Int) :: (0 : Int) :: (0 : Int) :: (0 : Int) :: (0 : Int) :: (0 : Int) :: (0 : Int) :: (0 : Int) :: (0 : Int) :: (0 : Int) :: (0 : Int) :: (0 : Int) :: (0 : Int) :: (0 : Int) :: (0 : Int) :: (0 : Int) :: (0 : Int) :: (0 : Int) :: (0 : Int) :: (0 : Int) :: (0 : Int) :: (0 : Int) :: (0 : Int) :: (0 : Int) :: (0 : Int) :: (0 : Int) :: (0 : Int) :: (0 : Int) :: (0 : Int) :: (0 : Int) :: (0 : Int) :: (0 : Int) :: (0 : Int) :: (0 : Int) :: (0 : Int) :: (0 : Int) :: (0 : Int) :: (0 : Int) :: (0 : Int) :: (0 : Int) :: (0 : Int) :: (0 : Int) :: (0 : Int) :: (0 : Int) :: (0 : Int) :: (0 : Int) :: (0 : Int) :: (0 : Int) :: (0 : Int) :: (0 : Int) :: (0 : Int) :: (0 : Int) :: (0 : Int) :: (0 : Int) :: (0 : Int) :: (0 : Int) :: (0 : Int) :: (0 : Int) :: (0 : Int) :: (0 : Int) :: (0 : Int) :: (0 : Int) :: (0 : Int) :: (0 : Int) :: (0 : Int) :: (0 : Int) :: (0 : Int) :: (0 : Int) :: (0 : Int) :: (0 : Int) :: (0 : Int) :: (0 : Int) :: (0 : Int) :: (0 : Int) :: (0 : Int) :: (0 : Int) :: (0 : Int) :: (0 : Int) :: (0 : Int) :: (0 : Int) :: (0 : Int) :: (0 : Int) :: (0 : Int) :: (0 : Int) :: (0 : Int) :: (0 : Int) :: (0 : Int) :: (0 : Int) :: (0 : Int) :: (0 : Int) :: (0 : Int) :: (0 : Int) :: (0 : Int) :: (0 : Int) :: (0 : Int) :: (0 : Int) :: (0 : Int) :: (0 : Int) :: ([] : List Int)), true⟩

theorem zp8 : TyOk Go.Proofs.Try.prog 54 ty54 := TyOk.of (by kernel_rfl) (by kernel_rfl) (by kernel_rfl) (by kernel_rfl)

def tys : List (Nat × TyI) := [(3, ty3), (4, ty4), (5, ty5), (9, ty9), (20, ty20), (22, ty22), (23, ty23), (25, ty25), (26, ty26), (29, ty29), (31, ty31), (34, ty34), (45, ty45), (46, ty46), (47, ty47), (49, ty49), (51, ty51), (54, ty54)]

theorem z3w : TysOk Go.Proofs.Try.prog tys := TysOk.cons zul (TysOk.cons zuk (TysOk.cons zuj (TysOk.cons zui (TysOk.cons ztl (TysOk.cons ztk (TysOk.cons ztj (TysOk.cons zti (TysOk.cons zth (TysOk.cons ztg (TysOk.cons ztf (TysOk.cons zte (TysOk.cons ztd (TysOk.cons ztc (TysOk.cons ztb (TysOk.cons zta (TysOk.cons zt9 (TysOk.cons zp8 (TysOk.nil))))))))))))))))))

theorem mixed : Go.Proofs.Try.prog.follows .mixedOrders = true := by kernel_rfl

def z2y : Code := (Go.Proofs.Try.f6.body).getD .skip

def za9 : List (List Nat × List Nat) := [([0], [0, 1]), ([0, 0, 1], [16, 0, 1]), ([1, 0, 1], [0, 1]), ([0, 0, 1, 0, 1], [4, 5]), ([1, 0, 1, 0, 1], [4, 5]), ([0, 1, 1], [1, 6]), ([0, 0, 1, 1, 1], [24, 23, 22, 6]), ([0, 1, 0, 1, 1, 1], [24, 23, 22, 6]), ([0, 0, 0, 1, 0, 1, 1, 1], [25, 22, 24, 6, 23]), ([0, 1, 0, 0, 1, 0, 1, 1, 1], [22, 24, 6, 23]), ([1, 0, 1, 0, 0, 1, 0, 1, 1, 1], [6]), ([0, 0, 0, 1, 1, 0, 0, 1, 0, 1, 1, 1], [6, 8, 24, 23, 22]), ([0, 1, 0, 0, 1, 1, 0, 0, 1, 0, 1, 1, 1], [10, 6, 8, 24, 23, 22]), ([0, 1, 1, 0, 0, 1, 1, 0, 0, 1, 0, 1, 1, 1], [39, 6, 8, 24, 23, 22]), ([1, 1, 1, 0, 0, 1, 1, 0, 0, 1, 0, 1, 1, 1], [24, 23, 22, 6]), ([0, 1, 1, 1, 0, 0, 1, 1, 0, 0, 1, 0, 1, 1, 1], [24, 23, 22, 6]), ([0, 1, 1, 0, 0, 1, 0, 1, 1, 1], [24, 23, 22, 6]), ([1, 1, 1, 0, 0, 1, 0, 1, 1, 1], [24, 23, 22, 6]), ([1, 0, 1, 1, 1], [6]), ([0, 1, 1, 1, 1], [4, 5]), ([1, 1, 1, 1, 1], [4, 5])]

def z7p (N : Nat) : Env := z7x tys zq [] [] [] [] false [(4, (.pair (.own (.arr 128 (.int .u8))) (.pair (.mp (.int .i64) (.int .i64)) (.pair .bool (.pair (.int .i64) .unit))))), (20, (.pair (.own (.arr 128 (.int .u8))) (.pair (.mp (.int .i64) (.int .i64)) (.pair .bool (.pair (.int .i64) .unit))))), (21, (.pair (.own (.arr 128 (.int .u8))) (.pair (.mp (.int .i64) (.int .i64)) (.pair .bool (.pair (.int .i64) .unit)))))] [] [(.nb (.pair (.own (.arr 128 (.int .u8))) (.pair (.mp (.int .i64) (.int .i64)) (.pair .bool (.pair (.int .i64) .unit))))), (.int .i64)]

theorem zlj (N : Nat) : EnvOk Go.Proofs.Try.prog (z7p N) := z1i mixed z3w (FnsOk.nil) (ItsOk.nil)

def zel (N : Nat) (blocks : Int) (crashes : (List (Int × (Int × Unit)))) (k0 : Bool -> Option ((Option ((List (List Int)) × ((Option (List (Int × Int))) × (Bool × (Int × Unit))))) × Int × Unit)) : Option ((Option ((List (List Int)) × ((Option (List (Int × Int))) × (Bool × (Int × Unit))))) × Int × Unit) :=
 cond (decide (blocks < (1 : Int)))
 (k0 true)
 (k0 (decide ((4096 : Int) < blocks)))

def zia (N : Nat) (x : z31 [(0, .v (.int .i64)), (0, .v (.sl (.pair (.int .i64) (.pair (.int .i64) .unit))))]) (K : Ex -> List A -> Option ((Option ((List (List Int)) × ((Option (List (Int × Int))) × (Bool × (Int × Unit))))) × Int × Unit)) : Option ((Option ((List (List Int)) × ((Option (List (Int × Int))) × (Bool × (Int × Unit))))) × Int × Unit) :=
 zel N x.1 x.2.1 (fun a2 => (K .normal (mkS [(0, .v (.int .i64)), (0, .v (.sl (.pair (.int .i64) (.pair (.int .i64) .unit)))), (14, .v .bool)] 35 (x.1, x.2.1, a2, ()))))

def zi7 (N : Nat) : Hd ((Option ((List (List Int)) × ((Option (List (Int × Int))) × (Bool × (Int × Unit))))) × Int × Unit) := fun st K => (unS [(0, .v (.int .i64)), (0, .v (.sl (.pair (.int .i64) (.pair (.int .i64) .unit))))] 50 (restr [0, 1] 0 st)).bind fun x => zia N x K

def zmi (N : Nat) : Tab ((Option ((List (List Int)) × ((Option (List (Int × Int))) × (Bool × (Int × Unit))))) × Int × Unit) := []

theorem zlh {N : Nat} {c : Ctx} (hb : Base Go.Proofs.Try.prog (z7p N) c) : z15 Go.Proofs.Try.prog c (zl z2y [0, 0, 1]) (zi7 N) :=
  z1h (s := [(0, .v (.int .i64)), (0, .v (.sl (.pair (.int .i64) (.pair (.int .i64) .unit))))]) (m := 50) (g := zia N) [0, 1] (zn hb N (zmi N) za9 z2y TabOk.nil [0, 0, 1] _ rfl) (fun x K => by kernel_rfl)

def zem (N : Nat) (blocks : Int) (crashes : (List (Int × (Int × Unit)))) (k0 : Int -> Option ((Option ((List (List Int)) × ((Option (List (Int × Int))) × (Bool × (Int × Unit))))) × Int × Unit)) (k1 : Option ((Option ((List (List Int)) × ((Option (List (Int × Int))) × (Bool × (Int × Unit))))) × Int × Unit)) : Option ((Option ((List (List Int)) × ((Option (List (Int × Int))) × (Bool × (Int × Unit))))) × Int × Unit) :=
 zel N blocks crashes
 (fun x16 => cond x16
 (k0 (7 : Int))
 (k1))

def zib (N : Nat) (x : z31 [(0, .v (.int .i64)), (0, .v (.sl (.pair (.int .i64) (.pair (.int .i64) .unit))))]) (K : Ex -> List A -> Option ((Option ((List (List Int)) × ((Option (List (Int × Int))) × (Bool × (Int × Unit))))) × Int × Unit)) : Option ((Option ((List (List Int)) × ((Option (List (Int × Int))) × (Bool × (Int × Unit))))) × Int × Unit) :=
 zem N x.1 x.2.1 (fun a0 => (K .ret (mkS [(4, .nilp), (0, .v (.int .i64))] 46 ((), a0, ())))) (K .normal (mkS [(0, .v (.int .i64)), (0, .v (.sl (.pair (.int .i64) (.pair (.int .i64) .unit))))] 50 (x.1, x.2.1, ())))

def zi8 (N : Nat) : Hd ((Option ((List (List Int)) × ((Option (List (Int × Int))) × (Bool × (Int × Unit))))) × Int × Unit) := fun st K => (unS [(0, .v (.int .i64)), (0, .v (.sl (.pair (.int .i64) (.pair (.int .i64) .unit))))] 50 (restr [0, 1] 0 st)).bind fun x => zib N x K

def zmj (N : Nat) : Tab ((Option ((List (List Int)) × ((Option (List (Int × Int))) × (Bool × (Int × Unit))))) × Int × Unit) := [([0, 0, 1], zi7 N)]

theorem zli {N : Nat} {c : Ctx} (hb : Base Go.Proofs.Try.prog (z7p N) c) : z15 Go.Proofs.Try.prog c (zl z2y [0, 1]) (zi8 N) :=
  z1h (s := [(0, .v (.int .i64)), (0, .v (.sl (.pair (.int .i64) (.pair (.int .i64) .unit))))]) (m := 50) (g := zib N) [0, 1] (zn hb N (zmj N) za9 z2y (TabOk.cons (zlh hb) TabOk.nil) [0, 1] _ rfl) (fun x K => by kernel_rfl)

def zej (N : Nat) (x22 : (List (Int × (Int × Unit)))) (x23 : Int) (d : ((List (List Int)) × ((Option (List (Int × Int))) × (Bool × (Int × Unit))))) (x24 : Int) (rec : ((List (List Int)) × ((Option (List (Int × Int))) × (Bool × (Int × Unit)))) -> Int -> Option ((Option ((List (List Int)) × ((Option (List (Int × Int))) × (Bool × (Int × Unit))))) × Int × Unit)) (k0 : ((List (List Int)) × ((Option (List (Int × Int))) × (Bool × (Int × Unit)))) -> Option ((Option ((List (List Int)) × ((Option (List (Int × Int))) × (Bool × (Int × Unit))))) × Int × Unit)) : Option ((Option ((List (List Int)) × ((Option (List (Int × Int))) × (Bool × (Int × Unit))))) × Int × Unit) :=
 cond (decide (x24 < x23))
 (cond (Go.Lift.inR x24 (List.length x22))
 (cond (!(Option.isSome (Go.Lift.lookM (Go.Lift.eqD (Go.Lift.T.int Go.IntKind.i64)) (List.getD x22 (Int.toNat x24) ((0 : Int), ((0 : Int), ()))).1 (Option.getD d.2.1 ([] : List (Int × Int))))))
 (cond (Option.isSome d.2.1)
 (rec (d.1, ((Option.some (Go.Lift.setM (Go.Lift.eqD (Go.Lift.T.int Go.IntKind.i64)) (List.getD x22 (Int.toNat x24) ((0 : Int), ((0 : Int), ()))).1 (if ((128 : Int) < (if ((0 : Int) > (List.getD x22 (Int.toNat x24) ((0 : Int), ((0 : Int), ()))).2.1) then (0 : Int) else (List.getD x22 (Int.toNat x24) ((0 : Int), ((0 : Int), ()))).2.1)) then (128 : Int) else (if ((0 : Int) > (List.getD x22 (Int.toNat x24) ((0 : Int), ((0 : Int), ()))).2.1) then (0 : Int) else (List.getD x22 (Int.toNat x24) ((0 : Int), ((0 : Int), ()))).2.1)) (Option.getD d.2.1 ([] : List (Int × Int))))), d.2.2)) (Go.IntKind.wrap Go.IntKind.i64 (x24 + (1 : Int))))
 (none))
 (rec d (Go.IntKind.wrap Go.IntKind.i64 (x24 + (1 : Int)))))
 (none))
 (k0 d)

def zek (N : Nat) (d : ((List (List Int)) × ((Option (List (Int × Int))) × (Bool × (Int × Unit))))) (x22 : (List (Int × (Int × Unit)))) (x23 : Int) (x24 : Int) (k0 : ((List (List Int)) × ((Option (List (Int × Int))) × (Bool × (Int × Unit)))) -> Option ((Option ((List (List Int)) × ((Option (List (Int × Int))) × (Bool × (Int × Unit))))) × Int × Unit)) : Option ((Option ((List (List Int)) × ((Option (List (Int × Int))) × (Bool × (Int × Unit))))) × Int × Unit) :=
 iter (fun (v : (((List (List Int)) × ((Option (List (Int × Int))) × (Bool × (Int × Unit)))) × Int)) r => zej N x22 x23 v.1 v.2 (fun d x24 => (r (d, x24))) k0) N (d, x24)

def zi9 (N : Nat) (i : ((List (Int × (Int × Unit))) × Int)) (v : (((List (List Int)) × ((Option (List (Int × Int))) × (Bool × (Int × Unit)))) × Int)) (r : (((List (List Int)) × ((Option (List (Int × Int))) × (Bool × (Int × Unit)))) × Int) -> Option ((Option ((List (List Int)) × ((Option (List (Int × Int))) × (Bool × (Int × Unit))))) × Int × Unit)) (K : Ex -> List A -> Option ((Option ((List (List Int)) × ((Option (List (Int × Int))) × (Bool × (Int × Unit))))) × Int × Unit)) : Option ((Option ((List (List Int)) × ((Option (List (Int × Int))) × (Bool × (Int × Unit))))) × Int × Unit) :=
 zej N i.1 i.2 v.1 v.2 (fun d x24 => (r (d, x24))) (fun a0 => (K (.exit 0) (mkS [(6, .box (.pair (.own (.arr 128 (.int .u8))) (.pair (.mp (.int .i64) (.int .i64)) (.pair .bool (.pair (.int .i64) .unit)))))] 45 (a0, ()))))

def zi6 (N : Nat) : Hd ((Option ((List (List Int)) × ((Option (List (Int × Int))) × (Bool × (Int × Unit))))) × Int × Unit) := fun st K => (unS [(6, .box (.pair (.own (.arr 128 (.int .u8))) (.pair (.mp (.int .i64) (.int .i64)) (.pair .bool (.pair (.int .i64) .unit))))), (15, .v (.sl (.pair (.int .i64) (.pair (.int .i64) .unit)))), (0, .v (.int .i64)), (0, .v (.int .i64))] 27 (restr [24, 23, 22, 6] 0 st)).bind fun x => iter (fun v r => zi9 N ((fun x => (x.2.1, x.2.2.1)) x) v r K) N ((fun x => (x.1, x.2.2.2.1)) x)

def zmh (N : Nat) : Tab ((Option ((List (List Int)) × ((Option (List (Int × Int))) × (Bool × (Int × Unit))))) × Int × Unit) := []

theorem zlg {N : Nat} {c : Ctx} (hb : Base Go.Proofs.Try.prog (z7p N) c) : z15 Go.Proofs.Try.prog c (zl z2y [0, 1, 0, 1, 1, 1]) (zi6 N) :=
  zg7 (s := [(6, .box (.pair (.own (.arr 128 (.int .u8))) (.pair (.mp (.int .i64) (.int .i64)) (.pair .bool (.pair (.int .i64) .unit))))), (15, .v (.sl (.pair (.int .i64) (.pair (.int .i64) .unit)))), (0, .v (.int .i64)), (0, .v (.int .i64))]) (m := 27) (zi9 N) [24, 23, 22, 6] N (fun x => (x.2.1, x.2.2.1)) (fun x => (x.1, x.2.2.2.1)) (fun i v => (v.1, i.1, i.2, v.2, ())) (fun _ => rfl) (zn hb N (zmh N) za9 z2y TabOk.nil [0, 0, 1, 0, 1, 1, 1] _ rfl) (fun i v r K => by kernel_rfl)

def z8l (N : Nat) (blocks : Int) (crashes : (List (Int × (Int × Unit)))) : Option ((Option ((List (List Int)) × ((Option (List (Int × Int))) × (Bool × (Int × Unit))))) × Int × Unit) :=
 zem N blocks crashes
 (fun x5 => some ((Option.none), (x5, ())))
 (cond (decide (((0 : Int) <= blocks) /\ ((blocks <= blocks) /\ (((blocks * (128 : Int)) <= (281474976710656 : Int)) /\ (blocks <= (9223372036854775807 : Int))))))
 (zek N ((List.replicate (Int.toNat blocks) ((0 : Int) :: (0 : Int) :: (0 : Int) :: (0 : Int) :: (0 : Int) :: (0 : Int) :: (0 : Int) :: (0 : Int) :: (0 : Int) :: (0 : Int) :: (0 : Int) :: (0 : Int) :: (0 : Int) :: (0 : Int) :: (0 : Int) :: (0 : Int) :: (0 : Int) :: (0 : Int) :: (0 : Int) :: (0 : Int) :: (0 : Int) :: (0 : Int) :: (0 : Int) :: (0 : Int) :: (0 : Int) :: (0 : Int) :: (0 : Int) :: (0 : Int) :: (0 : Int) :: (0 : Int) :: (0 : Int) :: (0 : Int) :: (0 : Int) :: (0 : Int) :: (0 : Int) :: (0 : Int) :: (0 : Int) :: (0 : Int) :: (0 : Int) :: (0 : Int) :: (0 : Int) :: (0 : Int) :: (0 : Int) :: (0 : Int) :: (0 : Int) :: (0 : Int) :: (0 : Int) :: (0 : Int) :: (0 : Int) :: (0 : Int) :: (0 : Int) :: (0 : Int) :: (0 : Int) :: (0 : Int) :: (0 : Int) :: (0 : Int) :: (0 : Int) :: (0 : Int) :: (0 : Int) :: (0 : Int) :: (0 : Int) :: (0 : Int) :: (0 : Int) :: (0 : Int) :: (0 : Int) :: (0 : Int) :: (0 : Int) :: (0 : Int) :: (0 : Int) :: (0 : Int) :: (0 : Int) :: (0 : Int) :: (0 : Int) :: (0 : Int) :: (0 : Int) :: (0 : Int) :: (0 : Int) :: (0 : Int) :: (0 : Int) :: (0 : Int) :: (0 : Int) :: (0 : Int) :: (0 : Int) :: (0 : Int) :: (0 : Int) :: (0 : Int) :: (0 : Int) :: (0 : Int) :: (0 : Int) :: (0 : Int) :: (0 : Int) :: (0 : Int) :: (0 : Int) :: (0 : Int) :: (0 : Int) :: (0 : Int) :: (0 : Int) :: (0 : Int) :: (0 : Int) :: (0 : Int) :: (0 : Int) :: (0 : Int) :: (0 : Int) :: (0 : Int) :: (0 : Int) :: (0 : Int) :: (0 : Int) :: (0 : Int) :: (0 : Int) :: (0 : Int) :: (0 : Int) :: (0 : Int) :: (0 : Int) :: (0 : Int) :: (0 : Int) :: (0 : Int) :: (0 : Int) :: (0 : Int) :: (0 : Int) :: (0 : Int) :: (0 : Int) :: (0 : Int) :: (0 : Int) :: (0 : Int) :: (0 : Int) :: (0 : Int) :: (0 : Int) :: (0 : Int) :: ([] : List Int))), ((Option.some ([] : List (Int × Int))), (false, ((0 : Int), ())))) crashes (((List.length crashes) : Nat) : Int) (0 : Int)
 (fun d => some ((Option.some d), ((0 : Int), ()))))
 (none))

def zji (N : Nat) : Tab ((Option ((List (List Int)) × ((Option (List (Int × Int))) × (Bool × (Int × Unit))))) × Int × Unit) := [([0, 1], zi8 N), ([0, 1, 0, 1, 1, 1], zi6 N)]

theorem zk8 (N : Nat) (x : z31 [(0, .v (.int .i64)), (0, .v (.sl (.pair (.int .i64) (.pair (.int .i64) .unit))))]) : zfw (z7p N) N (zji N) za9 Go.Proofs.Try.f6 (mkS [(0, .v (.int .i64)), (0, .v (.sl (.pair (.int .i64) (.pair (.int .i64) .unit))))] 0 x) (ze6 (.otup [(.nb (.pair (.own (.arr 128 (.int .u8))) (.pair (.mp (.int .i64) (.int .i64)) (.pair .bool (.pair (.int .i64) .unit))))), (.int .i64)]) 2) = z8l N x.1 x.2.1 := by kernel_rfl

def zd4 (N : Nat) : List A -> Res := z2u [(0, .v (.int .i64)), (0, .v (.sl (.pair (.int .i64) (.pair (.int .i64) .unit))))] (fun x => z8l N x.1 x.2.1) (zf0 (.otup [(.nb (.pair (.own (.arr 128 (.int .u8))) (.pair (.mp (.int .i64) (.int .i64)) (.pair .bool (.pair (.int .i64) .unit))))), (.int .i64)]) 2)

theorem zic (N : Nat) : Contract Go.Proofs.Try.prog zq 6 (zd4 N) :=
  Contract.of (E := z7p N) (H := zji N) (L := za9) (N := N) (body := z2y) (K := (ze6 (.otup [(.nb (.pair (.own (.arr 128 (.int .u8))) (.pair (.mp (.int .i64) (.int .i64)) (.pair .bool (.pair (.int .i64) .unit))))), (.int .i64)]) 2)) (zlj N) Go.Proofs.Try.func6 (by kernel_rfl) (by decide) (fun _ hb => (TabOk.cons (zli hb) (TabOk.cons (zlg hb) TabOk.nil))) (fun x y h => by rw [zk8]; exact h) (z4t (s := (.otup [(.nb (.pair (.own (.arr 128 (.int .u8))) (.pair (.mp (.int .i64) (.int .i64)) (.pair .bool (.pair (.int .i64) .unit))))), (.int .i64)])) (m := 2))

def zdc : Code := (Go.Proofs.Try.f17.body).getD .skip

def z8u : List (List Nat × List Nat) := [([0], [0]), ([0, 0, 1], [4, 0]), ([1, 0, 1], [0]), ([0, 0, 1, 0, 1], [2, 0]), ([1, 0, 1, 0, 1], [2, 0]), ([0, 1, 1], [2, 0]), ([1, 1, 1], [2, 0])]

def z5w (N : Nat) : Env := z7x tys zq [] [] [] [0] false [] []

theorem ze1 (N : Nat) : EnvOk Go.Proofs.Try.prog (z5w N) := z1i mixed z3w (FnsOk.nil) (ItsOk.nil)

def zby (N : Nat) (d : ((List (List Int)) × ((Option (List (Int × Int))) × (Bool × (Int × Unit))))) : Option (Int × (((List (List Int)) × ((Option (List (Int × Int))) × (Bool × (Int × Unit)))) × Unit)) :=
 some ((((List.length d.1) : Nat) : Int), (d, ()))

def z8t (N : Nat) : Tab (Int × (((List (List Int)) × ((Option (List (Int × Int))) × (Bool × (Int × Unit)))) × Unit)) := []

theorem zdb (N : Nat) (x : z31 [(0, .box (.pair (.own (.arr 128 (.int .u8))) (.pair (.mp (.int .i64) (.int .i64)) (.pair .bool (.pair (.int .i64) .unit)))))]) : zfw (z5w N) N (z8t N) z8u Go.Proofs.Try.f17 (mkS [(0, .box (.pair (.own (.arr 128 (.int .u8))) (.pair (.mp (.int .i64) (.int .i64)) (.pair .bool (.pair (.int .i64) .unit)))))] 0 x) (zdu (.v (.int .i64)) [(0, .box (.pair (.own (.arr 128 (.int .u8))) (.pair (.mp (.int .i64) (.int .i64)) (.pair .bool (.pair (.int .i64) .unit)))))] 0) = zby N x.1 := by kernel_rfl

def z7l (N : Nat) : List A -> Res := z2u [(0, .box (.pair (.own (.arr 128 (.int .u8))) (.pair (.mp (.int .i64) (.int .i64)) (.pair .bool (.pair (.int .i64) .unit)))))] (fun x => zby N x.1) (zjx (.v (.int .i64)) [(0, .box (.pair (.own (.arr 128 (.int .u8))) (.pair (.mp (.int .i64) (.int .i64)) (.pair .bool (.pair (.int .i64) .unit)))))] 0)

theorem zex (N : Nat) : Contract Go.Proofs.Try.prog zq 17 (z7l N) :=
  Contract.of (E := z5w N) (H := z8t N) (L := z8u) (N := N) (body := zdc) (K := (zdu (.v (.int .i64)) [(0, .box (.pair (.own (.arr 128 (.int .u8))) (.pair (.mp (.int .i64) (.int .i64)) (.pair .bool (.pair (.int .i64) .unit)))))] 0)) (ze1 N) Go.Proofs.Try.func17 (by kernel_rfl) (by decide) (fun _ hb => TabOk.nil) (fun x y h => by rw [zdb]; exact h) (zb9 (s := (.v (.int .i64))) (os := [(0, .box (.pair (.own (.arr 128 (.int .u8))) (.pair (.mp (.int .i64) (.int .i64)) (.pair .bool (.pair (.int .i64) .unit)))))]) (m := 0))

def z9i : Code := (Go.Proofs.Try.f17.body).getD .skip

def z6c : List (List Nat × List Nat) := [([0], [0]), ([0, 0, 1], [4, 0]), ([1, 0, 1], [0]), ([0, 0, 1, 0, 1], [2]), ([1, 0, 1, 0, 1], [2]), ([0, 1, 1], [2]), ([1, 1, 1], [2])]

def z3e (N : Nat) : Env := z7x tys zq [] [] [] [] false [] []

theorem zaq (N : Nat) : EnvOk Go.Proofs.Try.prog (z3e N) := z1i mixed z3w (FnsOk.nil) (ItsOk.nil)

def z46 (N : Nat) : Option Int :=
 some (0 : Int)

def z6b (N : Nat) : Tab Int := []

theorem z9h (N : Nat) (x : z31 [(0, .nilp)]) : zfw (z3e N) N (z6b N) z6c Go.Proofs.Try.f17 (mkS [(0, .nilp)] 0 x) (ze6 (.v (.int .i64)) 1) = z46 N := by kernel_rfl

def zap (N : Nat) : List A -> Res := z2u [(0, .nilp)] (fun x => z46 N) (zf0 (.v (.int .i64)) 1)

theorem zbq (N : Nat) : Contract Go.Proofs.Try.prog zq 17 (zap N) :=
  Contract.of (E := z3e N) (H := z6b N) (L := z6c) (N := N) (body := z9i) (K := (ze6 (.v (.int .i64)) 1)) (zaq N) Go.Proofs.Try.func17 (by kernel_rfl) (by decide) (fun _ hb => TabOk.nil) (fun x y h => by rw [z9h]; exact h) (z4t (s := (.v (.int .i64))) (m := 1))

def z1y (N : Nat) : List A -> Res := ze4 [(0, .nilp)] (fun x => z46 N) (zf0 (.v (.int .i64)) 1) (z7l N)

theorem z28 (N : Nat) : Contract Go.Proofs.Try.prog zq 17 (z1y N) := Contract.alt (zbq N) (zex N)

def z41 : Code := (Go.Proofs.Try.f18.body).getD .skip

def z6j : List (List Nat × List Nat) := [([0], [0, 1]), ([0, 0, 0, 1], [5, 0, 1]), ([1, 0, 0, 1], [0]), ([0, 1, 1, 0, 0, 1], [9, 0, 1]), ([1, 1, 1, 0, 0, 1], [0]), ([0, 1, 1, 1, 1, 0, 0, 1], [14, 0]), ([1, 1, 1, 1, 1, 0, 0, 1], [0]), ([0, 0, 1, 1, 1, 1, 1, 0, 0, 1], [4, 0]), ([1, 0, 1, 1, 1, 1, 1, 0, 0, 1], [4, 0]), ([0, 0, 1, 1, 1, 0, 0, 1], [4, 0]), ([1, 0, 1, 1, 1, 0, 0, 1], [4, 0]), ([0, 0, 1, 0, 0, 1], [4, 0]), ([1, 0, 1, 0, 0, 1], [4, 0]), ([0, 1], [0]), ([0, 1, 1], [4, 0]), ([1, 1, 1], [4, 0])]

def z3u (N : Nat) : Env := z7x tys zq [(17, z1y N)] [] [] [0] false [] []

theorem zeo (N : Nat) : EnvOk Go.Proofs.Try.prog (z3u N) := z1i mixed z3w (FnsOk.cons (z28 N) (FnsOk.nil)) (ItsOk.nil)

def z5r (N : Nat) (d : ((List (List Int)) × ((Option (List (Int × Int))) × (Bool × (Int × Unit))))) (at_ : Int) (k0 : Bool -> Option (Int × (((List (List Int)) × ((Option (List (Int × Int))) × (Bool × (Int × Unit)))) × Unit))) : Option (Int × (((List (List Int)) × ((Option (List (Int × Int))) × (Bool × (Int × Unit)))) × Unit)) :=
 cond (decide (at_ < (0 : Int)))
 (k0 true)
 (k0 (decide ((((List.length d.1) : Nat) : Int) <= at_)))

def z8n (N : Nat) (x : z31 [(0, .box (.pair (.own (.arr 128 (.int .u8))) (.pair (.mp (.int .i64) (.int .i64)) (.pair .bool (.pair (.int .i64) .unit))))), (0, .v (.int .i64))]) (K : Ex -> List A -> Option (Int × (((List (List Int)) × ((Option (List (Int × Int))) × (Bool × (Int × Unit)))) × Unit))) : Option (Int × (((List (List Int)) × ((Option (List (Int × Int))) × (Bool × (Int × Unit)))) × Unit)) :=
 z5r N x.1 x.2.1 (fun a1 => (K .normal (mkS [(0, .box (.pair (.own (.arr 128 (.int .u8))) (.pair (.mp (.int .i64) (.int .i64)) (.pair .bool (.pair (.int .i64) .unit))))), (13, .v .bool)] 11 (x.1, a1, ()))))

def z8m (N : Nat) : Hd (Int × (((List (List Int)) × ((Option (List (Int × Int))) × (Bool × (Int × Unit)))) × Unit)) := fun st K => (unS [(0, .box (.pair (.own (.arr 128 (.int .u8))) (.pair (.mp (.int .i64) (.int .i64)) (.pair .bool (.pair (.int .i64) .unit))))), (0, .v (.int .i64))] 24 (restr [1, 0] 0 st)).bind fun x => z8n N x K

def zfj (N : Nat) : Tab (Int × (((List (List Int)) × ((Option (List (Int × Int))) × (Bool × (Int × Unit)))) × Unit)) := []

theorem zen {N : Nat} {c : Ctx} (hb : Base Go.Proofs.Try.prog (z3u N) c) : z15 Go.Proofs.Try.prog c (zl z41 [0, 1, 1, 1, 1, 0, 0, 1]) (z8m N) :=
  z1h (s := [(0, .box (.pair (.own (.arr 128 (.int .u8))) (.pair (.mp (.int .i64) (.int .i64)) (.pair .bool (.pair (.int .i64) .unit))))), (0, .v (.int .i64))]) (m := 24) (g := z8n N) [1, 0] (zn hb N (zfj N) z6j z41 TabOk.nil [0, 1, 1, 1, 1, 0, 0, 1] _ rfl) (fun x K => by kernel_rfl)

def z2n (N : Nat) (d : ((List (List Int)) × ((Option (List (Int × Int))) × (Bool × (Int × Unit))))) (at_ : Int) : Option (Int × (((List (List Int)) × ((Option (List (Int × Int))) × (Bool × (Int × Unit)))) × Unit)) :=
 cond ((((List.length d.1) : Nat) : Int) == (0 : Int))
 (some ((21 : Int), (d, ())))
 (cond d.2.2.1
 (some ((20 : Int), (d, ())))
 (z5r N d at_
 (fun x14 => cond x14
 (some ((7 : Int), (d, ())))
 (some ((0 : Int), (d, ()))))))

def zaa (N : Nat) : Tab (Int × (((List (List Int)) × ((Option (List (Int × Int))) × (Bool × (Int × Unit)))) × Unit)) := [([0, 1, 1, 1, 1, 0, 0, 1], z8m N)]

theorem zdv (N : Nat) (x : z31 [(0, .box (.pair (.own (.arr 128 (.int .u8))) (.pair (.mp (.int .i64) (.int .i64)) (.pair .bool (.pair (.int .i64) .unit))))), (0, .v (.int .i64))]) : zfw (z3u N) N (zaa N) z6j Go.Proofs.Try.f18 (mkS [(0, .box (.pair (.own (.arr 128 (.int .u8))) (.pair (.mp (.int .i64) (.int .i64)) (.pair .bool (.pair (.int .i64) .unit))))), (0, .v (.int .i64))] 0 x) (zdu (.v (.int .i64)) [(0, .box (.pair (.own (.arr 128 (.int .u8))) (.pair (.mp (.int .i64) (.int .i64)) (.pair .bool (.pair (.int .i64) .unit)))))] 1) = z2n N x.1 x.2.1 := by kernel_rfl

def z83 (N : Nat) : List A -> Res := z2u [(0, .box (.pair (.own (.arr 128 (.int .u8))) (.pair (.mp (.int .i64) (.int .i64)) (.pair .bool (.pair (.int .i64) .unit))))), (0, .v (.int .i64))] (fun x => z2n N x.1 x.2.1) (zjx (.v (.int .i64)) [(0, .box (.pair (.own (.arr 128 (.int .u8))) (.pair (.mp (.int .i64) (.int .i64)) (.pair .bool (.pair (.int .i64) .unit)))))] 1)

theorem zfk (N : Nat) : Contract Go.Proofs.Try.prog zq 18 (z83 N) :=
  Contract.of (E := z3u N) (H := zaa N) (L := z6j) (N := N) (body := z41) (K := (zdu (.v (.int .i64)) [(0, .box (.pair (.own (.arr 128 (.int .u8))) (.pair (.mp (.int .i64) (.int .i64)) (.pair .bool (.pair (.int .i64) .unit)))))] 1)) (zeo N) Go.Proofs.Try.func18 (by kernel_rfl) (by decide) (fun _ hb => (TabOk.cons (zen hb) TabOk.nil)) (fun x y h => by rw [zdv]; exact h) (zb9 (s := (.v (.int .i64))) (os := [(0, .box (.pair (.own (.arr 128 (.int .u8))) (.pair (.mp (.int .i64) (.int .i64)) (.pair .bool (.pair (.int .i64) .unit)))))]) (m := 1))

def zac : Code := (Go.Proofs.Try.f18.body).getD .skip

def z72 : List (List Nat × List Nat) := [([0], [0, 1]), ([0, 0, 0, 1], [5, 0, 1]), ([1, 0, 0, 1], []), ([0, 1, 1, 0, 0, 1], [9, 1, 0]), ([1, 1, 1, 0, 0, 1], []), ([0, 1, 1, 1, 1, 0, 0, 1], [14]), ([1, 1, 1, 1, 1, 0, 0, 1], []), ([0, 0, 1, 1, 1, 1, 1, 0, 0, 1], [4]), ([1, 0, 1, 1, 1, 1, 1, 0, 0, 1], [4]), ([0, 0, 1, 1, 1, 0, 0, 1], [4]), ([1, 0, 1, 1, 1, 0, 0, 1], [4]), ([0, 0, 1, 0, 0, 1], [4]), ([1, 0, 1, 0, 0, 1], [4]), ([0, 1], []), ([0, 1, 1], [4]), ([1, 1, 1], [4])]

def z3k (N : Nat) : Env := z7x tys zq [(17, z1y N)] [] [] [] false [] []

theorem zbe (N : Nat) : EnvOk Go.Proofs.Try.prog (z3k N) := z1i mixed z3w (FnsOk.cons (z28 N) (FnsOk.nil)) (ItsOk.nil)

def z4u (N : Nat) (at_ : Int) : Option Int :=
 some (21 : Int)

def z71 (N : Nat) : Tab Int := []

theorem zab (N : Nat) (x : z31 [(0, .nilp), (0, .v (.int .i64))]) : zfw (z3k N) N (z71 N) z72 Go.Proofs.Try.f18 (mkS [(0, .nilp), (0, .v (.int .i64))] 0 x) (ze6 (.v (.int .i64)) 2) = z4u N x.2.1 := by kernel_rfl

def zbd (N : Nat) : List A -> Res := z2u [(0, .nilp), (0, .v (.int .i64))] (fun x => z4u N x.2.1) (zf0 (.v (.int .i64)) 2)

theorem zcb (N : Nat) : Contract Go.Proofs.Try.prog zq 18 (zbd N) :=
  Contract.of (E := z3k N) (H := z71 N) (L := z72) (N := N) (body := zac) (K := (ze6 (.v (.int .i64)) 2)) (zbe N) Go.Proofs.Try.func18 (by kernel_rfl) (by decide) (fun _ hb => TabOk.nil) (fun x y h => by rw [zab]; exact h) (z4t (s := (.v (.int .i64))) (m := 2))

def z1f (N : Nat) : List A -> Res := ze4 [(0, .nilp), (0, .v (.int .i64))] (fun x => z4u N x.2.1) (zf0 (.v (.int .i64)) 2) (z83 N)

theorem z1q (N : Nat) : Contract Go.Proofs.Try.prog zq 18 (z1f N) := Contract.alt (zcb N) (zfk N)

def zdy : Code := (Go.Proofs.Try.f10.body).getD .skip

def zai : List (List Nat × List Nat) := [([0], [0, 1, 2]), ([0, 0, 1], [7, 0, 2, 1]), ([0, 1, 0, 1], [14, 7, 0, 2, 1]), ([1, 1, 0, 1], [2, 0, 1]), ([0, 0, 1, 1, 0, 1], [6, 0]), ([1, 0, 1, 1, 0, 1], [6, 0]), ([0, 0, 1, 1], [18, 0, 1, 2]), ([1, 0, 1, 1], [0, 1, 2]), ([0, 0, 1, 0, 1, 1], [6, 0]), ([1, 0, 1, 0, 1, 1], [6, 0]), ([0, 1, 1, 1], [0, 9, 1, 8, 2]), ([0, 1, 1, 1, 1], [9, 0, 1, 8, 2]), ([0, 0, 1, 1, 1, 1, 1], [38, 0, 1, 8, 2]), ([1, 0, 1, 1, 1, 1, 1], [0, 1, 2]), ([0, 0, 1, 0, 1, 1, 1, 1, 1], [0]), ([0, 1, 0, 1, 0, 1, 1, 1, 1, 1], [0]), ([0, 1, 1, 0, 1, 0, 1, 1, 1, 1, 1], [6, 0]), ([1, 1, 1, 0, 1, 0, 1, 1, 1, 1, 1], [6, 0]), ([0, 1, 1, 1, 1, 1, 1], [0]), ([0, 1, 1, 1, 1, 1, 1, 1], [6, 0]), ([1, 1, 1, 1, 1, 1, 1, 1], [6, 0])]

def z6k (N : Nat) : Env := z7x tys zq [(18, z1f N)] [] [] [0] false [] []

theorem zer (N : Nat) : EnvOk Go.Proofs.Try.prog (z6k N) := z1i mixed z3w (FnsOk.cons (z1q N) (FnsOk.nil)) (ItsOk.nil)

def z12 (N : Nat) (d : ((List (List Int)) × ((Option (List (Int × Int))) × (Bool × (Int × Unit))))) (at_ : Int) (block : (List UInt8)) : Option (Int × (((List (List Int)) × ((Option (List (Int × Int))) × (Bool × (Int × Unit)))) × Unit)) :=
 (z2n N d at_).bind fun y =>
 cond (y.1 != (0 : Int))
 (some (y.1, (y.2.1, ())))
 (cond ((((List.length block) : Nat) : Int) != (128 : Int))
 (some ((7 : Int), (y.2.1, ())))
 (cond (Option.isSome (Go.Lift.lookM (Go.Lift.eqD (Go.Lift.T.int Go.IntKind.i64)) y.2.1.2.2.2.1 (Option.getD y.2.1.2.1 ([] : List (Int × Int)))))
 (cond (Go.Lift.inR at_ (List.length y.2.1.1))
 (cond (decide (((0 : Int) <= (Option.getD (Go.Lift.lookM (Go.Lift.eqD (Go.Lift.T.int Go.IntKind.i64)) y.2.1.2.2.2.1 (Option.getD y.2.1.2.1 ([] : List (Int × Int)))) (0 : Int))) /\ ((Option.getD (Go.Lift.lookM (Go.Lift.eqD (Go.Lift.T.int Go.IntKind.i64)) y.2.1.2.2.2.1 (Option.getD y.2.1.2.1 ([] : List (Int × Int)))) (0 : Int)) <= (128 : Int))))
 (cond (decide ((Int.toNat at_) < (List.length y.2.1.1)))
 (some ((20 : Int), (((List.set y.2.1.1 (Int.toNat at_) (Go.Lift.over (List.getD y.2.1.1 (Int.toNat at_) ([] : List Int)) 0 (Int.toNat (Option.getD (Go.Lift.lookM (Go.Lift.eqD (Go.Lift.T.int Go.IntKind.i64)) y.2.1.2.2.2.1 (Option.getD y.2.1.2.1 ([] : List (Int × Int)))) (0 : Int))) (Go.Lift.ofStr block))), (y.2.1.2.1, (true, ((Go.IntKind.wrap Go.IntKind.i64 (y.2.1.2.2.2.1 + (1 : Int))), y.2.1.2.2.2.2)))), ())))
 (none))
 (none))
 (none))
 (cond (Go.Lift.inR at_ (List.length y.2.1.1))
 (cond (decide ((Int.toNat at_) < (List.length y.2.1.1)))
 (some ((0 : Int), (((List.set y.2.1.1 (Int.toNat at_) (Go.Lift.over (List.getD y.2.1.1 (Int.toNat at_) ([] : List Int)) 0 128 (Go.Lift.ofStr block))), (y.2.1.2.1, (y.2.1.2.2.1, ((Go.IntKind.wrap Go.IntKind.i64 (y.2.1.2.2.2.1 + (1 : Int))), y.2.1.2.2.2.2)))), ())))
 (none))
 (none))))

def zaf (N : Nat) : Tab (Int × (((List (List Int)) × ((Option (List (Int × Int))) × (Bool × (Int × Unit)))) × Unit)) := []

theorem zdx (N : Nat) (x : z31 [(0, .box (.pair (.own (.arr 128 (.int .u8))) (.pair (.mp (.int .i64) (.int .i64)) (.pair .bool (.pair (.int .i64) .unit))))), (0, .v (.int .i64)), (0, .v .str)]) : zfw (z6k N) N (zaf N) zai Go.Proofs.Try.f10 (mkS [(0, .box (.pair (.own (.arr 128 (.int .u8))) (.pair (.mp (.int .i64) (.int .i64)) (.pair .bool (.pair (.int .i64) .unit))))), (0, .v (.int .i64)), (0, .v .str)] 0 x) (zdu (.v (.int .i64)) [(0, .box (.pair (.own (.arr 128 (.int .u8))) (.pair (.mp (.int .i64) (.int .i64)) (.pair .bool (.pair (.int .i64) .unit)))))] 2) = z12 N x.1 x.2.1 x.2.2.1 := by kernel_rfl

def z84 (N : Nat) : List A -> Res := z2u [(0, .box (.pair (.own (.arr 128 (.int .u8))) (.pair (.mp (.int .i64) (.int .i64)) (.pair .bool (.pair (.int .i64) .unit))))), (0, .v (.int .i64)), (0, .v .str)] (fun x => z12 N x.1 x.2.1 x.2.2.1) (zjx (.v (.int .i64)) [(0, .box (.pair (.own (.arr 128 (.int .u8))) (.pair (.mp (.int .i64) (.int .i64)) (.pair .bool (.pair (.int .i64) .unit)))))] 2)

theorem zfl (N : Nat) : Contract Go.Proofs.Try.prog zq 10 (z84 N) :=
  Contract.of (E := z6k N) (H := zaf N) (L := zai) (N := N) (body := zdy) (K := (zdu (.v (.int .i64)) [(0, .box (.pair (.own (.arr 128 (.int .u8))) (.pair (.mp (.int .i64) (.int .i64)) (.pair .bool (.pair (.int .i64) .unit)))))] 2)) (zer N) Go.Proofs.Try.func10 (by kernel_rfl) (by decide) (fun _ hb => TabOk.nil) (fun x y h => by rw [zdx]; exact h) (zb9 (s := (.v (.int .i64))) (os := [(0, .box (.pair (.own (.arr 128 (.int .u8))) (.pair (.mp (.int .i64) (.int .i64)) (.pair .bool (.pair (.int .i64) .unit)))))]) (m := 2))

def zah : Code := (Go.Proofs.Try.f10.body).getD .skip

def z74 : List (List Nat × List Nat) := [([0], [0, 1, 2]), ([0, 0, 1], [7, 2, 0, 1]), ([0, 1, 0, 1], [14, 7, 2, 0, 1]), ([1, 1, 0, 1], [2, 0, 1]), ([0, 0, 1, 1, 0, 1], [6]), ([1, 0, 1, 1, 0, 1], [6]), ([0, 0, 1, 1], [18, 0, 1, 2]), ([1, 0, 1, 1], [0, 1, 2]), ([0, 0, 1, 0, 1, 1], [6]), ([1, 0, 1, 0, 1, 1], [6]), ([0, 1, 1, 1], [0, 9, 1, 8, 2]), ([0, 1, 1, 1, 1], [9, 0, 1, 8, 2]), ([0, 0, 1, 1, 1, 1, 1], [38, 0, 1, 8, 2]), ([1, 0, 1, 1, 1, 1, 1], [0, 1, 2]), ([0, 0, 1, 0, 1, 1, 1, 1, 1], [0]), ([0, 1, 0, 1, 0, 1, 1, 1, 1, 1], []), ([0, 1, 1, 0, 1, 0, 1, 1, 1, 1, 1], [6]), ([1, 1, 1, 0, 1, 0, 1, 1, 1, 1, 1], [6]), ([0, 1, 1, 1, 1, 1, 1], []), ([0, 1, 1, 1, 1, 1, 1, 1], [6]), ([1, 1, 1, 1, 1, 1, 1, 1], [6])]

def z3l (N : Nat) : Env := z7x tys zq [(18, z1f N)] [] [] [] false [] []

theorem zbh (N : Nat) : EnvOk Go.Proofs.Try.prog (z3l N) := z1i mixed z3w (FnsOk.cons (z1q N) (FnsOk.nil)) (ItsOk.nil)

def z4v (N : Nat) (at_ : Int) (block : (List UInt8)) : Option Int :=
 some (21 : Int)

def z73 (N : Nat) : Tab Int := []

theorem zag (N : Nat) (x : z31 [(0, .nilp), (0, .v (.int .i64)), (0, .v .str)]) : zfw (z3l N) N (z73 N) z74 Go.Proofs.Try.f10 (mkS [(0, .nilp), (0, .v (.int .i64)), (0, .v .str)] 0 x) (ze6 (.v (.int .i64)) 3) = z4v N x.2.1 x.2.2.1 := by kernel_rfl

def zbg (N : Nat) : List A -> Res := z2u [(0, .nilp), (0, .v (.int .i64)), (0, .v .str)] (fun x => z4v N x.2.1 x.2.2.1) (zf0 (.v (.int .i64)) 3)

theorem zcc (N : Nat) : Contract Go.Proofs.Try.prog zq 10 (zbg N) :=
  Contract.of (E := z3l N) (H := z73 N) (L := z74) (N := N) (body := zah) (K := (ze6 (.v (.int .i64)) 3)) (zbh N) Go.Proofs.Try.func10 (by kernel_rfl) (by decide) (fun _ hb => TabOk.nil) (fun x y h => by rw [zag]; exact h) (z4t (s := (.v (.int .i64))) (m := 3))

def z2z (N : Nat) : List A -> Res := ze4 [(0, .nilp), (0, .v (.int .i64)), (0, .v .str)] (fun x => z4v N x.2.1 x.2.2.1) (zf0 (.v (.int .i64)) 3) (z84 N)

theorem z4m (N : Nat) : Contract Go.Proofs.Try.prog zq 10 (z2z N) := Contract.alt (zcc N) (zfl N)

def zet : Code := (Go.Proofs.Try.f11.body).getD .skip

def zbv : List (List Nat × List Nat) := [([0], [0, 1]), ([0, 0, 1], [6, 0, 1]), ([0, 1, 0, 1], [11, 6, 0, 1]), ([1, 1, 0, 1], [0, 1]), ([0, 0, 1, 1, 0, 1], [4, 5, 0]), ([1, 0, 1, 1, 0, 1], [4, 5, 0]), ([0, 1, 1], [4, 5, 0]), ([1, 1, 1], [4, 5, 0])]

def z78 (N : Nat) : Env := z7x tys zq [(18, z1f N)] [] [] [0] false [] []

theorem zfm (N : Nat) : EnvOk Go.Proofs.Try.prog (z78 N) := z1i mixed z3w (FnsOk.cons (z1q N) (FnsOk.nil)) (ItsOk.nil)

def z1c (N : Nat) (d : ((List (List Int)) × ((Option (List (Int × Int))) × (Bool × (Int × Unit))))) (at_ : Int) : Option (((List UInt8) × Int × Unit) × (((List (List Int)) × ((Option (List (Int × Int))) × (Bool × (Int × Unit)))) × Unit)) :=
 (z2n N d at_).bind fun y =>
 cond (y.1 != (0 : Int))
 (some ((([] : List UInt8), (y.1, ())), (y.2.1, ())))
 (cond (Go.Lift.inR at_ (List.length y.2.1.1))
 (cond (decide ((Int.toNat at_) < (List.length y.2.1.1)))
 (some (((Go.Lift.toStr (Go.Lift.cut (List.getD y.2.1.1 (Int.toNat at_) ([] : List Int)) 0 128)), ((0 : Int), ())), (y.2.1, ())))
 (none))
 (none))

def zbu (N : Nat) : Tab (((List UInt8) × Int × Unit) × (((List (List Int)) × ((Option (List (Int × Int))) × (Bool × (Int × Unit)))) × Unit)) := []

theorem zes (N : Nat) (x : z31 [(0, .box (.pair (.own (.arr 128 (.int .u8))) (.pair (.mp (.int .i64) (.int .i64)) (.pair .bool (.pair (.int .i64) .unit))))), (0, .v (.int .i64))]) : zfw (z78 N) N (zbu N) zbv Go.Proofs.Try.f11 (mkS [(0, .box (.pair (.own (.arr 128 (.int .u8))) (.pair (.mp (.int .i64) (.int .i64)) (.pair .bool (.pair (.int .i64) .unit))))), (0, .v (.int .i64))] 0 x) (zdu (.tup [.str, (.int .i64)]) [(0, .box (.pair (.own (.arr 128 (.int .u8))) (.pair (.mp (.int .i64) (.int .i64)) (.pair .bool (.pair (.int .i64) .unit)))))] 1) = z1c N x.1 x.2.1 := by kernel_rfl

def z8q (N : Nat) : List A -> Res := z2u [(0, .box (.pair (.own (.arr 128 (.int .u8))) (.pair (.mp (.int .i64) (.int .i64)) (.pair .bool (.pair (.int .i64) .unit))))), (0, .v (.int .i64))] (fun x => z1c N x.1 x.2.1) (zjx (.tup [.str, (.int .i64)]) [(0, .box (.pair (.own (.arr 128 (.int .u8))) (.pair (.mp (.int .i64) (.int .i64)) (.pair .bool (.pair (.int .i64) .unit)))))] 1)

theorem zgk (N : Nat) : Contract Go.Proofs.Try.prog zq 11 (z8q N) :=
  Contract.of (E := z78 N) (H := zbu N) (L := zbv) (N := N) (body := zet) (K := (zdu (.tup [.str, (.int .i64)]) [(0, .box (.pair (.own (.arr 128 (.int .u8))) (.pair (.mp (.int .i64) (.int .i64)) (.pair .bool (.pair (.int .i64) .unit)))))] 1)) (zfm N) Go.Proofs.Try.func11 (by kernel_rfl) (by decide) (fun _ hb => TabOk.nil) (fun x y h => by rw [zes]; exact h) (zb9 (s := (.tup [.str, (.int .i64)])) (os := [(0, .box (.pair (.own (.arr 128 (.int .u8))) (.pair (.mp (.int .i64) (.int .i64)) (.pair .bool (.pair (.int .i64) .unit)))))]) (m := 1))

def zbj : Code := (Go.Proofs.Try.f11.body).getD .skip

def z7g : List (List Nat × List Nat) := [([0], [0, 1]), ([0, 0, 1], [6, 0, 1]), ([0, 1, 0, 1], [11, 6, 0, 1]), ([1, 1, 0, 1], [0, 1]), ([0, 0, 1, 1, 0, 1], [4, 5]), ([1, 0, 1, 1, 0, 1], [4, 5]), ([0, 1, 1], [4, 5]), ([1, 1, 1], [4, 5])]

def z43 (N : Nat) : Env := z7x tys zq [(18, z1f N)] [] [] [] false [] []

theorem zce (N : Nat) : EnvOk Go.Proofs.Try.prog (z43 N) := z1i mixed z3w (FnsOk.cons (z1q N) (FnsOk.nil)) (ItsOk.nil)

def z5t (N : Nat) (at_ : Int) : Option ((List UInt8) × Int × Unit) :=
 some (([] : List UInt8), ((21 : Int), ()))

def z7f (N : Nat) : Tab ((List UInt8) × Int × Unit) := []

theorem zbi (N : Nat) (x : z31 [(0, .nilp), (0, .v (.int .i64))]) : zfw (z43 N) N (z7f N) z7g Go.Proofs.Try.f11 (mkS [(0, .nilp), (0, .v (.int .i64))] 0 x) (ze6 (.tup [.str, (.int .i64)]) 2) = z5t N x.2.1 := by kernel_rfl

def zcd (N : Nat) : List A -> Res := z2u [(0, .nilp), (0, .v (.int .i64))] (fun x => z5t N x.2.1) (zf0 (.tup [.str, (.int .i64)]) 2)

theorem zd7 (N : Nat) : Contract Go.Proofs.Try.prog zq 11 (zcd N) :=
  Contract.of (E := z43 N) (H := z7f N) (L := z7g) (N := N) (body := zbj) (K := (ze6 (.tup [.str, (.int .i64)]) 2)) (zce N) Go.Proofs.Try.func11 (by kernel_rfl) (by decide) (fun _ hb => TabOk.nil) (fun x y h => by rw [zbi]; exact h) (z4t (s := (.tup [.str, (.int .i64)])) (m := 2))

def z3d (N : Nat) : List A -> Res := ze4 [(0, .nilp), (0, .v (.int .i64))] (fun x => z5t N x.2.1) (zf0 (.tup [.str, (.int .i64)]) 2) (z8q N)

theorem z5k (N : Nat) : Contract Go.Proofs.Try.prog zq 11 (z3d N) := Contract.alt (zd7 N) (zgk N)

def ze0 : Code := (Go.Proofs.Try.f13.body).getD .skip

def zam : List (List Nat × List Nat) := [([0], [3, 0]), ([1], [0]), ([0, 1], [0])]

def z6l (N : Nat) : Env := z7x tys zq [] [] [] [0] false [] []

theorem zeu (N : Nat) : EnvOk Go.Proofs.Try.prog (z6l N) := z1i mixed z3w (FnsOk.nil) (ItsOk.nil)

def zd8 (N : Nat) (d : ((List (List Int)) × ((Option (List (Int × Int))) × (Bool × (Int × Unit))))) : Option ((Unit) × (((List (List Int)) × ((Option (List (Int × Int))) × (Bool × (Int × Unit)))) × Unit)) :=
 some ((), ((d.1, (d.2.1, (false, d.2.2.2))), ()))

def zaj (N : Nat) : Tab ((Unit) × (((List (List Int)) × ((Option (List (Int × Int))) × (Bool × (Int × Unit)))) × Unit)) := []

theorem zdz (N : Nat) (x : z31 [(0, .box (.pair (.own (.arr 128 (.int .u8))) (.pair (.mp (.int .i64) (.int .i64)) (.pair .bool (.pair (.int .i64) .unit)))))]) : zfw (z6l N) N (zaj N) zam Go.Proofs.Try.f13 (mkS [(0, .box (.pair (.own (.arr 128 (.int .u8))) (.pair (.mp (.int .i64) (.int .i64)) (.pair .bool (.pair (.int .i64) .unit)))))] 0 x) (zdu (.tup []) [(0, .box (.pair (.own (.arr 128 (.int .u8))) (.pair (.mp (.int .i64) (.int .i64)) (.pair .bool (.pair (.int .i64) .unit)))))] 0) = zd8 N x.1 := by kernel_rfl

def z85 (N : Nat) : List A -> Res := z2u [(0, .box (.pair (.own (.arr 128 (.int .u8))) (.pair (.mp (.int .i64) (.int .i64)) (.pair .bool (.pair (.int .i64) .unit)))))] (fun x => zd8 N x.1) (zjx (.tup []) [(0, .box (.pair (.own (.arr 128 (.int .u8))) (.pair (.mp (.int .i64) (.int .i64)) (.pair .bool (.pair (.int .i64) .unit)))))] 0)

theorem zfn (N : Nat) : Contract Go.Proofs.Try.prog zq 13 (z85 N) :=
  Contract.of (E := z6l N) (H := zaj N) (L := zam) (N := N) (body := ze0) (K := (zdu (.tup []) [(0, .box (.pair (.own (.arr 128 (.int .u8))) (.pair (.mp (.int .i64) (.int .i64)) (.pair .bool (.pair (.int .i64) .unit)))))] 0)) (zeu N) Go.Proofs.Try.func13 (by kernel_rfl) (by decide) (fun _ hb => TabOk.nil) (fun x y h => by rw [zdz]; exact h) (zb9 (s := (.tup [])) (os := [(0, .box (.pair (.own (.arr 128 (.int .u8))) (.pair (.mp (.int .i64) (.int .i64)) (.pair .bool (.pair (.int .i64) .unit)))))]) (m := 0))

def zal : Code := (Go.Proofs.Try.f13.body).getD .skip

def z76 : List (List Nat × List Nat) := [([0], [3, 0]), ([1], []), ([0, 1], [])]

def z3m (N : Nat) : Env := z7x tys zq [] [] [] [] false [] []

theorem zbl (N : Nat) : EnvOk Go.Proofs.Try.prog (z3m N) := z1i mixed z3w (FnsOk.nil) (ItsOk.nil)

def z4w (N : Nat) : Option (Unit) :=
 some ()

def z75 (N : Nat) : Tab (Unit) := []

theorem zak (N : Nat) (x : z31 [(0, .nilp)]) : zfw (z3m N) N (z75 N) z76 Go.Proofs.Try.f13 (mkS [(0, .nilp)] 0 x) (ze6 (.tup []) 1) = z4w N := by kernel_rfl

def zbk (N : Nat) : List A -> Res := z2u [(0, .nilp)] (fun x => z4w N) (zf0 (.tup []) 1)

theorem zcf (N : Nat) : Contract Go.Proofs.Try.prog zq 13 (zbk N) :=
  Contract.of (E := z3m N) (H := z75 N) (L := z76) (N := N) (body := zal) (K := (ze6 (.tup []) 1)) (zbl N) Go.Proofs.Try.func13 (by kernel_rfl) (by decide) (fun _ hb => TabOk.nil) (fun x y h => by rw [zak]; exact h) (z4t (s := (.tup [])) (m := 1))

def z30 (N : Nat) : List A -> Res := ze4 [(0, .nilp)] (fun x => z4w N) (zf0 (.tup []) 1) (z85 N)

theorem z4n (N : Nat) : Contract Go.Proofs.Try.prog zq 13 (z30 N) := Contract.alt (zcf N) (zfn N)

def zd6 : Code := (Go.Proofs.Try.f16.body).getD .skip

def z8p : List (List Nat × List Nat) := [([0], [0]), ([0, 0, 1], [4, 0]), ([1, 0, 1], [0]), ([0, 0, 1, 0, 1], [2, 0]), ([1, 0, 1, 0, 1], [2, 0]), ([0, 1, 1], [2, 0]), ([1, 1, 1], [2, 0])]

def z5s (N : Nat) : Env := z7x tys zq [] [] [] [0] false [] []

theorem zdw (N : Nat) : EnvOk Go.Proofs.Try.prog (z5s N) := z1i mixed z3w (FnsOk.nil) (ItsOk.nil)

def zbt (N : Nat) (d : ((List (List Int)) × ((Option (List (Int × Int))) × (Bool × (Int × Unit))))) : Option (Int × (((List (List Int)) × ((Option (List (Int × Int))) × (Bool × (Int × Unit)))) × Unit)) :=
 some (d.2.2.2.1, (d, ()))

def z8o (N : Nat) : Tab (Int × (((List (List Int)) × ((Option (List (Int × Int))) × (Bool × (Int × Unit)))) × Unit)) := []

theorem zd5 (N : Nat) (x : z31 [(0, .box (.pair (.own (.arr 128 (.int .u8))) (.pair (.mp (.int .i64) (.int .i64)) (.pair .bool (.pair (.int .i64) .unit)))))]) : zfw (z5s N) N (z8o N) z8p Go.Proofs.Try.f16 (mkS [(0, .box (.pair (.own (.arr 128 (.int .u8))) (.pair (.mp (.int .i64) (.int .i64)) (.pair .bool (.pair (.int .i64) .unit)))))] 0 x) (zdu (.v (.int .i64)) [(0, .box (.pair (.own (.arr 128 (.int .u8))) (.pair (.mp (.int .i64) (.int .i64)) (.pair .bool (.pair (.int .i64) .unit)))))] 0) = zbt N x.1 := by kernel_rfl

def z7e (N : Nat) : List A -> Res := z2u [(0, .box (.pair (.own (.arr 128 (.int .u8))) (.pair (.mp (.int .i64) (.int .i64)) (.pair .bool (.pair (.int .i64) .unit)))))] (fun x => zbt N x.1) (zjx (.v (.int .i64)) [(0, .box (.pair (.own (.arr 128 (.int .u8))) (.pair (.mp (.int .i64) (.int .i64)) (.pair .bool (.pair (.int .i64) .unit)))))] 0)

theorem zep (N : Nat) : Contract Go.Proofs.Try.prog zq 16 (z7e N) :=
  Contract.of (E := z5s N) (H := z8o N) (L := z8p) (N := N) (body := zd6) (K := (zdu (.v (.int .i64)) [(0, .box (.pair (.own (.arr 128 (.int .u8))) (.pair (.mp (.int .i64) (.int .i64)) (.pair .bool (.pair (.int .i64) .unit)))))] 0)) (zdw N) Go.Proofs.Try.func16 (by kernel_rfl) (by decide) (fun _ hb => TabOk.nil) (fun x y h => by rw [zd5]; exact h) (zb9 (s := (.v (.int .i64))) (os := [(0, .box (.pair (.own (.arr 128 (.int .u8))) (.pair (.mp (.int .i64) (.int .i64)) (.pair .bool (.pair (.int .i64) .unit)))))]) (m := 0))

def z9g : Code := (Go.Proofs.Try.f16.body).getD .skip

def z68 : List (List Nat × List Nat) := [([0], [0]), ([0, 0, 1], [4, 0]), ([1, 0, 1], [0]), ([0, 0, 1, 0, 1], [2]), ([1, 0, 1, 0, 1], [2]), ([0, 1, 1], [2]), ([1, 1, 1], [2])]

def z3c (N : Nat) : Env := z7x tys zq [] [] [] [] false [] []

theorem zae (N : Nat) : EnvOk Go.Proofs.Try.prog (z3c N) := z1i mixed z3w (FnsOk.nil) (ItsOk.nil)

def z42 (N : Nat) : Option Int :=
 some (0 : Int)

def z67 (N : Nat) : Tab Int := []

theorem z9f (N : Nat) (x : z31 [(0, .nilp)]) : zfw (z3c N) N (z67 N) z68 Go.Proofs.Try.f16 (mkS [(0, .nilp)] 0 x) (ze6 (.v (.int .i64)) 1) = z42 N := by kernel_rfl

def zad (N : Nat) : List A -> Res := z2u [(0, .nilp)] (fun x => z42 N) (zf0 (.v (.int .i64)) 1)

theorem zbf (N : Nat) : Contract Go.Proofs.Try.prog zq 16 (zad N) :=
  Contract.of (E := z3c N) (H := z67 N) (L := z68) (N := N) (body := z9g) (K := (ze6 (.v (.int .i64)) 1)) (zae N) Go.Proofs.Try.func16 (by kernel_rfl) (by decide) (fun _ hb => TabOk.nil) (fun x y h => by rw [z9f]; exact h) (z4t (s := (.v (.int .i64))) (m := 1))

def z2o (N : Nat) : List A -> Res := ze4 [(0, .nilp)] (fun x => z42 N) (zf0 (.v (.int .i64)) 1) (z7e N)

theorem z3x (N : Nat) : Contract Go.Proofs.Try.prog zq 16 (z2o N) := Contract.alt (zbf N) (zep N)

def z3a : Code := (Go.Proofs.Try.f5.body).getD .skip

def z4q : List (List Nat × List Nat) := [([0], []), ([0, 1], [1, 2]), ([0, 1, 1], [3, 1, 2]), ([0, 0, 1, 1, 1], [4, 3, 1, 2]), ([0, 1, 0, 1, 1, 1], [4, 3, 1, 2]), ([0, 0, 0, 0, 1, 0, 1, 1, 1], [19, 3, 4, 1, 2]), ([1, 0, 0, 0, 1, 0, 1, 1, 1], [3, 4, 1, 2]), ([1, 1, 0, 0, 0, 1, 0, 1, 1, 1], [1, 3, 2]), ([0, 0, 1, 0, 0, 1, 0, 1, 1, 1], [4, 3, 1, 2]), ([0, 1, 0, 0, 1, 0, 1, 1, 1], [4, 3, 1, 2]), ([1, 1, 0, 0, 1, 0, 1, 1, 1], [4, 3, 1, 2]), ([1, 0, 1, 1, 1], [1, 3, 2]), ([0, 1, 1, 1, 1], [1, 3, 2, 5]), ([0, 1, 1, 1, 1, 1], [1, 2, 5, 6]), ([0, 1, 1, 1, 1, 1, 1], [1, 2, 5, 6, 8]), ([0, 1, 1, 1, 1, 1, 1, 1], [1, 2, 5, 6, 8]), ([0, 1, 1, 1, 1, 1, 1, 1, 1], [2, 5, 6, 8, 10, 9, 1]), ([0, 1, 1, 1, 1, 1, 1, 1, 1, 1], [0]), ([1, 1, 1, 1, 1, 1, 1, 1, 1, 1], [0])]

def z2v (N : Nat) : Env := z7x tys zq [(16, z2o N), (13, z30 N), (11, z3d N), (10, z2z N), (6, zd4 N)] [(3, (.int .u8))] [] [] false [] []

theorem zcx (N : Nat) : EnvOk Go.Proofs.Try.prog (z2v N) := z1i mixed z3w (FnsOk.cons (z3x N) (FnsOk.cons (z4n N) (FnsOk.cons (z5k N) (FnsOk.cons (z4m N) (FnsOk.cons (zic N) (FnsOk.nil)))))) (ItsOk.nil)

def z3z (N : Nat) (d : (Option ((List (List Int)) × ((Option (List (Int × Int))) × (Bool × (Int × Unit)))))) (e : Int) (b : (List Int)) (i : Int) (rec : (List Int) -> Int -> Option Bool) (k0 : (List Int) -> Option Bool) : Option Bool :=
 cond (decide (i < (128 : Int)))
 (cond (Go.Lift.inR i (List.length b))
 (cond (decide ((Int.toNat i) < (List.length b)))
 (rec (List.set b (Int.toNat i) (120 : Int)) (Go.IntKind.wrap Go.IntKind.i64 (i + (1 : Int))))
 (none))
 (none))
 (k0 b)

def z40 (N : Nat) (d : (Option ((List (List Int)) × ((Option (List (Int × Int))) × (Bool × (Int × Unit)))))) (e : Int) (b : (List Int)) (i : Int) (k0 : (List Int) -> Option Bool) : Option Bool :=
 iter (fun (v : ((List Int) × Int)) r => z3z N d e v.1 v.2 (fun b i => (r (b, i))) k0) N (b, i)

def z7d (N : Nat) (i : ((Option ((List (List Int)) × ((Option (List (Int × Int))) × (Bool × (Int × Unit))))) × Int)) (v : ((List Int) × Int)) (r : ((List Int) × Int) -> Option Bool) (K : Ex -> List A -> Option Bool) : Option Bool :=
 z3z N i.1 i.2 v.1 v.2 (fun b i => (r (b, i))) (fun a2 => (K (.exit 0) (mkS [(1, .ov (.nb (.pair (.own (.arr 128 (.int .u8))) (.pair (.mp (.int .i64) (.int .i64)) (.pair .bool (.pair (.int .i64) .unit)))))), (0, .v (.int .i64)), (0, .row (.int .u8))] 74 (i.1, i.2, a2, ()))))

def z7c (N : Nat) : Hd Bool := fun st K => (unS [(1, .ov (.nb (.pair (.own (.arr 128 (.int .u8))) (.pair (.mp (.int .i64) (.int .i64)) (.pair .bool (.pair (.int .i64) .unit)))))), (0, .v (.int .i64)), (0, .row (.int .u8)), (0, .v (.int .i64))] 73 (restr [4, 3, 1, 2] 0 st)).bind fun x => iter (fun v r => z7d N ((fun x => (x.1, x.2.1)) x) v r K) N ((fun x => (x.2.2.1, x.2.2.2.1)) x)

def zdr (N : Nat) : Tab Bool := []

theorem zcw {N : Nat} {c : Ctx} (hb : Base Go.Proofs.Try.prog (z2v N) c) : z15 Go.Proofs.Try.prog c (zl z3a [0, 1, 0, 1, 1, 1]) (z7c N) :=
  zg7 (s := [(1, .ov (.nb (.pair (.own (.arr 128 (.int .u8))) (.pair (.mp (.int .i64) (.int .i64)) (.pair .bool (.pair (.int .i64) .unit)))))), (0, .v (.int .i64)), (0, .row (.int .u8)), (0, .v (.int .i64))]) (m := 73) (z7d N) [4, 3, 1, 2] N (fun x => (x.1, x.2.1)) (fun x => (x.2.2.1, x.2.2.2.1)) (fun i v => (i.1, i.2, v.1, v.2, ())) (fun _ => rfl) (zn hb N (zdr N) z4q z3a TabOk.nil [0, 0, 1, 0, 1, 1, 1] _ rfl) (fun i v r K => by kernel_rfl)

def z1j (N : Nat) : Option Bool :=
 (z8l N (2 : Int) ([((1 : Int), ((3 : Int), ()))] : List (Int × (Int × Unit)))).bind fun y =>
 z40 N y.1 y.2.1 (List.replicate 128 (0 : Int)) (0 : Int)
 (fun b => cond (Option.isSome y.1)
 ((z12 N (Option.getD y.1 (([] : List (List Int)), ((Option.none), (false, ((0 : Int), ()))))) (0 : Int) (Go.Lift.toStr b)).bind fun y1 =>
 (z12 N y1.2.1 (1 : Int) (Go.Lift.toStr b)).bind fun y2 =>
 (z1c N y2.2.1 (0 : Int)).bind fun y3 =>
 (z1c N (y3.2.1.1, (y3.2.1.2.1, (false, y3.2.1.2.2.2))) (1 : Int)).bind fun y4 =>
 cond (y.2.1 == (0 : Int))
 (cond (y1.1 == (0 : Int))
 (cond (y2.1 == (20 : Int))
 (cond (y3.1.2.1 == (20 : Int))
 (cond (y4.1.2.1 == (0 : Int))
 (cond ((((List.length y4.1.1) : Nat) : Int) == (128 : Int))
 (cond (decide (((0 : Int) <= (4 : Int)) /\ ((4 : Int) <= (((List.length y4.1.1) : Nat) : Int))))
 (cond ((Go.Lift.cut y4.1.1 0 4) == ([(120 : UInt8), (120 : UInt8), (120 : UInt8), (0 : UInt8)] : List UInt8))
 (some (y4.2.1.2.2.2.1 == (2 : Int)))
 (some false))
 (none))
 (some false))
 (some false))
 (some false))
 (some false))
 (some false))
 (some false))
 (cond (y.2.1 == (0 : Int))
 (some false)
 (some false)))

def z7s (N : Nat) : Tab Bool := [([0, 1, 0, 1, 1, 1], z7c N)]

theorem zc7 (N : Nat) (x : z31 []) : zfw (z2v N) N (z7s N) z4q Go.Proofs.Try.f5 (mkS [] 0 x) (ze6 (.v .bool) 0) = z1j N := by kernel_rfl

def z6x (N : Nat) : List A -> Res := z2u [] (fun x => z1j N) (zf0 (.v .bool) 0)

theorem zds (N : Nat) : Contract Go.Proofs.Try.prog zq 5 (z6x N) :=
  Contract.of (E := z2v N) (H := z7s N) (L := z4q) (N := N) (body := z3a) (K := (ze6 (.v .bool) 0)) (zcx N) Go.Proofs.Try.func5 (by kernel_rfl) (by decide) (fun _ hb => (TabOk.cons (zcw hb) TabOk.nil)) (fun x y h => by rw [zc7]; exact h) (z4t (s := (.v .bool)) (m := 0))

def z3y : Code := (Go.Proofs.Try.f7.body).getD .skip

def z6h : List (List Nat × List Nat) := [([0], [0, 1, 4]), ([0, 1], [0, 5, 1, 4]), ([0, 0, 1, 1], [6, 0, 5, 1, 4]), ([0, 1, 0, 1, 1], [6, 0, 5, 1, 4]), ([0, 0, 0, 0, 1, 0, 1, 1], [10, 5, 6, 0, 1, 4]), ([1, 0, 0, 0, 1, 0, 1, 1], [5, 6, 0, 1, 4]), ([1, 1, 0, 0, 0, 1, 0, 1, 1], [1, 5, 4]), ([0, 0, 0, 1, 0, 0, 1, 0, 1, 1], [5, 7, 6, 0, 1, 4]), ([1, 0, 0, 1, 0, 0, 1, 0, 1, 1], [6, 0, 5, 1, 4]), ([0, 1, 0, 0, 1, 0, 1, 1], [6, 0, 5, 1, 4]), ([1, 1, 0, 0, 1, 0, 1, 1], [6, 0, 5, 1, 4]), ([1, 0, 1, 1], [1, 5, 4]), ([0, 1, 1, 1], [5, 4]), ([0, 1, 1, 1, 1], [4]), ([1, 1, 1, 1, 1], [4])]

def z3q (N : Nat) : Env := z7x tys zq [] [(7, (.int .u8))] [] [] false [(5, (.pair (.own .str) (.pair (.sl (.pair (.int .i64) (.pair (.int .i64) .unit))) (.pair (.int .i64) (.pair .bool .unit)))))] []

theorem zee (N : Nat) : EnvOk Go.Proofs.Try.prog (z3q N) := z1i mixed z3w (FnsOk.nil) (ItsOk.nil)

def z5l (N : Nat) (blocks : Int) (crashes : (List (Int × (Int × Unit)))) (x4 : ((List (List UInt8)) × ((List (Int × (Int × Unit))) × (Int × (Bool × Unit))))) (d : ((List (List UInt8)) × ((List (Int × (Int × Unit))) × (Int × (Bool × Unit))))) (i : Int) (rec : ((List (List UInt8)) × ((List (Int × (Int × Unit))) × (Int × (Bool × Unit)))) -> Int -> Option ((List (List UInt8)) × ((List (Int × (Int × Unit))) × (Int × (Bool × Unit))))) (k0 : ((List (List UInt8)) × ((List (Int × (Int × Unit))) × (Int × (Bool × Unit)))) -> Option ((List (List UInt8)) × ((List (Int × (Int × Unit))) × (Int × (Bool × Unit))))) : Option ((List (List UInt8)) × ((List (Int × (Int × Unit))) × (Int × (Bool × Unit)))) :=
 cond (decide (i < blocks))
 (cond (decide ((((List.length d.1) + 1) * 16) <= 70368744177664))
 (rec ((d.1 ++ ([(Go.Lift.toStr (List.replicate 128 (0 : Int)))] : List (List UInt8))), d.2) (Go.IntKind.wrap Go.IntKind.i64 (i + (1 : Int))))
 (none))
 (k0 d)

def z8h (N : Nat) (blocks : Int) (crashes : (List (Int × (Int × Unit)))) (x4 : ((List (List UInt8)) × ((List (Int × (Int × Unit))) × (Int × (Bool × Unit))))) (d : ((List (List UInt8)) × ((List (Int × (Int × Unit))) × (Int × (Bool × Unit))))) (i : Int) (k0 : ((List (List UInt8)) × ((List (Int × (Int × Unit))) × (Int × (Bool × Unit)))) -> Option ((List (List UInt8)) × ((List (Int × (Int × Unit))) × (Int × (Bool × Unit))))) : Option ((List (List UInt8)) × ((List (Int × (Int × Unit))) × (Int × (Bool × Unit)))) :=
 iter (fun (v : (((List (List UInt8)) × ((List (Int × (Int × Unit))) × (Int × (Bool × Unit)))) × Int)) r => z5l N blocks crashes x4 v.1 v.2 (fun d i => (r (d, i))) k0) N (d, i)

def z8j (N : Nat) (i : (Int × (List (Int × (Int × Unit))) × ((List (List UInt8)) × ((List (Int × (Int × Unit))) × (Int × (Bool × Unit)))))) (v : (((List (List UInt8)) × ((List (Int × (Int × Unit))) × (Int × (Bool × Unit)))) × Int)) (r : (((List (List UInt8)) × ((List (Int × (Int × Unit))) × (Int × (Bool × Unit)))) × Int) -> Option ((List (List UInt8)) × ((List (Int × (Int × Unit))) × (Int × (Bool × Unit))))) (K : Ex -> List A -> Option ((List (List UInt8)) × ((List (Int × (Int × Unit))) × (Int × (Bool × Unit))))) : Option ((List (List UInt8)) × ((List (Int × (Int × Unit))) × (Int × (Bool × Unit)))) :=
 z5l N i.1 i.2.1 i.2.2 v.1 v.2 (fun d i => (r (d, i))) (fun a2 => (K (.exit 0) (mkS [(1, .v (.sl (.pair (.int .i64) (.pair (.int .i64) .unit)))), (2, .box (.pair (.sl .str) (.pair (.sl (.pair (.int .i64) (.pair (.int .i64) .unit))) (.pair (.int .i64) (.pair .bool .unit))))), (0, .box (.pair (.own .str) (.pair (.sl (.pair (.int .i64) (.pair (.int .i64) .unit))) (.pair (.int .i64) (.pair .bool .unit)))))] 18 (i.2.1, i.2.2, a2, ()))))

def z8i (N : Nat) : Hd ((List (List UInt8)) × ((List (Int × (Int × Unit))) × (Int × (Bool × Unit)))) := fun st K => (unS [(0, .v (.int .i64)), (0, .v (.sl (.pair (.int .i64) (.pair (.int .i64) .unit)))), (2, .box (.pair (.sl .str) (.pair (.sl (.pair (.int .i64) (.pair (.int .i64) .unit))) (.pair (.int .i64) (.pair .bool .unit))))), (0, .box (.pair (.own .str) (.pair (.sl (.pair (.int .i64) (.pair (.int .i64) .unit))) (.pair (.int .i64) (.pair .bool .unit))))), (0, .v (.int .i64))] 17 (restr [6, 0, 5, 1, 4] 0 st)).bind fun x => iter (fun v r => z8j N ((fun x => (x.1, x.2.1, x.2.2.1)) x) v r K) N ((fun x => (x.2.2.2.1, x.2.2.2.2.1)) x)

def zf9 (N : Nat) : Tab ((List (List UInt8)) × ((List (Int × (Int × Unit))) × (Int × (Bool × Unit)))) := []

theorem zed {N : Nat} {c : Ctx} (hb : Base Go.Proofs.Try.prog (z3q N) c) : z15 Go.Proofs.Try.prog c (zl z3y [0, 1, 0, 1, 1]) (z8i N) :=
  zg7 (s := [(0, .v (.int .i64)), (0, .v (.sl (.pair (.int .i64) (.pair (.int .i64) .unit)))), (2, .box (.pair (.sl .str) (.pair (.sl (.pair (.int .i64) (.pair (.int .i64) .unit))) (.pair (.int .i64) (.pair .bool .unit))))), (0, .box (.pair (.own .str) (.pair (.sl (.pair (.int .i64) (.pair (.int .i64) .unit))) (.pair (.int .i64) (.pair .bool .unit))))), (0, .v (.int .i64))]) (m := 17) (z8j N) [6, 0, 5, 1, 4] N (fun x => (x.1, x.2.1, x.2.2.1)) (fun x => (x.2.2.2.1, x.2.2.2.2.1)) (fun i v => (i.1, i.2.1, i.2.2, v.1, v.2, ())) (fun _ => rfl) (zn hb N (zf9 N) z6h z3y TabOk.nil [0, 0, 1, 0, 1, 1] _ rfl) (fun i v r K => by kernel_rfl)

def z2h (N : Nat) (blocks : Int) (crashes : (List (Int × (Int × Unit)))) : Option ((List (List UInt8)) × ((List (Int × (Int × Unit))) × (Int × (Bool × Unit)))) :=
 z8h N blocks crashes (([] : List (List UInt8)), (([] : List (Int × (Int × Unit))), ((0 : Int), (false, ())))) (([] : List (List UInt8)), (([] : List (Int × (Int × Unit))), ((0 : Int), (false, ())))) (0 : Int)
 (fun d => some (d.1, (crashes, (d.2.2.1, (d.2.2.2.1, d.2.2.2.2)))))

def z9s (N : Nat) : Tab ((List (List UInt8)) × ((List (Int × (Int × Unit))) × (Int × (Bool × Unit)))) := [([0, 1, 0, 1, 1], z8i N)]

theorem zdq (N : Nat) (x : z31 [(0, .v (.int .i64)), (0, .v (.sl (.pair (.int .i64) (.pair (.int .i64) .unit))))]) : zfw (z3q N) N (z9s N) z6h Go.Proofs.Try.f7 (mkS [(0, .v (.int .i64)), (0, .v (.sl (.pair (.int .i64) (.pair (.int .i64) .unit))))] 0 x) (ze6 (.v (.pair (.sl .str) (.pair (.sl (.pair (.int .i64) (.pair (.int .i64) .unit))) (.pair (.int .i64) (.pair .bool .unit))))) 2) = z2h N x.1 x.2.1 := by kernel_rfl

def z7r (N : Nat) : List A -> Res := z2u [(0, .v (.int .i64)), (0, .v (.sl (.pair (.int .i64) (.pair (.int .i64) .unit))))] (fun x => z2h N x.1 x.2.1) (zf0 (.v (.pair (.sl .str) (.pair (.sl (.pair (.int .i64) (.pair (.int .i64) .unit))) (.pair (.int .i64) (.pair .bool .unit))))) 2)

theorem zfa (N : Nat) : Contract Go.Proofs.Try.prog zq 7 (z7r N) :=
  Contract.of (E := z3q N) (H := z9s N) (L := z6h) (N := N) (body := z3y) (K := (ze6 (.v (.pair (.sl .str) (.pair (.sl (.pair (.int .i64) (.pair (.int .i64) .unit))) (.pair (.int .i64) (.pair .bool .unit))))) 2)) (zee N) Go.Proofs.Try.func7 (by kernel_rfl) (by decide) (fun _ hb => (TabOk.cons (zed hb) TabOk.nil)) (fun x y h => by rw [zdq]; exact h) (z4t (s := (.v (.pair (.sl .str) (.pair (.sl (.pair (.int .i64) (.pair (.int .i64) .unit))) (.pair (.int .i64) (.pair .bool .unit)))))) (m := 2))

def zc9 : Code := (Go.Proofs.Try.f9.body).getD .skip

def z7u : List (List Nat × List Nat) := [([0], [0]), ([0, 0, 1], [6, 0]), ([1, 0, 1], [0]), ([0, 0, 1, 0, 1], [2]), ([1, 0, 1, 0, 1], [2]), ([0, 1, 1], [0, 3]), ([0, 1, 1, 1], [2]), ([1, 1, 1, 1], [2])]

def z4r (N : Nat) : Env := z7x tys zq [] [] [] [] false [] []

theorem zcy (N : Nat) : EnvOk Go.Proofs.Try.prog (z4r N) := z1i mixed z3w (FnsOk.nil) (ItsOk.nil)

def z18 (N : Nat) (s : (List UInt8)) : Option (List UInt8) :=
 cond (decide ((128 : Int) < (((List.length s) : Nat) : Int)))
 (some s)
 (cond (decide (((0 : Int) <= (Go.IntKind.wrap Go.IntKind.i64 ((128 : Int) - (((List.length s) : Nat) : Int)))) /\ (((Go.IntKind.wrap Go.IntKind.i64 ((128 : Int) - (((List.length s) : Nat) : Int))) <= (Go.IntKind.wrap Go.IntKind.i64 ((128 : Int) - (((List.length s) : Nat) : Int)))) /\ ((((Go.IntKind.wrap Go.IntKind.i64 ((128 : Int) - (((List.length s) : Nat) : Int))) * (1 : Int)) <= (281474976710656 : Int)) /\ ((Go.IntKind.wrap Go.IntKind.i64 ((128 : Int) - (((List.length s) : Nat) : Int))) <= (9223372036854775807 : Int))))))
 (cond (decide (((List.length s) + (List.length (Go.Lift.toStr (List.replicate (Int.toNat (Go.IntKind.wrap Go.IntKind.i64 ((128 : Int) - (((List.length s) : Nat) : Int)))) (0 : Int))))) <= 9223372036854775807))
 (some (s ++ (Go.Lift.toStr (List.replicate (Int.toNat (Go.IntKind.wrap Go.IntKind.i64 ((128 : Int) - (((List.length s) : Nat) : Int)))) (0 : Int)))))
 (none))
 (none))

def z7t (N : Nat) : Tab (List UInt8) := []

theorem zc8 (N : Nat) (x : z31 [(0, .v .str)]) : zfw (z4r N) N (z7t N) z7u Go.Proofs.Try.f9 (mkS [(0, .v .str)] 0 x) (ze6 (.v .str) 1) = z18 N x.1 := by kernel_rfl

def z6y (N : Nat) : List A -> Res := z2u [(0, .v .str)] (fun x => z18 N x.1) (zf0 (.v .str) 1)

theorem zdt (N : Nat) : Contract Go.Proofs.Try.prog zq 9 (z6y N) :=
  Contract.of (E := z4r N) (H := z7t N) (L := z7u) (N := N) (body := zc9) (K := (ze6 (.v .str) 1)) (zcy N) Go.Proofs.Try.func9 (by kernel_rfl) (by decide) (fun _ hb => TabOk.nil) (fun x y h => by rw [zc8]; exact h) (z4t (s := (.v .str)) (m := 1))

def zi : Code := (Go.Proofs.Try.f8.body).getD .skip

def z17 : List (List Nat × List Nat) := [([0], [3, 6, 1, 2]), ([0, 0, 1], [13, 3, 6, 1, 2]), ([1, 0, 1], [1, 3, 2, 6]), ([0, 0, 1, 0, 1], [6, 7]), ([1, 0, 1, 0, 1], [6, 7]), ([0, 0, 1, 1], [28, 3, 6, 1, 2]), ([1, 0, 1, 1], [3, 1, 2, 6]), ([0, 0, 1, 0, 1, 1], [6, 7]), ([1, 0, 1, 0, 1, 1], [6, 7]), ([0, 1, 1, 1], [3, 1, 2, 8, 9, 6]), ([0, 0, 1, 1, 1, 1], [10, 3, 1, 2, 8, 9, 6]), ([0, 1, 0, 1, 1, 1, 1], [10, 3, 1, 2, 8, 9, 6]), ([0, 0, 0, 0, 1, 0, 1, 1, 1, 1], [35, 3, 10, 1, 2, 6, 8, 9]), ([1, 0, 0, 0, 1, 0, 1, 1, 1, 1], [3, 10, 1, 2, 6, 8, 9]), ([1, 1, 0, 0, 0, 1, 0, 1, 1, 1, 1], [3, 1, 2, 8, 9, 6]), ([0, 0, 0, 1, 0, 0, 1, 0, 1, 1, 1, 1], [46, 3, 10, 1, 2, 6, 8, 9]), ([1, 0, 0, 1, 0, 0, 1, 0, 1, 1, 1, 1], [10, 3, 1, 2, 8, 9, 6]), ([0, 0, 1, 0, 0, 1, 0, 0, 1, 0, 1, 1, 1, 1], [10, 3, 1, 2, 8, 6]), ([1, 0, 1, 0, 0, 1, 0, 0, 1, 0, 1, 1, 1, 1], [10, 3, 1, 2, 8, 9, 6]), ([0, 1, 0, 0, 1, 0, 1, 1, 1, 1], [10, 3, 1, 2, 8, 9, 6]), ([1, 1, 0, 0, 1, 0, 1, 1, 1, 1], [10, 3, 1, 2, 8, 9, 6]), ([1, 0, 1, 1, 1, 1], [3, 1, 2, 8, 9, 6]), ([0, 1, 1, 1, 1, 1], [11, 1, 2, 8, 3, 9, 6]), ([0, 1, 1, 1, 1, 1, 1], [11, 3, 9, 6]), ([0, 1, 1, 1, 1, 1, 1, 1], [6, 7]), ([1, 1, 1, 1, 1, 1, 1, 1], [6, 7])]

def zy (N : Nat) : Env := z7x tys zq [] [(11, .str)] [] [] false [] []

theorem zb0 (N : Nat) : EnvOk Go.Proofs.Try.prog (zy N) := z1i mixed z3w (FnsOk.nil) (ItsOk.nil)

def z38 (N : Nat) (at_ : Int) (block : (List UInt8)) (d : ((List (List UInt8)) × ((List (Int × (Int × Unit))) × (Int × (Bool × Unit))))) (x6 : ((List (List UInt8)) × ((List (Int × (Int × Unit))) × (Int × (Bool × Unit))))) (k0 : Bool -> Option (((List (List UInt8)) × ((List (Int × (Int × Unit))) × (Int × (Bool × Unit)))) × Int × Unit)) : Option (((List (List UInt8)) × ((List (Int × (Int × Unit))) × (Int × (Bool × Unit)))) × Int × Unit) :=
 cond (decide (at_ < (0 : Int)))
 (k0 true)
 (cond (decide ((((List.length d.1) : Nat) : Int) <= at_))
 (k0 true)
 (k0 ((((List.length block) : Nat) : Int) != (128 : Int))))

def z64 (N : Nat) (x : z31 [(1, .v (.int .i64)), (0, .v .str), (0, .box (.pair (.sl .str) (.pair (.sl (.pair (.int .i64) (.pair (.int .i64) .unit))) (.pair (.int .i64) (.pair .bool .unit))))), (2, .box (.pair (.sl .str) (.pair (.sl (.pair (.int .i64) (.pair (.int .i64) .unit))) (.pair (.int .i64) (.pair .bool .unit)))))]) (K : Ex -> List A -> Option (((List (List UInt8)) × ((List (Int × (Int × Unit))) × (Int × (Bool × Unit)))) × Int × Unit)) : Option (((List (List UInt8)) × ((List (Int × (Int × Unit))) × (Int × (Bool × Unit)))) × Int × Unit) :=
 z38 N x.1 x.2.1 x.2.2.1 x.2.2.2.1 (fun a4 => (K .normal (mkS [(1, .v (.int .i64)), (0, .v .str), (0, .box (.pair (.sl .str) (.pair (.sl (.pair (.int .i64) (.pair (.int .i64) .unit))) (.pair (.int .i64) (.pair .bool .unit))))), (2, .box (.pair (.sl .str) (.pair (.sl (.pair (.int .i64) (.pair (.int .i64) .unit))) (.pair (.int .i64) (.pair .bool .unit))))), (21, .v .bool)] 53 (x.1, x.2.1, x.2.2.1, x.2.2.2.1, a4, ()))))

def z60 (N : Nat) : Hd (((List (List UInt8)) × ((List (Int × (Int × Unit))) × (Int × (Bool × Unit)))) × Int × Unit) := fun st K => (unS [(1, .v (.int .i64)), (0, .v .str), (0, .box (.pair (.sl .str) (.pair (.sl (.pair (.int .i64) (.pair (.int .i64) .unit))) (.pair (.int .i64) (.pair .bool .unit))))), (2, .box (.pair (.sl .str) (.pair (.sl (.pair (.int .i64) (.pair (.int .i64) .unit))) (.pair (.int .i64) (.pair .bool .unit)))))] 75 (restr [1, 3, 2, 6] 0 st)).bind fun x => z64 N x K

def zc1 (N : Nat) : Tab (((List (List UInt8)) × ((List (Int × (Int × Unit))) × (Int × (Bool × Unit)))) × Int × Unit) := []

theorem zay {N : Nat} {c : Ctx} (hb : Base Go.Proofs.Try.prog (zy N) c) : z15 Go.Proofs.Try.prog c (zl zi [0, 0, 1, 1]) (z60 N) :=
  z1h (s := [(1, .v (.int .i64)), (0, .v .str), (0, .box (.pair (.sl .str) (.pair (.sl (.pair (.int .i64) (.pair (.int .i64) .unit))) (.pair (.int .i64) (.pair .bool .unit))))), (2, .box (.pair (.sl .str) (.pair (.sl (.pair (.int .i64) (.pair (.int .i64) .unit))) (.pair (.int .i64) (.pair .bool .unit)))))]) (m := 75) (g := z64 N) [1, 3, 2, 6] (zn hb N (zc1 N) z17 zi TabOk.nil [0, 0, 1, 1] _ rfl) (fun x K => by kernel_rfl)

def z39 (N : Nat) (at_ : Int) (block : (List UInt8)) (d : ((List (List UInt8)) × ((List (Int × (Int × Unit))) × (Int × (Bool × Unit))))) (x6 : ((List (List UInt8)) × ((List (Int × (Int × Unit))) × (Int × (Bool × Unit))))) (k0 : Int -> Option (((List (List UInt8)) × ((List (Int × (Int × Unit))) × (Int × (Bool × Unit)))) × Int × Unit)) (k1 : Option (((List (List UInt8)) × ((List (Int × (Int × Unit))) × (Int × (Bool × Unit)))) × Int × Unit)) : Option (((List (List UInt8)) × ((List (Int × (Int × Unit))) × (Int × (Bool × Unit)))) × Int × Unit) :=
 z38 N at_ block d x6
 (fun x28 => cond x28
 (k0 (7 : Int))
 (k1))

def z65 (N : Nat) (x : z31 [(1, .v (.int .i64)), (0, .v .str), (0, .box (.pair (.sl .str) (.pair (.sl (.pair (.int .i64) (.pair (.int .i64) .unit))) (.pair (.int .i64) (.pair .bool .unit))))), (2, .box (.pair (.sl .str) (.pair (.sl (.pair (.int .i64) (.pair (.int .i64) .unit))) (.pair (.int .i64) (.pair .bool .unit)))))]) (K : Ex -> List A -> Option (((List (List UInt8)) × ((List (Int × (Int × Unit))) × (Int × (Bool × Unit)))) × Int × Unit)) : Option (((List (List UInt8)) × ((List (Int × (Int × Unit))) × (Int × (Bool × Unit)))) × Int × Unit) :=
 z39 N x.1 x.2.1 x.2.2.1 x.2.2.2.1 (fun a1 => (K .ret (mkS [(6, .box (.pair (.sl .str) (.pair (.sl (.pair (.int .i64) (.pair (.int .i64) .unit))) (.pair (.int .i64) (.pair .bool .unit))))), (0, .v (.int .i64))] 74 (x.2.2.1, a1, ())))) (K .normal (mkS [(1, .v (.int .i64)), (0, .v .str), (0, .box (.pair (.sl .str) (.pair (.sl (.pair (.int .i64) (.pair (.int .i64) .unit))) (.pair (.int .i64) (.pair .bool .unit))))), (2, .box (.pair (.sl .str) (.pair (.sl (.pair (.int .i64) (.pair (.int .i64) .unit))) (.pair (.int .i64) (.pair .bool .unit)))))] 75 (x.1, x.2.1, x.2.2.1, x.2.2.2.1, ())))

def z61 (N : Nat) : Hd (((List (List UInt8)) × ((List (Int × (Int × Unit))) × (Int × (Bool × Unit)))) × Int × Unit) := fun st K => (unS [(1, .v (.int .i64)), (0, .v .str), (0, .box (.pair (.sl .str) (.pair (.sl (.pair (.int .i64) (.pair (.int .i64) .unit))) (.pair (.int .i64) (.pair .bool .unit))))), (2, .box (.pair (.sl .str) (.pair (.sl (.pair (.int .i64) (.pair (.int .i64) .unit))) (.pair (.int .i64) (.pair .bool .unit)))))] 75 (restr [1, 3, 2, 6] 0 st)).bind fun x => z65 N x K

def zc2 (N : Nat) : Tab (((List (List UInt8)) × ((List (Int × (Int × Unit))) × (Int × (Bool × Unit)))) × Int × Unit) := [([0, 0, 1, 1], z60 N)]

theorem zaz {N : Nat} {c : Ctx} (hb : Base Go.Proofs.Try.prog (zy N) c) : z15 Go.Proofs.Try.prog c (zl zi [0, 1, 1]) (z61 N) :=
  z1h (s := [(1, .v (.int .i64)), (0, .v .str), (0, .box (.pair (.sl .str) (.pair (.sl (.pair (.int .i64) (.pair (.int .i64) .unit))) (.pair (.int .i64) (.pair .bool .unit))))), (2, .box (.pair (.sl .str) (.pair (.sl (.pair (.int .i64) (.pair (.int .i64) .unit))) (.pair (.int .i64) (.pair .bool .unit)))))]) (m := 75) (g := z65 N) [1, 3, 2, 6] (zn hb N (zc2 N) z17 zi (TabOk.cons (zay hb) TabOk.nil) [0, 1, 1] _ rfl) (fun x K => by kernel_rfl)

def z36 (N : Nat) (at_ : Int) (block : (List UInt8)) (d : ((List (List UInt8)) × ((List (Int × (Int × Unit))) × (Int × (Bool × Unit))))) (x6 : ((List (List UInt8)) × ((List (Int × (Int × Unit))) × (Int × (Bool × Unit))))) (keep : Int) (e : Int) (i : Int) (k0 : Int -> Int -> Option (((List (List UInt8)) × ((List (Int × (Int × Unit))) × (Int × (Bool × Unit)))) × Int × Unit)) : Option (((List (List UInt8)) × ((List (Int × (Int × Unit))) × (Int × (Bool × Unit)))) × Int × Unit) :=
 cond (Go.Lift.inR i (List.length d.2.1))
 (cond ((List.getD d.2.1 (Int.toNat i) ((0 : Int), ((0 : Int), ()))).1 == d.2.2.1)
 (cond (Go.Lift.inR i (List.length d.2.1))
 (k0 (if ((if ((List.getD d.2.1 (Int.toNat i) ((0 : Int), ((0 : Int), ()))).2.1 < (128 : Int)) then (List.getD d.2.1 (Int.toNat i) ((0 : Int), ((0 : Int), ()))).2.1 else (128 : Int)) > (0 : Int)) then (if ((List.getD d.2.1 (Int.toNat i) ((0 : Int), ((0 : Int), ()))).2.1 < (128 : Int)) then (List.getD d.2.1 (Int.toNat i) ((0 : Int), ((0 : Int), ()))).2.1 else (128 : Int)) else (0 : Int)) (20 : Int))
 (none))
 (k0 keep e))
 (none)

def z62 (N : Nat) (x : z31 [(1, .v (.int .i64)), (0, .v .str), (0, .box (.pair (.sl .str) (.pair (.sl (.pair (.int .i64) (.pair (.int .i64) .unit))) (.pair (.int .i64) (.pair .bool .unit))))), (2, .box (.pair (.sl .str) (.pair (.sl (.pair (.int .i64) (.pair (.int .i64) .unit))) (.pair (.int .i64) (.pair .bool .unit))))), (1, .v (.int .i64)), (0, .v (.int .i64)), (0, .v (.int .i64))]) (K : Ex -> List A -> Option (((List (List UInt8)) × ((List (Int × (Int × Unit))) × (Int × (Bool × Unit)))) × Int × Unit)) : Option (((List (List UInt8)) × ((List (Int × (Int × Unit))) × (Int × (Bool × Unit)))) × Int × Unit) :=
 z36 N x.1 x.2.1 x.2.2.1 x.2.2.2.1 x.2.2.2.2.1 x.2.2.2.2.2.1 x.2.2.2.2.2.2.1 (fun a4 a5 => (K .normal (mkS [(1, .v (.int .i64)), (0, .v .str), (0, .box (.pair (.sl .str) (.pair (.sl (.pair (.int .i64) (.pair (.int .i64) .unit))) (.pair (.int .i64) (.pair .bool .unit))))), (2, .box (.pair (.sl .str) (.pair (.sl (.pair (.int .i64) (.pair (.int .i64) .unit))) (.pair (.int .i64) (.pair .bool .unit))))), (1, .v (.int .i64)), (0, .v (.int .i64)), (0, .v (.int .i64))] 71 (x.1, x.2.1, x.2.2.1, x.2.2.2.1, a4, a5, x.2.2.2.2.2.2.1, ()))))

def z5y (N : Nat) : Hd (((List (List UInt8)) × ((List (Int × (Int × Unit))) × (Int × (Bool × Unit)))) × Int × Unit) := fun st K => (unS [(1, .v (.int .i64)), (0, .v .str), (0, .box (.pair (.sl .str) (.pair (.sl (.pair (.int .i64) (.pair (.int .i64) .unit))) (.pair (.int .i64) (.pair .bool .unit))))), (2, .box (.pair (.sl .str) (.pair (.sl (.pair (.int .i64) (.pair (.int .i64) .unit))) (.pair (.int .i64) (.pair .bool .unit))))), (1, .v (.int .i64)), (0, .v (.int .i64)), (0, .v (.int .i64))] 71 (restr [3, 10, 1, 2, 6, 8, 9] 0 st)).bind fun x => z62 N x K

def zbz (N : Nat) : Tab (((List (List UInt8)) × ((List (Int × (Int × Unit))) × (Int × (Bool × Unit)))) × Int × Unit) := []

theorem zaw {N : Nat} {c : Ctx} (hb : Base Go.Proofs.Try.prog (zy N) c) : z15 Go.Proofs.Try.prog c (zl zi [0, 1, 0, 0, 1, 0, 1, 1, 1, 1]) (z5y N) :=
  z1h (s := [(1, .v (.int .i64)), (0, .v .str), (0, .box (.pair (.sl .str) (.pair (.sl (.pair (.int .i64) (.pair (.int .i64) .unit))) (.pair (.int .i64) (.pair .bool .unit))))), (2, .box (.pair (.sl .str) (.pair (.sl (.pair (.int .i64) (.pair (.int .i64) .unit))) (.pair (.int .i64) (.pair .bool .unit))))), (1, .v (.int .i64)), (0, .v (.int .i64)), (0, .v (.int .i64))]) (m := 71) (g := z62 N) [3, 10, 1, 2, 6, 8, 9] (zn hb N (zbz N) z17 zi TabOk.nil [0, 1, 0, 0, 1, 0, 1, 1, 1, 1] _ rfl) (fun x K => by kernel_rfl)

def z35 (N : Nat) (at_ : Int) (block : (List UInt8)) (d : ((List (List UInt8)) × ((List (Int × (Int × Unit))) × (Int × (Bool × Unit))))) (x6 : ((List (List UInt8)) × ((List (Int × (Int × Unit))) × (Int × (Bool × Unit))))) (keep : Int) (e : Int) (i : Int) (rec : Int -> Int -> Int -> Option (((List (List UInt8)) × ((List (Int × (Int × Unit))) × (Int × (Bool × Unit)))) × Int × Unit)) (k0 : Int -> Int -> Option (((List (List UInt8)) × ((List (Int × (Int × Unit))) × (Int × (Bool × Unit)))) × Int × Unit)) : Option (((List (List UInt8)) × ((List (Int × (Int × Unit))) × (Int × (Bool × Unit)))) × Int × Unit) :=
 cond (decide ((0 : Int) <= i))
 (z36 N at_ block d x6 keep e i
 (fun keep1 e1 => rec keep1 e1 (Go.IntKind.wrap Go.IntKind.i64 (i - (1 : Int)))))
 (k0 keep e)

def z37 (N : Nat) (at_ : Int) (block : (List UInt8)) (d : ((List (List UInt8)) × ((List (Int × (Int × Unit))) × (Int × (Bool × Unit))))) (x6 : ((List (List UInt8)) × ((List (Int × (Int × Unit))) × (Int × (Bool × Unit))))) (keep : Int) (e : Int) (i : Int) (k0 : Int -> Int -> Option (((List (List UInt8)) × ((List (Int × (Int × Unit))) × (Int × (Bool × Unit)))) × Int × Unit)) : Option (((List (List UInt8)) × ((List (Int × (Int × Unit))) × (Int × (Bool × Unit)))) × Int × Unit) :=
 iter (fun (v : (Int × Int × Int)) r => z35 N at_ block d x6 v.1 v.2.1 v.2.2 (fun keep e i => (r (keep, e, i))) k0) N (keep, e, i)

def z63 (N : Nat) (i : (Int × (List UInt8) × ((List (List UInt8)) × ((List (Int × (Int × Unit))) × (Int × (Bool × Unit)))) × ((List (List UInt8)) × ((List (Int × (Int × Unit))) × (Int × (Bool × Unit)))))) (v : (Int × Int × Int)) (r : (Int × Int × Int) -> Option (((List (List UInt8)) × ((List (Int × (Int × Unit))) × (Int × (Bool × Unit)))) × Int × Unit)) (K : Ex -> List A -> Option (((List (List UInt8)) × ((List (Int × (Int × Unit))) × (Int × (Bool × Unit)))) × Int × Unit)) : Option (((List (List UInt8)) × ((List (Int × (Int × Unit))) × (Int × (Bool × Unit)))) × Int × Unit) :=
 z35 N i.1 i.2.1 i.2.2.1 i.2.2.2 v.1 v.2.1 v.2.2 (fun keep e i => (r (keep, e, i))) (fun a4 a5 => (K (.exit 0) (mkS [(1, .v (.int .i64)), (0, .v .str), (0, .box (.pair (.sl .str) (.pair (.sl (.pair (.int .i64) (.pair (.int .i64) .unit))) (.pair (.int .i64) (.pair .bool .unit))))), (2, .box (.pair (.sl .str) (.pair (.sl (.pair (.int .i64) (.pair (.int .i64) .unit))) (.pair (.int .i64) (.pair .bool .unit))))), (1, .v (.int .i64)), (0, .v (.int .i64))] 72 (i.1, i.2.1, i.2.2.1, i.2.2.2, a4, a5, ()))))

def z5z (N : Nat) : Hd (((List (List UInt8)) × ((List (Int × (Int × Unit))) × (Int × (Bool × Unit)))) × Int × Unit) := fun st K => (unS [(1, .v (.int .i64)), (0, .v .str), (0, .box (.pair (.sl .str) (.pair (.sl (.pair (.int .i64) (.pair (.int .i64) .unit))) (.pair (.int .i64) (.pair .bool .unit))))), (2, .box (.pair (.sl .str) (.pair (.sl (.pair (.int .i64) (.pair (.int .i64) .unit))) (.pair (.int .i64) (.pair .bool .unit))))), (1, .v (.int .i64)), (0, .v (.int .i64)), (0, .v (.int .i64))] 71 (restr [10, 3, 1, 2, 8, 9, 6] 0 st)).bind fun x => iter (fun v r => z63 N ((fun x => (x.1, x.2.1, x.2.2.1, x.2.2.2.1)) x) v r K) N ((fun x => (x.2.2.2.2.1, x.2.2.2.2.2.1, x.2.2.2.2.2.2.1)) x)

def zc0 (N : Nat) : Tab (((List (List UInt8)) × ((List (Int × (Int × Unit))) × (Int × (Bool × Unit)))) × Int × Unit) := [([0, 1, 0, 0, 1, 0, 1, 1, 1, 1], z5y N)]

theorem zax {N : Nat} {c : Ctx} (hb : Base Go.Proofs.Try.prog (zy N) c) : z15 Go.Proofs.Try.prog c (zl zi [0, 1, 0, 1, 1, 1, 1]) (z5z N) :=
  zg7 (s := [(1, .v (.int .i64)), (0, .v .str), (0, .box (.pair (.sl .str) (.pair (.sl (.pair (.int .i64) (.pair (.int .i64) .unit))) (.pair (.int .i64) (.pair .bool .unit))))), (2, .box (.pair (.sl .str) (.pair (.sl (.pair (.int .i64) (.pair (.int .i64) .unit))) (.pair (.int .i64) (.pair .bool .unit))))), (1, .v (.int .i64)), (0, .v (.int .i64)), (0, .v (.int .i64))]) (m := 71) (z63 N) [10, 3, 1, 2, 8, 9, 6] N (fun x => (x.1, x.2.1, x.2.2.1, x.2.2.2.1)) (fun x => (x.2.2.2.2.1, x.2.2.2.2.2.1, x.2.2.2.2.2.2.1)) (fun i v => (i.1, i.2.1, i.2.2.1, i.2.2.2, v.1, v.2.1, v.2.2, ())) (fun _ => rfl) (zn hb N (zc0 N) z17 zi (TabOk.cons (zaw hb) TabOk.nil) [0, 0, 1, 0, 1, 1, 1, 1] _ rfl) (fun i v r K => by kernel_rfl)

def z26 (N : Nat) (d : ((List (List UInt8)) × ((List (Int × (Int × Unit))) × (Int × (Bool × Unit))))) (at_ : Int) (block : (List UInt8)) : Option (((List (List UInt8)) × ((List (Int × (Int × Unit))) × (Int × (Bool × Unit)))) × Int × Unit) :=
 cond d.2.2.2.1
 (some (d, ((20 : Int), ())))
 (z39 N at_ block d (([] : List (List UInt8)), (([] : List (Int × (Int × Unit))), ((0 : Int), (false, ()))))
 (fun x7 => some (d, (x7, ())))
 (z37 N at_ block d (([] : List (List UInt8)), (([] : List (Int × (Int × Unit))), ((0 : Int), (false, ())))) (128 : Int) (0 : Int) (Go.IntKind.wrap Go.IntKind.i64 ((((List.length d.2.1) : Nat) : Int) - (1 : Int)))
 (fun keep e => cond (decide (((0 + (List.length d.1)) * 16) <= 70368744177664))
 (cond (decide (((0 : Int) <= keep) /\ (keep <= (((List.length block) : Nat) : Int))))
 (cond (Go.Lift.inR at_ (List.length (([] : List (List UInt8)) ++ d.1)))
 (cond (decide ((Int.toNat at_) < (List.length (([] : List (List UInt8)) ++ d.1))))
 (cond (decide (((0 : Int) <= keep) /\ (keep <= (((List.length (List.getD (([] : List (List UInt8)) ++ d.1) (Int.toNat at_) ([] : List UInt8))) : Nat) : Int))))
 (cond (decide (((List.length (Go.Lift.cut block 0 (Int.toNat keep))) + (List.length (Go.Lift.cut (List.getD (([] : List (List UInt8)) ++ d.1) (Int.toNat at_) ([] : List UInt8)) (Int.toNat keep) (List.length (List.getD (([] : List (List UInt8)) ++ d.1) (Int.toNat at_) ([] : List UInt8)))))) <= 9223372036854775807))
 (cond (Go.Lift.inR at_ (List.length (([] : List (List UInt8)) ++ d.1)))
 (cond (decide ((Int.toNat at_) < (List.length (([] : List (List UInt8)) ++ d.1))))
 (some (((List.set (([] : List (List UInt8)) ++ d.1) (Int.toNat at_) ((Go.Lift.cut block 0 (Int.toNat keep)) ++ (Go.Lift.cut (List.getD (([] : List (List UInt8)) ++ d.1) (Int.toNat at_) ([] : List UInt8)) (Int.toNat keep) (List.length (List.getD (([] : List (List UInt8)) ++ d.1) (Int.toNat at_) ([] : List UInt8)))))), (d.2.1, ((Go.IntKind.wrap Go.IntKind.i64 (d.2.2.1 + (1 : Int))), ((e != (0 : Int)), ())))), (e, ())))
 (none))
 (none))
 (none))
 (none))
 (none))
 (none))
 (none))
 (none))))

def z6s (N : Nat) : Tab (((List (List UInt8)) × ((List (Int × (Int × Unit))) × (Int × (Bool × Unit)))) × Int × Unit) := [([0, 1, 1], z61 N), ([0, 1, 0, 1, 1, 1, 1], z5z N)]

theorem z9t (N : Nat) (x : z31 [(0, .v (.pair (.sl .str) (.pair (.sl (.pair (.int .i64) (.pair (.int .i64) .unit))) (.pair (.int .i64) (.pair .bool .unit))))), (0, .v (.int .i64)), (0, .v .str)]) : zfw (zy N) N (z6s N) z17 Go.Proofs.Try.f8 (mkS [(0, .v (.pair (.sl .str) (.pair (.sl (.pair (.int .i64) (.pair (.int .i64) .unit))) (.pair (.int .i64) (.pair .bool .unit))))), (0, .v (.int .i64)), (0, .v .str)] 0 x) (ze6 (.tup [(.pair (.sl .str) (.pair (.sl (.pair (.int .i64) (.pair (.int .i64) .unit))) (.pair (.int .i64) (.pair .bool .unit)))), (.int .i64)]) 3) = z26 N x.1 x.2.1 x.2.2.1 := by kernel_rfl

def z5m (N : Nat) : List A -> Res := z2u [(0, .v (.pair (.sl .str) (.pair (.sl (.pair (.int .i64) (.pair (.int .i64) .unit))) (.pair (.int .i64) (.pair .bool .unit))))), (0, .v (.int .i64)), (0, .v .str)] (fun x => z26 N x.1 x.2.1 x.2.2.1) (zf0 (.tup [(.pair (.sl .str) (.pair (.sl (.pair (.int .i64) (.pair (.int .i64) .unit))) (.pair (.int .i64) (.pair .bool .unit)))), (.int .i64)]) 3)

theorem zc3 (N : Nat) : Contract Go.Proofs.Try.prog zq 8 (z5m N) :=
  Contract.of (E := zy N) (H := z6s N) (L := z17) (N := N) (body := zi) (K := (ze6 (.tup [(.pair (.sl .str) (.pair (.sl (.pair (.int .i64) (.pair (.int .i64) .unit))) (.pair (.int .i64) (.pair .bool .unit)))), (.int .i64)]) 3)) (zb0 N) Go.Proofs.Try.func8 (by kernel_rfl) (by decide) (fun _ hb => (TabOk.cons (zaz hb) (TabOk.cons (zax hb) TabOk.nil))) (fun x y h => by rw [z9t]; exact h) (z4t (s := (.tup [(.pair (.sl .str) (.pair (.sl (.pair (.int .i64) (.pair (.int .i64) .unit))) (.pair (.int .i64) (.pair .bool .unit)))), (.int .i64)])) (m := 3))

def z1e : Code := (Go.Proofs.Try.f12.body).getD .skip

def z2g : List (List Nat × List Nat) := [([0], [2, 1]), ([0, 0, 1], [7, 1, 2]), ([1, 0, 1], [1, 2]), ([0, 0, 1, 0, 1], [4, 5]), ([1, 0, 1, 0, 1], [4, 5]), ([0, 0, 1, 1], [16, 2, 1]), ([1, 0, 1, 1], [2, 1]), ([0, 0, 1, 0, 1, 1], [4, 5]), ([1, 0, 1, 0, 1, 1], [4, 5]), ([0, 1, 1, 1], [4, 5]), ([1, 1, 1, 1], [4, 5])]

def z1z (N : Nat) : Env := z7x tys zq [] [] [] [] false [] []

theorem zc6 (N : Nat) : EnvOk Go.Proofs.Try.prog (z1z N) := z1i mixed z3w (FnsOk.nil) (ItsOk.nil)

def z3h (N : Nat) (at_ : Int) (d : ((List (List UInt8)) × ((List (Int × (Int × Unit))) × (Int × (Bool × Unit))))) (k0 : Bool -> Option ((List UInt8) × Int × Unit)) : Option ((List UInt8) × Int × Unit) :=
 cond (decide (at_ < (0 : Int)))
 (k0 true)
 (k0 (decide ((((List.length d.1) : Nat) : Int) <= at_)))

def z6v (N : Nat) (x : z31 [(1, .v (.int .i64)), (0, .box (.pair (.sl .str) (.pair (.sl (.pair (.int .i64) (.pair (.int .i64) .unit))) (.pair (.int .i64) (.pair .bool .unit)))))]) (K : Ex -> List A -> Option ((List UInt8) × Int × Unit)) : Option ((List UInt8) × Int × Unit) :=
 z3h N x.1 x.2.1 (fun a2 => (K .normal (mkS [(1, .v (.int .i64)), (0, .box (.pair (.sl .str) (.pair (.sl (.pair (.int .i64) (.pair (.int .i64) .unit))) (.pair (.int .i64) (.pair .bool .unit))))), (13, .v .bool)] 5 (x.1, x.2.1, a2, ()))))

def z6t (N : Nat) : Hd ((List UInt8) × Int × Unit) := fun st K => (unS [(1, .v (.int .i64)), (0, .box (.pair (.sl .str) (.pair (.sl (.pair (.int .i64) (.pair (.int .i64) .unit))) (.pair (.int .i64) (.pair .bool .unit)))))] 19 (restr [1, 2] 0 st)).bind fun x => z6v N x K

def zct (N : Nat) : Tab ((List UInt8) × Int × Unit) := []

theorem zc4 {N : Nat} {c : Ctx} (hb : Base Go.Proofs.Try.prog (z1z N) c) : z15 Go.Proofs.Try.prog c (zl z1e [0, 0, 1, 1]) (z6t N) :=
  z1h (s := [(1, .v (.int .i64)), (0, .box (.pair (.sl .str) (.pair (.sl (.pair (.int .i64) (.pair (.int .i64) .unit))) (.pair (.int .i64) (.pair .bool .unit)))))]) (m := 19) (g := z6v N) [1, 2] (zn hb N (zct N) z2g z1e TabOk.nil [0, 0, 1, 1] _ rfl) (fun x K => by kernel_rfl)

def z3i (N : Nat) (at_ : Int) (d : ((List (List UInt8)) × ((List (Int × (Int × Unit))) × (Int × (Bool × Unit))))) (k0 : (List UInt8) -> Int -> Option ((List UInt8) × Int × Unit)) (k1 : Option ((List UInt8) × Int × Unit)) : Option ((List UInt8) × Int × Unit) :=
 z3h N at_ d
 (fun x16 => cond x16
 (k0 ([] : List UInt8) (7 : Int))
 (k1))

def z6w (N : Nat) (x : z31 [(1, .v (.int .i64)), (0, .box (.pair (.sl .str) (.pair (.sl (.pair (.int .i64) (.pair (.int .i64) .unit))) (.pair (.int .i64) (.pair .bool .unit)))))]) (K : Ex -> List A -> Option ((List UInt8) × Int × Unit)) : Option ((List UInt8) × Int × Unit) :=
 z3i N x.1 x.2.1 (fun a0 a1 => (K .ret (mkS [(4, .v .str), (0, .v (.int .i64))] 16 (a0, a1, ())))) (K .normal (mkS [(1, .v (.int .i64)), (0, .box (.pair (.sl .str) (.pair (.sl (.pair (.int .i64) (.pair (.int .i64) .unit))) (.pair (.int .i64) (.pair .bool .unit)))))] 19 (x.1, x.2.1, ())))

def z6u (N : Nat) : Hd ((List UInt8) × Int × Unit) := fun st K => (unS [(1, .v (.int .i64)), (0, .box (.pair (.sl .str) (.pair (.sl (.pair (.int .i64) (.pair (.int .i64) .unit))) (.pair (.int .i64) (.pair .bool .unit)))))] 19 (restr [1, 2] 0 st)).bind fun x => z6w N x K

def zcu (N : Nat) : Tab ((List UInt8) × Int × Unit) := [([0, 0, 1, 1], z6t N)]

theorem zc5 {N : Nat} {c : Ctx} (hb : Base Go.Proofs.Try.prog (z1z N) c) : z15 Go.Proofs.Try.prog c (zl z1e [0, 1, 1]) (z6u N) :=
  z1h (s := [(1, .v (.int .i64)), (0, .box (.pair (.sl .str) (.pair (.sl (.pair (.int .i64) (.pair (.int .i64) .unit))) (.pair (.int .i64) (.pair .bool .unit)))))]) (m := 19) (g := z6w N) [1, 2] (zn hb N (zcu N) z2g z1e (TabOk.cons (zc4 hb) TabOk.nil) [0, 1, 1] _ rfl) (fun x K => by kernel_rfl)

def z29 (N : Nat) (d : ((List (List UInt8)) × ((List (Int × (Int × Unit))) × (Int × (Bool × Unit))))) (at_ : Int) : Option ((List UInt8) × Int × Unit) :=
 cond d.2.2.2.1
 (some (([] : List UInt8), ((20 : Int), ())))
 (z3i N at_ d
 (fun x4 x5 => some (x4, (x5, ())))
 (cond (Go.Lift.inR at_ (List.length d.1))
 (some ((List.getD d.1 (Int.toNat at_) ([] : List UInt8)), ((0 : Int), ())))
 (none)))

def z7b (N : Nat) : Tab ((List UInt8) × Int × Unit) := [([0, 1, 1], z6u N)]

theorem zb1 (N : Nat) (x : z31 [(0, .v (.pair (.sl .str) (.pair (.sl (.pair (.int .i64) (.pair (.int .i64) .unit))) (.pair (.int .i64) (.pair .bool .unit))))), (0, .v (.int .i64))]) : zfw (z1z N) N (z7b N) z2g Go.Proofs.Try.f12 (mkS [(0, .v (.pair (.sl .str) (.pair (.sl (.pair (.int .i64) (.pair (.int .i64) .unit))) (.pair (.int .i64) (.pair .bool .unit))))), (0, .v (.int .i64))] 0 x) (ze6 (.tup [.str, (.int .i64)]) 2) = z29 N x.1 x.2.1 := by kernel_rfl

def z66 (N : Nat) : List A -> Res := z2u [(0, .v (.pair (.sl .str) (.pair (.sl (.pair (.int .i64) (.pair (.int .i64) .unit))) (.pair (.int .i64) (.pair .bool .unit))))), (0, .v (.int .i64))] (fun x => z29 N x.1 x.2.1) (zf0 (.tup [.str, (.int .i64)]) 2)

theorem zcv (N : Nat) : Contract Go.Proofs.Try.prog zq 12 (z66 N) :=
  Contract.of (E := z1z N) (H := z7b N) (L := z2g) (N := N) (body := z1e) (K := (ze6 (.tup [.str, (.int .i64)]) 2)) (zc6 N) Go.Proofs.Try.func12 (by kernel_rfl) (by decide) (fun _ hb => (TabOk.cons (zc5 hb) TabOk.nil)) (fun x y h => by rw [zb1]; exact h) (z4t (s := (.tup [.str, (.int .i64)])) (m := 2))

abbrev BlT : T := .arr 128 (.int .u8)

abbrev DkT : T := .pair (.own BlT) (.pair (.mp (.int .i64) (.int .i64)) (.pair .bool (.pair (.int .i64) .unit)))

def zv3 : Go.Shelf.Ren := ⟨fun | 41 => 19 | n => n, fun | 4 => 4 | 22 => 46 | 23 => 54 | n => n, fun n => n⟩

theorem zu7 : Go.Proofs.SlLaysE0.n41 Try.prog zv3 where
  mixed := by kernel_rfl
  f41 := ⟨"slices.Clone[[][128]byte,[128]byte]", by decide, Try.func19.trans (congrArg some (by kernel_rfl))⟩
  t4 := Try.underlying4
  a4 := Try.isAgg4
  z4 := Try.sizeOf4
  v4 := Try.zeroValue4
  t22 := Try.underlying46
  a22 := Try.isAgg46
  z22 := Try.sizeOf46
  v22 := Try.zeroValue46

def zuu : Go.Shelf.Ren := ⟨fun | 5 => 20 | 7 => 21 | n => n, fun | 4 => 4 | 20 => 20 | 23 => 47 | 25 => 3 | 3 => 3 | n => n, fun n => n⟩

theorem zq5 : Go.Proofs.SlLaysW.n5 Try.prog zuu where
  mixed := by kernel_rfl
  f5 := ⟨"maps.Clone[map[int]int,int,int]", by decide, Try.func20.trans (congrArg some (by kernel_rfl))⟩
  f7 := Try.func21.trans (congrArg some (by kernel_rfl))
  t4 := Try.underlying4
  a4 := Try.isAgg4
  z4 := Try.sizeOf4
  v4 := Try.zeroValue4
  t20 := Try.underlying20
  a20 := Try.isAgg20
  z20 := Try.sizeOf20
  v20 := Try.zeroValue20
  t23 := Try.underlying47
  a23 := Try.isAgg47
  z23 := Try.sizeOf47
  v23 := Try.zeroValue47

def zif (l : List BlT.den) : Option (List BlT.den) := cond (decide (l.length * 128 <= 140737488355328)) (some l) none

def zk9 : List A -> Res := z2u [(0, .v (.sl BlT))] (fun x => zif x.1) (zf0 (.row BlT) 1)

theorem zln : Contract Try.prog zq 19 zk9 :=
  zse zu7 (ee := ty54) zp8 (by decide) (by decide) zq

theorem zmd (S : Hp) : GlobOk zq S := fun g d h => by cases h

theorem zp0 {w : World} {S : Hp} {a : A} {v : Value} (h : ARel (hp w) S (fun _ => undef) a v []) (hr : a.refs = []) : ArgsRel (hp w) S [a] [v] (fun _ => []) := by
  refine ⟨rfl, fun i y hy => ?_, fun _ _ => rfl, (fun i j b hb => by cases hb), fun _ => .nil, (fun i b hb => by cases hb)⟩
  cases i with
  | zero => simp at hy; subst hy; exact ⟨⟨v, rfl, h⟩, hr⟩
  | succ i => simp at hy

theorem zsj {h S S' : Hp} {xs : List BlT.den} {v : Value} {o : List Nat} (hx : RowRel h S BlT xs v o) : RowRel h S' BlT xs v o := by
  rcases hx with hx | ⟨b, cap, cs, E, fr, e, e1, e2, h1, h2, h3, h4, h5⟩
  . exact .inl hx
  . exact .inr ⟨b, cap, cs, E, fr, e, e1, e2, h1, h2, h3, All.mono (fun x ds ⟨g1, g2⟩ => ⟨g1, All.mono (fun y es (h : es = _) => h) _ _ g2⟩) _ _ h4, h5⟩

theorem zih {w : World} {S : Hp} {bl : List BlT.den} {sv : Value} {p1 : List Nat} (hS : Lift.Sub S (hp w)) (hrow : RowRel (hp w) S BlT bl sv p1) (hn : ∀ k ∈ p1, S k = none) (hsz : bl.length * 128 <= 140737488355328) :
    Calls Try.prog 19 #[sv] w fun e w' => ∃ v o S', e = .returned v /\ RowRel (hp w') S' BlT bl v o /\ o.Nodup /\ (∀ k ∈ o, S' k = none /\ w.heap.size <= k) /\ WF w (fun _ => False) w' /\ Lift.Sub S S' /\ Lift.Sub S' (hp w') /\ ∀ k, S' k ≠ none -> S k ≠ none \/ w.heap.size <= k := by
  have hSS : Lift.Sub S (fun k => if k ∈ p1 then hp w k else S k) := by
    intro k q hq
    dsimp only
    rw [if_neg (fun hk => by rw [hn k hk] at hq; cases hq)]
    exact hq
  have hS1 : Lift.Sub (fun k => if k ∈ p1 then hp w k else S k) (hp w) := by
    intro k q hq
    dsimp only at hq
    by_cases hk : k ∈ p1
    . rw [if_pos hk] at hq; exact hq
    . rw [if_neg hk] at hq; exact hS k q hq
  have hv : VR (fun k => if k ∈ p1 then hp w k else S k) (.sl BlT) bl sv := hrow.shared hSS (fun k hk => if_pos hk)
  have hpl : ∀ k ∈ p1, k < w.heap.size := by
    intro k hk
    obtain ⟨ob, hob⟩ := (show ARel (hp w) S (fun _ => undef) (.row BlT bl) sv p1 from hrow).obj k hk
    exact (Array.getElem?_eq_some_iff.1 hob.1).1
  refine (zln.2 w _ _ _ _ (zp0 (a := .v (.sl BlT) bl) (v := sv) ⟨hv, rfl⟩ rfl) hS1 (zmd _) bl (by
    show zif bl = some bl
    unfold zif
    rw [decide_eq_true hsz]
    rfl)).mono ?_
  rintro e w' ⟨v, S2, o, ob', rfl, hwf, k1, k2, k3, ⟨hr, _⟩, ho, hnd, _⟩
  have hwf' : WF w (fun _ => False) w' := ⟨hwf.size, fun k hk _ => hwf.same k hk (by rintro ⟨i, hi⟩; cases hi), hwf.tape, hwf.os, hwf.output⟩
  refine ⟨v, o, fun k => if k ∈ p1 then none else S2 k, rfl, zsj hr, hnd, fun k hk => ?_, hwf', fun k q hq => ?_, fun k q hq => ?_, fun k hk => ?_⟩
  . obtain ⟨o1, o2⟩ := ho k hk
    refine ⟨?_, ?_⟩
    . dsimp only; split
      . rfl
      . exact o1
    . rcases o2 with ⟨i, hi⟩ | h
      . cases hi
      . exact h
  . dsimp only
    rw [if_neg (fun hk => by rw [hn k hk] at hq; cases hq)]
    exact k1 k q (hSS k q hq)
  . dsimp only at hq
    split at hq
    . cases hq
    . exact k2 k q hq
  . dsimp only at hk
    split at hk
    . exact absurd rfl hk
    . rename_i hkp
      rcases k3 k hk with h | ⟨i, hi⟩ | h
      . dsimp only at h
        rw [if_neg hkp] at h
        exact .inl h
      . cases hi
      . exact .inr h

theorem zv2 {h S : Hp} {bl : List BlT.den} {m : Option (List (Int × Int))} {dn : Bool} {wr : Int} {v : Value} {o : List Nat} (hr : ARel h S (fun _ => undef) (.box DkT (bl, (m, (dn, (wr, ()))))) v o) :
    ∃ b sv mv E fr p1 p2, o = b :: (p1 ++ p2) /\ v = .pointer (some ⟨b, 0, none⟩) /\ h b = some (.cells #[sv, mv, .bool dn, .int .i64 wr] E fr) /\ Free #[sv, mv, .bool dn, .int .i64 wr] fr /\ RowRel h S BlT bl sv p1 /\ MpRel h S (.int .i64) (.int .i64) m mv p2 := by
  obtain ⟨b, cs, E, fr, bs, rfl, rfl, hb, hf, c1, c2, b1, b2, hc, hbs, ⟨sv, hsv, hrow⟩, c3, c4, b3, b4, hc', hbs', ⟨mv, hmv, hmp⟩, c5, c6, b5, b6, hc'', hbs'', ⟨hb5, hd⟩, c7, c8, b7, b8, hc3, hbs3, ⟨hb7, hw⟩, ⟨hb8, hu⟩⟩ := hr
  have e5 : c5 = [.bool dn] := hd
  have e7 : c7 = [.int .i64 wr] := hw
  have e8 : c8 = [] := hu
  have ecs : cs = #[sv, mv, .bool dn, .int .i64 wr] := by
    apply Array.toList_inj.1
    rw [hc, hc', hc'', hc3, hsv, hmv, e5, e7, e8]; rfl
  subst ecs
  exact ⟨b, sv, mv, E, fr, b1, b3, by rw [hbs, hbs', hbs'', hbs3, hb5, hb7, hb8]; simp, rfl, hb, hf, hrow, hmp⟩

theorem zu3 {h S : Hp} {bl : List BlT.den} {m : Option (List (Int × Int))} {dn : Bool} {wr : Int} {mm : Nat × Nat} {sv mv : Value} {p1 p2 : List Nat} (h1 : RowRel h S BlT bl sv p1) (h2 : MpRel h S (.int .i64) (.int .i64) m mv p2) :
    RdO mm h S DkT (bl, (m, (dn, (wr, ())))) (#[sv, mv, .bool dn, .int .i64 wr] : Array Value).toList (p1 ++ p2) :=
  ⟨[sv], [mv, .bool dn, .int .i64 wr], p1, p2, rfl, rfl, ⟨sv, rfl, h1⟩, [mv], [.bool dn, .int .i64 wr], p2, [], rfl, by simp, ⟨mv, rfl, h2⟩, [.bool dn], [.int .i64 wr], [], [], rfl, rfl, ⟨rfl, rfl⟩, [.int .i64 wr], [], [], [], rfl, rfl, ⟨rfl, rfl⟩, ⟨rfl, rfl⟩⟩

theorem znb {h S : Hp} {t : T} {l : List t.den} {v : Value} {o : List Nat} (hr : RowRel h S t l v o) : ∃ a n c, v = .slice a n c := by
  rcases hr with ⟨_, ⟨ad, e, _⟩, _⟩ | ⟨b, cap, cs, E, fr, _, e, _⟩
  . exact ⟨ad, 0, 0, e⟩
  . exact ⟨_, _, _, e⟩

theorem znc {w : World} {S : Hp} {l : List BlT.den} {v : Value} {o : List Nat} (hr : RowRel (hp w) S BlT l v o) : ∀ k ∈ o, k < w.heap.size := by
  intro k hk
  obtain ⟨ob, hob⟩ := (show ARel (hp w) S (fun _ => undef) (.row BlT l) v o from hr).obj k hk
  exact (Array.getElem?_eq_some_iff.1 hob.1).1

theorem z77 {w : World} {cs : Array Value} {E : Nat} {p : Addr} {v : Value} (h : w.cell? p = some v) : (w.alloc (.cells cs E)).cell? p = some v := Go.Lib.cell?_alloc_some _ h

theorem zoh (w : World) (es : Array MapEntry) (cl : Nat) : (w.alloc (.map es cl)).heap.size = w.heap.size + 1 /\ (w.alloc (.map es cl)).heap[w.heap.size]? = some (.map es cl) /\ ∀ k, k < w.heap.size -> (w.alloc (.map es cl)).heap[k]? = w.heap[k]? := by
  have := MapKept.heap_alloc w (.map es cl)
  exact ⟨Array.size_push .., this.1, this.2⟩

theorem zs1 (w : World) (o : Obj) : WF w (fun _ => False) (w.alloc o) :=
  ⟨by have : (w.alloc o).heap.size = w.heap.size + 1 := Array.size_push ..; omega, fun k hk _ => (MapKept.heap_alloc w o).2 k hk, rfl, rfl, rfl⟩

theorem zq7 {w : World} {S : Hp} {o : Obj} (h : Lift.Sub S (hp w)) : Lift.Sub S (hp (w.alloc o)) := fun k q hq => by
  have := h k q hq
  simp only [hp] at this ⊢
  rw [(MapKept.heap_alloc w o).2 k (Array.getElem?_eq_some_iff.1 this).1]
  exact this

theorem ztw {w : World} {S : Hp} {o : Obj} (h : Lift.Sub S (hp w)) : ∀ k ∈ [w.heap.size], S k = none /\ w.heap.size <= k /\ k < (w.alloc o).heap.size := by
  intro k hk
  rw [List.mem_singleton.1 hk]
  have hs : (w.alloc o).heap.size = w.heap.size + 1 := Array.size_push ..
  refine ⟨?_, Nat.le_refl _, by omega⟩
  cases hS : S w.heap.size with
  | none => rfl
  | some q =>
    have := h _ _ hS
    simp only [hp] at this
    have := (Array.getElem?_eq_some_iff.1 this).1
    omega

theorem zq8 {w : World} {S S1 : Hp} {es : Array MapEntry} {cl : Nat} {xs : List (Int × Int)} (hS : Lift.Sub S S1) (e4 : Ents S (.int .i64) (.int .i64) xs es.toList) (e5 : (es.toList.map (·.born)).Nodup /\ ∀ e ∈ es.toList, e.born < cl) :
    MpRel (hp (w.alloc (.map es cl))) S1 (.int .i64) (.int .i64) (some xs) (.map (some w.heap.size)) [w.heap.size] :=
  .inr ⟨xs, w.heap.size, es, cl, rfl, rfl, rfl, (MapKept.heap_alloc w (.map es cl)).1, e4.mono hS, e5⟩

theorem zr0 {w w1 w2 : World} {S S1 : Hp} {ob : Nat -> List Nat} {b E0 F : Nat} {fr : Nat × Nat} {bl : List BlT.den} {m : Option (List (Int × Int))} {dn : Bool} {wr : Int} {sv mv v1 mv2 : Value} {p1 p2 q1 q2 : List Nat}
    (hob0 : ob 0 = b :: (p1 ++ p2)) (hob : ∀ i, ob (i + 1) = []) (hnd0 : (ob 0).Nodup) (hid : ∀ k ∈ ob 0, S k = none) (hb : hp w b = some (.cells #[sv, mv, .bool dn, .int .i64 wr] E0 fr)) (hf : Free #[sv, mv, .bool dn, .int .i64 wr] fr) (hrow : RowRel (hp w) S BlT bl sv p1) (hmp : MpRel (hp w) S (.int .i64) (.int .i64) m mv p2)
    (r1 : RowRel (hp w1) S1 BlT bl v1 q1) (r2 : q1.Nodup) (r3 : ∀ k ∈ q1, S1 k = none /\ w.heap.size <= k /\ k < w1.heap.size) (r4 : WF w (fun _ => False) w1) (r5 : Lift.Sub S S1) (r6 : Lift.Sub S1 (hp w1)) (r7 : ∀ k, S1 k ≠ none -> S k ≠ none \/ w.heap.size <= k)
    (m1 : MpRel (hp w2) S1 (.int .i64) (.int .i64) m mv2 q2) (m2 : q2.Nodup) (m3 : ∀ k ∈ q2, S1 k = none /\ w1.heap.size <= k /\ k < w2.heap.size) (m4 : WF w1 (fun _ => False) w2) (m5 : Lift.Sub S1 (hp w2)) :
    Lift.Ends w S [.box DkT (bl, (m, (dn, (wr, ()))))] [.pointer (some ⟨b, 0, none⟩)] ob (.ov (.nb DkT) (some (bl, (m, (dn, (wr, ())))))) [.box DkT (bl, (m, (dn, (wr, ()))))] (.returned (.pointer (some ⟨w2.heap.size, 0, none⟩))) (w2.alloc (.cells #[v1, mv2, .bool dn, .int .i64 wr] F)) := by
  have hh : (w2.alloc (.cells #[v1, mv2, .bool dn, .int .i64 wr] F)).heap = w2.heap.push (.cells #[v1, mv2, .bool dn, .int .i64 wr] F (0, 0)) := rfl
  generalize hw3 : w2.alloc (.cells #[v1, mv2, .bool dn, .int .i64 wr] F) = w3 at *
  have hk : ∀ k, k < w2.heap.size -> w3.heap[k]? = w2.heap[k]? := fun k hk => by rw [hh, Array.getElem?_push, if_neg (by omega)]
  have hnew : w3.heap[w2.heap.size]? = some (.cells #[v1, mv2, .bool dn, .int .i64 wr] F (0, 0)) := by rw [hh, Array.getElem?_push, if_pos rfl]
  have hsz : w3.heap.size = w2.heap.size + 1 := by rw [hh, Array.size_push]
  have s1 := r4.size
  have s2 := m4.size
  have hold : ∀ k, k < w.heap.size -> w3.heap[k]? = w.heap[k]? := fun k h => by rw [hk k (by omega), m4.same k (by omega) (fun h => h), r4.same k h (fun h => h)]
  have hobl : ∀ k ∈ ob 0, k < w.heap.size := by
    intro k hkm
    obtain ⟨q, hq⟩ := (show ARel (hp w) S (fun _ => undef) (.box DkT (bl, (m, (dn, (wr, ()))))) (.pointer (some ⟨b, 0, none⟩)) (ob 0) from ⟨b, _, E0, fr, p1 ++ p2, hob0, rfl, hb, hf, zu3 hrow hmp⟩).obj k hkm
    exact (Array.getElem?_eq_some_iff.1 hq.1).1
  have hS3 : Lift.Sub S1 (hp w3) := fun k q hq => by
    have := m5 k q hq
    simp only [hp] at this ⊢
    rw [hk k (Array.getElem?_eq_some_iff.1 this).1]; exact this
  have hS1n : ∀ k, k < w.heap.size -> S1 k ≠ none -> S k ≠ none := fun k hk hs => by
    rcases r7 k hs with h | h
    . exact h
    . omega
  have hS1new : S1 w2.heap.size = none := by
    cases hs : S1 w2.heap.size with
    | none => rfl
    | some q =>
      have := m5 _ _ hs
      simp only [hp] at this
      have := (Array.getElem?_eq_some_iff.1 this).1
      omega
  have hid1 : ∀ k ∈ ob 0, S1 k = none := fun k hkm => by
    cases hs : S1 k with
    | none => rfl
    | some q => exact absurd (hid k hkm) (hS1n k (hobl k hkm) (by rw [hs]; simp))
  have hz : ∀ k, (∃ i, k ∈ ob i) -> k ∈ ob 0 := by
    rintro k ⟨i, hi⟩
    cases i with
    | zero => exact hi
    | succ i => rw [hob i] at hi; cases hi
  have hbox : ARel (hp w3) S1 (fun _ => undef) (.box DkT (bl, (m, (dn, (wr, ()))))) (.pointer (some ⟨b, 0, none⟩)) (ob 0) := by
    refine ⟨b, _, E0, fr, p1 ++ p2, hob0, rfl, ?_, hf, zu3 (hrow.mono r5 (fun k hkm => hold k (hobl k (by rw [hob0]; simp [hkm])))) (hmp.mono r5 (fun k hkm => hold k (hobl k (by rw [hob0]; simp [hkm]))))⟩
    have := hold b (hobl b (by rw [hob0]; simp))
    simp only [hp] at hb ⊢
    rw [this]; exact hb
  refine ⟨_, S1, w2.heap.size :: (q1 ++ q2), ob, rfl, ⟨by omega, fun k h _ => hold k h, ?_, ?_, ?_⟩, r5, hS3, fun k hs => ?_, ⟨?_, rfl⟩, fun k hkm => ?_, ?_, ?_, ?_, ?_, ?_, fun _ h => h⟩
  . rw [<- hw3]; exact m4.tape.trans r4.tape
  . rw [<- hw3]; exact m4.os.trans r4.os
  . rw [<- hw3]; exact m4.output.trans r4.output
  . rcases r7 k hs with h | h
    . exact .inl h
    . exact .inr (.inr h)
  . refine ⟨rfl, ?_⟩
    show RdO (0, 0) (hp w3) S1 (.nb DkT) (some (bl, (m, (dn, (wr, ()))))) [.pointer (some ⟨w2.heap.size, 0, none⟩)] (w2.heap.size :: (q1 ++ q2))
    refine .inr ⟨_, w2.heap.size, _, F, (0, 0), q1 ++ q2, rfl, rfl, rfl, hnew, fun i hi h => by omega, zu3 (r1.mono (Lift.Sub.refl S1) (fun k hkm => ?_)) (m1.mono (Lift.Sub.refl S1) (fun k hkm => hk k (m3 k hkm).2.2))⟩
    show w3.heap[k]? = w1.heap[k]?
    have := (r3 k hkm).2.2
    rw [hk k (by omega), m4.same k this (fun h => h)]
  . have hc : k = w2.heap.size \/ k ∈ q1 \/ k ∈ q2 := by simpa using hkm
    rcases hc with rfl | h | h
    . exact ⟨hS1new, .inr (by omega)⟩
    . exact ⟨(r3 k h).1, .inr (r3 k h).2.1⟩
    . exact ⟨(m3 k h).1, .inr (by have := (m3 k h).2.1; omega)⟩
  . rw [List.nodup_cons, List.nodup_append]
    refine ⟨fun h => ?_, r2, m2, fun k h1 u h2 e => ?_⟩
    . rcases List.mem_append.1 h with h | h
      . have := (r3 _ h).2.2; omega
      . have := (m3 _ h).2.2; omega
    . subst e
      have := (r3 k h1).2.2
      have := (m3 k h2).2.1
      omega
  . intro i y hy _
    cases i with
    | zero => exact ⟨_, _, rfl, rfl, rfl, hbox⟩
    | succ i => simp at hy
  . intro i k hi
    have h0 := hz k ⟨i, hi⟩
    refine ⟨.inl ⟨0, h0⟩, hid1 k h0, fun hm => ?_⟩
    have := hobl k h0
    have hc : k = w2.heap.size \/ k ∈ q1 \/ k ∈ q2 := by simpa using hm
    rcases hc with h | h | h
    . omega
    . have := (r3 k h).2.1; omega
    . have := (m3 k h).2.1; omega
  . intro i j k hi hj
    cases i with
    | succ i => rw [hob i] at hi; cases hi
    | zero =>
      cases j with
      | zero => rfl
      | succ j => rw [hob j] at hj; cases hj
  . intro i
    cases i with
    | zero => exact hnd0
    | succ i => rw [hob i]; exact .nil

def z6n (N : Nat) (d : DkT.den) : Option (Option DkT.den × (DkT.den × Unit)) := cond (decide (d.1.length * 128 <= 140737488355328)) (some (some d, (d, ()))) none

def z8s (N : Nat) : List A -> Res := z2u [(0, .box DkT)] (fun x => z6n N x.1) (zjx (.ov (.nb DkT)) [(0, .box DkT)] 0)

set_option maxHeartbeats 4000000 in
theorem zqy {w : World} {S : Hp} {vals : List Value} {ob : Nat -> List Nat} {bl : List BlT.den} {m : Option (List (Int × Int))} {dn : Bool} {wr : Int} (hsz : bl.length * 128 <= 140737488355328) (har : ArgsRel (hp w) S [.box DkT (bl, (m, (dn, (wr, ()))))] vals ob) (hS : Lift.Sub S (hp w)) :
    Calls Try.prog 14 vals.toArray w fun e w' => Lift.Ends w S [.box DkT (bl, (m, (dn, (wr, ()))))] vals ob (.ov (.nb DkT) (some (bl, (m, (dn, (wr, ())))))) [.box DkT (bl, (m, (dn, (wr, ()))))] e w' := by
  obtain ⟨⟨v0, hv0, h5⟩, _⟩ := har.rel 0 _ rfl
  obtain ⟨b, sv, mv, E0, fr, p1, p2, hob0, rfl, hb, hf, hrow, hmp⟩ := zv2 h5
  have hvals : vals = [.pointer (some ⟨b, 0, none⟩)] := by
    match vals, har.len, hv0 with
    | [a], _, h => simp at h; rw [h]
  subst hvals
  have hob : ∀ i, ob (i + 1) = [] := fun i => har.out _ (by simp)
  have hid : ∀ k ∈ ob 0, S k = none := fun k hk => har.hid 0 k hk
  have hC := zih hS hrow (fun k hk => hid k (by rw [hob0]; simp [hk])) hsz
  have hE := Go.Lib.hid (fun (w1 w2 : World) (S1 : Hp) (F : Nat) (v1 mv2 : Value) (q1 q2 : List Nat) => zr0 (w1 := w1) (w2 := w2) (S1 := S1) (F := F) (v1 := v1) (mv2 := mv2) (q1 := q1) (q2 := q2) hob0 hob (har.nd 0) hid hb hf hrow hmp)
  have hb' : w.heap[b]? = some (.cells #[sv, mv, .bool dn, .int .i64 wr] E0 fr) := hb
  have c0 : w.cell? ⟨b, 0, none⟩ = some sv := by simp [World.cell?, hb']
  have keep : ∀ w1, WF w (fun _ => False) w1 -> w1.heap[b]? = some (.cells #[sv, mv, .bool dn, .int .i64 wr] E0 fr) := fun w1 h => by
    rw [h.same b (Array.getElem?_eq_some_iff.1 hb').1 (fun h => h)]; exact hb'
  have hwd : ∀ w1, WF w.drew (fun _ => False) w1 -> WF w (fun _ => False) w1 := fun w1 h => ⟨h.size, h.same, h.tape, h.os, h.output⟩
  have hCd := zih (w := w.drew) hS hrow (fun k hk => hid k (by rw [hob0]; simp [hk])) hsz
  have c0 : w.cell? ⟨b, 0, none⟩ = some sv := by simp [World.cell?, hb']
  have cells : ∀ w1 : World, w1.heap[b]? = some (.cells #[sv, mv, .bool dn, .int .i64 wr] E0 fr) -> w1.cell? ⟨b, 0, none⟩ = some sv /\ w1.cell? ⟨b, 1, none⟩ = some mv /\ w1.cell? ⟨b, 2, none⟩ = some (.bool dn) /\ w1.cell? ⟨b, 3, none⟩ = some (.int .i64 wr) := fun w1 h => by
    refine ⟨?_, ?_, ?_, ?_⟩ <;> simp [World.cell?, h]
  have k0 := cells w hb'
  have kd := cells w.drew hb'
  have HK := Go.Lib.hid (And.intro keep (And.intro hwd cells))
  rcases hmp with ⟨rfl, rfl, rfl⟩ | ⟨xs, mb, es, cl, rfl, rfl, rfl, e3, e4, e5⟩
  . have hM := fun w1 : World => Go.Proofs.AnyW.maps_Clone_nil zq5 w1
    clear hb hf hrow hid hS har h5 keep hwd cells hb' c0 hC hob hob0
    go_enter Try.func14, Try.ntmps14
    go_wp2
    go_region_held3 (fun w' => World.cell? w' ⟨b, 0, none⟩ = some sv /\ World.cell? w' ⟨b, 1, none⟩ = some (.map none) /\ World.cell? w' ⟨b, 2, none⟩ = some (.bool dn) /\ World.cell? w' ⟨b, 3, none⟩ = some (.int .i64 wr))
      (first
        | assumption
        | exact SB _ _)
      (first
        | (go_at_call 19; refine hCd.mono ?_; rintro r w1 ⟨v1, q1, S1, rfl, r1, r2, r3, r4, r5, r6, r7⟩; obtain ⟨sa, sn, sc, rfl⟩ := znb r1; have k1 := HK.out.2.2 w1 (HK.out.1 w1 (HK.out.2.1 w1 r4)); have SB : ∀ (cs : Array Value) (E : Nat), World.cell? (w1.alloc (.cells cs E)) ⟨b, 0, none⟩ = some sv /\ World.cell? (w1.alloc (.cells cs E)) ⟨b, 1, none⟩ = some (.map none) /\ World.cell? (w1.alloc (.cells cs E)) ⟨b, 2, none⟩ = some (.bool dn) /\ World.cell? (w1.alloc (.cells cs E)) ⟨b, 3, none⟩ = some (.int .i64 wr) := fun cs E => ⟨z77 k1.1, z77 k1.2.1, z77 k1.2.2.1, z77 k1.2.2.2⟩; have HF := Go.Lib.hid (And.intro r1 (And.intro r2 (And.intro r3 (And.intro r4 (And.intro r5 (And.intro r6 r7)))))); clear r1 r2 r3 r4 r5 r6 r7 hCd)
        | (go_at_call 20; refine (hM _).mono ?_; rintro r w2 ⟨rfl, rfl⟩))
    all_goals go_wp2
    all_goals (first | go_ret | skip)
    all_goals (
      obtain ⟨r1, r2, r3, r4, r5, r6, r7⟩ := HF.out
      exact hE.out _ _ S1 49 _ _ q1 [] r1 r2 (fun k hk => ⟨(r3 k hk).1, (r3 k hk).2, znc r1 k hk⟩) (HK.out.2.1 _ r4) r5 r6 r7 (.inl ⟨rfl, rfl, rfl⟩) .nil (fun k hk => by cases hk) (WF.refl _ _) r6)
  . have hM := fun (w1 : World) (h : w1.heap[mb]? = some (.map es cl)) => Go.Proofs.AnyW.maps_Clone zq5 mb es cl w1 h
    have e3' : w.heap[mb]? = some (.map es cl) := e3
    have hmk := Go.Lib.hid (fun (w1 : World) (h : WF w (fun _ => False) w1) => (show w1.heap[mb]? = some (.map es cl) by rw [h.same mb (Array.getElem?_eq_some_iff.1 e3').1 (fun h => h)]; exact e3'))
    have hEn := Go.Lib.hid (And.intro e4 e5)
    clear hb hf hrow hid hS har h5 keep hwd cells hb' c0 hC hob hob0 e3 e4 e5 e3'
    go_enter Try.func14, Try.ntmps14
    go_wp2
    go_region_held3 (fun w' => World.cell? w' ⟨b, 0, none⟩ = some sv /\ World.cell? w' ⟨b, 1, none⟩ = some (.map (some mb)) /\ World.cell? w' ⟨b, 2, none⟩ = some (.bool dn) /\ World.cell? w' ⟨b, 3, none⟩ = some (.int .i64 wr))
      (first
        | assumption
        | exact SB _
        | exact SC _ _ _)
      (first
        | (go_at_call 19; refine hCd.mono ?_; rintro r w1 ⟨v1, q1, S1, rfl, r1, r2, r3, r4, r5, r6, r7⟩; obtain ⟨sa, sn, sc, rfl⟩ := znb r1; have k1 := HK.out.2.2 w1 (HK.out.1 w1 (HK.out.2.1 w1 r4)); have SB : ∀ (o : Obj), World.cell? (w1.alloc o) ⟨b, 0, none⟩ = some sv /\ World.cell? (w1.alloc o) ⟨b, 1, none⟩ = some (.map (some mb)) /\ World.cell? (w1.alloc o) ⟨b, 2, none⟩ = some (.bool dn) /\ World.cell? (w1.alloc o) ⟨b, 3, none⟩ = some (.int .i64 wr) := fun o => ⟨Go.Lib.cell?_alloc_some _ k1.1, Go.Lib.cell?_alloc_some _ k1.2.1, Go.Lib.cell?_alloc_some _ k1.2.2.1, Go.Lib.cell?_alloc_some _ k1.2.2.2⟩; have SC : ∀ (o : Obj) (cs : Array Value) (E : Nat), World.cell? ((w1.alloc o).alloc (.cells cs E)) ⟨b, 0, none⟩ = some sv /\ World.cell? ((w1.alloc o).alloc (.cells cs E)) ⟨b, 1, none⟩ = some (.map (some mb)) /\ World.cell? ((w1.alloc o).alloc (.cells cs E)) ⟨b, 2, none⟩ = some (.bool dn) /\ World.cell? ((w1.alloc o).alloc (.cells cs E)) ⟨b, 3, none⟩ = some (.int .i64 wr) := fun o cs E => ⟨z77 (SB o).1, z77 (SB o).2.1, z77 (SB o).2.2.1, z77 (SB o).2.2.2⟩; have hM1 := hM w1 (hmk.out w1 (HK.out.2.1 w1 r4)); have HF := Go.Lib.hid (And.intro r1 (And.intro r2 (And.intro r3 (And.intro r4 (And.intro r5 (And.intro r6 r7)))))); clear r1 r2 r3 r4 r5 r6 r7 hCd hM)
        | (go_at_call 20; refine hM1.mono ?_; rintro r w2 ⟨rfl, rfl⟩))
    all_goals go_wp2
    all_goals (first | go_ret | skip)
    all_goals (
      obtain ⟨r1, r2, r3, r4, r5, r6, r7⟩ := HF.out
      obtain ⟨e4, e5⟩ := hEn.out
      have hh := hE.out w1 (w1.alloc (.map es cl)) S1 49 _ _ q1 _ r1 r2 (fun k hk => ⟨(r3 k hk).1, (r3 k hk).2, znc r1 k hk⟩) (HK.out.2.1 _ r4) r5 r6 r7 (zq8 r5 e4 e5) (by simp) (ztw r6) (zs1 _ _) (zq7 r6)
      rw [(zoh w1 es cl).1] at hh
      exact hh)

theorem zgm (N : Nat) : Contract Try.prog zq 14 (z8s N) := by
  refine Contract.hand ⟨_, Try.func14, by kernel_rfl, by decide⟩ ?_
  rintro w S vals ob ⟨⟨bl, m, dn, wr, ⟨⟩⟩, ⟨⟩⟩ ⟨v, x', ⟨⟩⟩ har hS hg hy
  have hy' : cond (decide (bl.length * 128 <= 140737488355328)) (some (some (bl, (m, (dn, (wr, ())))), ((bl, (m, (dn, (wr, ())))), ()))) none = some (v, (x', ())) := hy
  by_cases hsz : bl.length * 128 <= 140737488355328
  . rw [decide_eq_true hsz] at hy'
    cases hy'
    exact zqy hsz har hS
  . rw [decide_eq_false hsz] at hy'
    cases hy'

def zbp : Code := (Go.Proofs.Try.f14.body).getD .skip

def z7k : List (List Nat × List Nat) := [([0], [0]), ([0, 0, 1], [4, 0]), ([1, 0, 1], [0]), ([0, 0, 1, 0, 1], [2]), ([1, 0, 1, 0, 1], [2]), ([0, 1, 1], [2]), ([1, 1, 1], [2])]

def z45 (N : Nat) : Env := z7x tys zq [] [] [] [] false [] []

theorem zcj (N : Nat) : EnvOk Go.Proofs.Try.prog (z45 N) := z1i mixed z3w (FnsOk.nil) (ItsOk.nil)

def z5v (N : Nat) : Option Go.Value :=
 some (Go.Value.pointer (Option.none))

def z7j (N : Nat) : Tab Go.Value := []

theorem zbo (N : Nat) (x : z31 [(0, .nilp)]) : zfw (z45 N) N (z7j N) z7k Go.Proofs.Try.f14 (mkS [(0, .nilp)] 0 x) (ze6 (.v .opq) 1) = z5v N := by kernel_rfl

def zci (N : Nat) : List A -> Res := z2u [(0, .nilp)] (fun x => z5v N) (zf0 (.v .opq) 1)

theorem zda (N : Nat) : Contract Go.Proofs.Try.prog zq 14 (zci N) :=
  Contract.of (E := z45 N) (H := z7j N) (L := z7k) (N := N) (body := zbp) (K := (ze6 (.v .opq) 1)) (zcj N) Go.Proofs.Try.func14 (by kernel_rfl) (by decide) (fun _ hb => TabOk.nil) (fun x y h => by rw [zbo]; exact h) (z4t (s := (.v .opq)) (m := 1))

def z6a (N : Nat) : List A -> Res := ze4 [(0, .nilp)] (fun x => z5v N) (zf0 (.v .opq) 1) (z8s N)

theorem zao (N : Nat) : Contract Go.Proofs.Try.prog zq 14 (z6a N) := Contract.alt (zda N) (zgm N)

def zew : Code := (Go.Proofs.Try.f15.body).getD .skip

def zbx : List (List Nat × List Nat) := [([0], [0]), ([0, 1], [2, 0]), ([1, 1], [2, 0])]

def z79 (N : Nat) : Env := z7x tys zq [] [] [] [0] false [] []

theorem zfo (N : Nat) : EnvOk Go.Proofs.Try.prog (z79 N) := z1i mixed z3w (FnsOk.nil) (ItsOk.nil)

def ze7 (N : Nat) (d : ((List (List Int)) × ((Option (List (Int × Int))) × (Bool × (Int × Unit))))) : Option (Bool × (((List (List Int)) × ((Option (List (Int × Int))) × (Bool × (Int × Unit)))) × Unit)) :=
 some (d.2.2.1, (d, ()))

def zbw (N : Nat) : Tab (Bool × (((List (List Int)) × ((Option (List (Int × Int))) × (Bool × (Int × Unit)))) × Unit)) := []

theorem zev (N : Nat) (x : z31 [(0, .box (.pair (.own (.arr 128 (.int .u8))) (.pair (.mp (.int .i64) (.int .i64)) (.pair .bool (.pair (.int .i64) .unit)))))]) : zfw (z79 N) N (zbw N) zbx Go.Proofs.Try.f15 (mkS [(0, .box (.pair (.own (.arr 128 (.int .u8))) (.pair (.mp (.int .i64) (.int .i64)) (.pair .bool (.pair (.int .i64) .unit)))))] 0 x) (zdu (.v .bool) [(0, .box (.pair (.own (.arr 128 (.int .u8))) (.pair (.mp (.int .i64) (.int .i64)) (.pair .bool (.pair (.int .i64) .unit)))))] 0) = ze7 N x.1 := by kernel_rfl

def z8r (N : Nat) : List A -> Res := z2u [(0, .box (.pair (.own (.arr 128 (.int .u8))) (.pair (.mp (.int .i64) (.int .i64)) (.pair .bool (.pair (.int .i64) .unit)))))] (fun x => ze7 N x.1) (zjx (.v .bool) [(0, .box (.pair (.own (.arr 128 (.int .u8))) (.pair (.mp (.int .i64) (.int .i64)) (.pair .bool (.pair (.int .i64) .unit)))))] 0)

theorem zgl (N : Nat) : Contract Go.Proofs.Try.prog zq 15 (z8r N) :=
  Contract.of (E := z79 N) (H := zbw N) (L := zbx) (N := N) (body := zew) (K := (zdu (.v .bool) [(0, .box (.pair (.own (.arr 128 (.int .u8))) (.pair (.mp (.int .i64) (.int .i64)) (.pair .bool (.pair (.int .i64) .unit)))))] 0)) (zfo N) Go.Proofs.Try.func15 (by kernel_rfl) (by decide) (fun _ hb => TabOk.nil) (fun x y h => by rw [zev]; exact h) (zb9 (s := (.v .bool)) (os := [(0, .box (.pair (.own (.arr 128 (.int .u8))) (.pair (.mp (.int .i64) (.int .i64)) (.pair .bool (.pair (.int .i64) .unit)))))]) (m := 0))

def zbn : Code := (Go.Proofs.Try.f15.body).getD .skip

def z7i : List (List Nat × List Nat) := [([0], [0]), ([0, 1], [2]), ([1, 1], [2])]

def z44 (N : Nat) : Env := z7x tys zq [] [] [] [] false [] []

theorem zch (N : Nat) : EnvOk Go.Proofs.Try.prog (z44 N) := z1i mixed z3w (FnsOk.nil) (ItsOk.nil)

def z5u (N : Nat) : Option Bool :=
 some false

def z7h (N : Nat) : Tab Bool := []

theorem zbm (N : Nat) (x : z31 [(0, .nilp)]) : zfw (z44 N) N (z7h N) z7i Go.Proofs.Try.f15 (mkS [(0, .nilp)] 0 x) (ze6 (.v .bool) 1) = z5u N := by kernel_rfl

def zcg (N : Nat) : List A -> Res := z2u [(0, .nilp)] (fun x => z5u N) (zf0 (.v .bool) 1)

theorem zd9 (N : Nat) : Contract Go.Proofs.Try.prog zq 15 (zcg N) :=
  Contract.of (E := z44 N) (H := z7h N) (L := z7i) (N := N) (body := zbn) (K := (ze6 (.v .bool) 1)) (zch N) Go.Proofs.Try.func15 (by kernel_rfl) (by decide) (fun _ hb => TabOk.nil) (fun x y h => by rw [zbm]; exact h) (z4t (s := (.v .bool)) (m := 1))

def z69 (N : Nat) : List A -> Res := ze4 [(0, .nilp)] (fun x => z5u N) (zf0 (.v .bool) 1) (z8r N)

theorem zan (N : Nat) : Contract Go.Proofs.Try.prog zq 15 (z69 N) := Contract.alt (zd9 N) (zgl N)

def z6 : Code := (Go.Proofs.Try.f3.body).getD .skip

def z9 : List (List Nat × List Nat) := [([0], [1, 2, 0]), ([0, 0, 1], [36, 0, 1, 2]), ([1, 0, 1], [0, 1, 2]), ([0, 0, 1, 0, 1], [6]), ([1, 0, 1, 0, 1], [6]), ([0, 1, 1], [0, 7, 8, 1, 2]), ([0, 0, 1, 1, 1], [49, 7, 8, 0, 1, 2]), ([1, 0, 1, 1, 1], [7, 8, 0, 1, 2]), ([0, 0, 1, 0, 1, 1, 1], [6]), ([1, 0, 1, 0, 1, 1, 1], [6]), ([0, 0, 1, 1, 1, 1], [64, 0, 1, 2, 7]), ([1, 0, 1, 1, 1, 1], [0, 1, 2, 7]), ([0, 0, 1, 0, 1, 1, 1, 1], [6]), ([1, 0, 1, 0, 1, 1, 1, 1], [6]), ([0, 1, 1, 1, 1, 1], [2, 9, 7, 0]), ([0, 0, 1, 1, 1, 1, 1, 1], [10, 2, 9, 7, 0]), ([0, 1, 0, 1, 1, 1, 1, 1, 1], [10, 2, 9, 7, 0]), ([0, 0, 0, 0, 1, 0, 1, 1, 1, 1, 1, 1], [71, 2, 10, 9, 7, 0]), ([1, 0, 0, 0, 1, 0, 1, 1, 1, 1, 1, 1], [2, 10, 9, 7, 0]), ([1, 1, 0, 0, 0, 1, 0, 1, 1, 1, 1, 1, 1], [7, 0, 9]), ([0, 0, 0, 0, 1, 0, 0, 1, 0, 1, 1, 1, 1, 1, 1], [79, 9, 2, 10, 7, 0]), ([1, 0, 0, 0, 1, 0, 0, 1, 0, 1, 1, 1, 1, 1, 1], [2, 10, 7, 9, 0]), ([0, 0, 1, 0, 0, 0, 1, 0, 0, 1, 0, 1, 1, 1, 1, 1, 1], [7, 2, 10, 12, 11, 9, 0]), ([0, 0, 1, 0, 1, 0, 0, 0, 1, 0, 0, 1, 0, 1, 1, 1, 1, 1, 1], [110, 11, 9, 2, 10, 7, 0]), ([1, 0, 1, 0, 1, 0, 0, 0, 1, 0, 0, 1, 0, 1, 1, 1, 1, 1, 1], [11, 9, 2, 10, 7, 0]), ([0, 0, 1, 0, 1, 0, 1, 0, 0, 0, 1, 0, 0, 1, 0, 1, 1, 1, 1, 1, 1], [6]), ([1, 0, 1, 0, 1, 0, 1, 0, 0, 0, 1, 0, 0, 1, 0, 1, 1, 1, 1, 1, 1], [6]), ([1, 1, 0, 1, 0, 0, 0, 1, 0, 0, 1, 0, 1, 1, 1, 1, 1, 1], [2, 10, 7, 9, 0]), ([0, 0, 1, 0, 0, 1, 0, 0, 1, 0, 1, 1, 1, 1, 1, 1], [117, 7, 2, 10, 9, 0]), ([1, 0, 1, 0, 0, 1, 0, 0, 1, 0, 1, 1, 1, 1, 1, 1], [2, 10, 7, 9, 0]), ([0, 0, 1, 0, 1, 0, 0, 1, 0, 0, 1, 0, 1, 1, 1, 1, 1, 1], [9, 2, 10, 13, 14, 7, 0]), ([0, 1, 0, 1, 0, 1, 0, 0, 1, 0, 0, 1, 0, 1, 1, 1, 1, 1, 1], [13, 15, 14, 16, 2, 10, 7, 9, 0]), ([0, 1, 1, 0, 1, 0, 1, 0, 0, 1, 0, 0, 1, 0, 1, 1, 1, 1, 1, 1], [145, 2, 10, 7, 9, 0]), ([1, 1, 1, 0, 1, 0, 1, 0, 0, 1, 0, 0, 1, 0, 1, 1, 1, 1, 1, 1], [2, 10, 7, 9, 0]), ([0, 0, 1, 1, 1, 0, 1, 0, 1, 0, 0, 1, 0, 0, 1, 0, 1, 1, 1, 1, 1, 1], [6]), ([1, 0, 1, 1, 1, 0, 1, 0, 1, 0, 0, 1, 0, 0, 1, 0, 1, 1, 1, 1, 1, 1], [6]), ([0, 0, 1, 1, 0, 0, 1, 0, 0, 1, 0, 1, 1, 1, 1, 1, 1], [151, 7, 9, 2, 10, 0]), ([1, 0, 1, 1, 0, 0, 1, 0, 0, 1, 0, 1, 1, 1, 1, 1, 1], [2, 10, 7, 9, 0]), ([0, 0, 1, 0, 1, 1, 0, 0, 1, 0, 0, 1, 0, 1, 1, 1, 1, 1, 1], [9, 2, 10, 7, 0]), ([1, 0, 1, 0, 1, 1, 0, 0, 1, 0, 0, 1, 0, 1, 1, 1, 1, 1, 1], [2, 10, 7, 9, 0]), ([0, 0, 1, 1, 1, 0, 0, 1, 0, 0, 1, 0, 1, 1, 1, 1, 1, 1], [160, 7, 9, 0, 10, 2]), ([1, 0, 1, 1, 1, 0, 0, 1, 0, 0, 1, 0, 1, 1, 1, 1, 1, 1], [7, 9, 0, 10, 2]), ([0, 0, 1, 0, 1, 1, 1, 0, 0, 1, 0, 0, 1, 0, 1, 1, 1, 1, 1, 1], [7, 17, 9, 0, 10, 2]), ([0, 1, 0, 1, 0, 1, 1, 1, 0, 0, 1, 0, 0, 1, 0, 1, 1, 1, 1, 1, 1], [17, 9, 0, 10, 2]), ([1, 1, 0, 1, 0, 1, 1, 1, 0, 0, 1, 0, 0, 1, 0, 1, 1, 1, 1, 1, 1], [7, 9, 0, 10, 2]), ([0, 1, 1, 1, 1, 0, 0, 1, 0, 0, 1, 0, 1, 1, 1, 1, 1, 1], [184, 10, 2, 9, 7, 0]), ([1, 1, 1, 1, 1, 0, 0, 1, 0, 0, 1, 0, 1, 1, 1, 1, 1, 1], [10, 2, 9, 7, 0]), ([0, 0, 1, 1, 1, 1, 1, 0, 0, 1, 0, 0, 1, 0, 1, 1, 1, 1, 1, 1], [6]), ([1, 0, 1, 1, 1, 1, 1, 0, 0, 1, 0, 0, 1, 0, 1, 1, 1, 1, 1, 1], [6]), ([0, 1, 0, 0, 1, 0, 1, 1, 1, 1, 1, 1], [10, 2, 9, 7, 0]), ([1, 1, 0, 0, 1, 0, 1, 1, 1, 1, 1, 1], [10, 2, 9, 7, 0]), ([1, 0, 1, 1, 1, 1, 1, 1], [7, 0, 9]), ([0, 1, 1, 1, 1, 1, 1, 1], [0, 7, 9]), ([0, 0, 1, 1, 1, 1, 1, 1, 1, 1], [18, 0, 7, 9]), ([0, 1, 0, 1, 1, 1, 1, 1, 1, 1, 1], [18, 0, 7, 9]), ([0, 0, 0, 0, 1, 0, 1, 1, 1, 1, 1, 1, 1, 1], [189, 7, 18, 9, 0]), ([1, 0, 0, 0, 1, 0, 1, 1, 1, 1, 1, 1, 1, 1], [7, 18, 9, 0]), ([1, 1, 0, 0, 0, 1, 0, 1, 1, 1, 1, 1, 1, 1, 1], []), ([0, 0, 0, 1, 0, 0, 1, 0, 1, 1, 1, 1, 1, 1, 1, 1], [19, 9, 18, 20, 0, 7]), ([0, 1, 0, 0, 1, 0, 0, 1, 0, 1, 1, 1, 1, 1, 1, 1, 1], [208, 18, 0, 7, 9]), ([1, 1, 0, 0, 1, 0, 0, 1, 0, 1, 1, 1, 1, 1, 1, 1, 1], [18, 0, 7, 9]), ([0, 0, 1, 1, 0, 0, 1, 0, 0, 1, 0, 1, 1, 1, 1, 1, 1, 1, 1], [6]), ([1, 0, 1, 1, 0, 0, 1, 0, 0, 1, 0, 1, 1, 1, 1, 1, 1, 1, 1], [6]), ([0, 1, 0, 0, 1, 0, 1, 1, 1, 1, 1, 1, 1, 1], [18, 0, 7, 9]), ([1, 1, 0, 0, 1, 0, 1, 1, 1, 1, 1, 1, 1, 1], [18, 0, 7, 9]), ([1, 0, 1, 1, 1, 1, 1, 1, 1, 1], []), ([0, 1, 1, 1, 1, 1, 1, 1, 1, 1], [6]), ([1, 1, 1, 1, 1, 1, 1, 1, 1, 1], [6])]

def z8 (N : Nat) : Env := z7x tys zq [(15, z69 N), (14, z6a N), (12, z66 N), (8, z5m N), (9, z6y N), (7, z7r N), (5, z6x N), (16, z2o N), (13, z30 N), (11, z3d N), (10, z2z N), (17, z1y N), (6, zd4 N)] [] [] [] false [(7, (.nb .unit)), (17, (.pair (.own (.arr 128 (.int .u8))) (.pair (.mp (.int .i64) (.int .i64)) (.pair .bool (.pair (.int .i64) .unit)))))] []

theorem z9d (N : Nat) : EnvOk Go.Proofs.Try.prog (z8 N) := z1i mixed z3w (FnsOk.cons (zan N) (FnsOk.cons (zao N) (FnsOk.cons (zcv N) (FnsOk.cons (zc3 N) (FnsOk.cons (zdt N) (FnsOk.cons (zfa N) (FnsOk.cons (zds N) (FnsOk.cons (z3x N) (FnsOk.cons (z4n N) (FnsOk.cons (z5k N) (FnsOk.cons (z4m N) (FnsOk.cons (z28 N) (FnsOk.cons (zic N) (FnsOk.nil)))))))))))))) (ItsOk.nil)

def z2l (N : Nat) (n : Int) (crashes : (List (Int × (Int × Unit)))) (l : (List (Int × (Int × ((List UInt8) × Unit))))) (k0 : Bool -> Option Bool) : Option Bool :=
 cond (decide ((20 : Int) < (((List.length crashes) : Nat) : Int)))
 (k0 true)
 (cond (decide ((60 : Int) < (((List.length l) : Nat) : Int)))
 (k0 true)
 (cond (decide ((30 : Int) < n))
 (k0 (decide (n <= (4096 : Int))))
 (k0 false)))

def z5h (N : Nat) (x : z31 [(0, .v (.int .i64)), (0, .v (.sl (.pair (.int .i64) (.pair (.int .i64) .unit)))), (0, .v (.sl (.pair (.int .i64) (.pair (.int .i64) (.pair .str .unit)))))]) (K : Ex -> List A -> Option Bool) : Option Bool :=
 z2l N x.1 x.2.1 x.2.2.1 (fun a3 => (K .normal (mkS [(0, .v (.int .i64)), (0, .v (.sl (.pair (.int .i64) (.pair (.int .i64) .unit)))), (0, .v (.sl (.pair (.int .i64) (.pair (.int .i64) (.pair .str .unit))))), (33, .v .bool)] 173 (x.1, x.2.1, x.2.2.1, a3, ()))))

def z58 (N : Nat) : Hd Bool := fun st K => (unS [(0, .v (.int .i64)), (0, .v (.sl (.pair (.int .i64) (.pair (.int .i64) .unit)))), (0, .v (.sl (.pair (.int .i64) (.pair (.int .i64) (.pair .str .unit)))))] 207 (restr [1, 2, 0] 0 st)).bind fun x => z5h N x K

def za1 (N : Nat) : Tab Bool := []

theorem z9b {N : Nat} {c : Ctx} (hb : Base Go.Proofs.Try.prog (z8 N) c) : z15 Go.Proofs.Try.prog c (zl z6 [0, 0, 1]) (z58 N) :=
  z1h (s := [(0, .v (.int .i64)), (0, .v (.sl (.pair (.int .i64) (.pair (.int .i64) .unit)))), (0, .v (.sl (.pair (.int .i64) (.pair (.int .i64) (.pair .str .unit)))))]) (m := 207) (g := z5h N) [1, 2, 0] (zn hb N (za1 N) z9 z6 TabOk.nil [0, 0, 1] _ rfl) (fun x K => by kernel_rfl)

def z2m (N : Nat) (n : Int) (crashes : (List (Int × (Int × Unit)))) (l : (List (Int × (Int × ((List UInt8) × Unit))))) (k0 : Bool -> Option Bool) (k1 : Option Bool) : Option Bool :=
 z2l N n crashes l
 (fun x36 => cond x36
 ((z1j N).bind fun y =>
 k0 y)
 (k1))

def z5i (N : Nat) (x : z31 [(0, .v (.int .i64)), (0, .v (.sl (.pair (.int .i64) (.pair (.int .i64) .unit)))), (0, .v (.sl (.pair (.int .i64) (.pair (.int .i64) (.pair .str .unit)))))]) (K : Ex -> List A -> Option Bool) : Option Bool :=
 z2m N x.1 x.2.1 x.2.2.1 (fun a0 => (K .ret (mkS [(6, .v .bool)] 203 (a0, ())))) (K .normal (mkS [(0, .v (.int .i64)), (0, .v (.sl (.pair (.int .i64) (.pair (.int .i64) .unit)))), (0, .v (.sl (.pair (.int .i64) (.pair (.int .i64) (.pair .str .unit)))))] 207 (x.1, x.2.1, x.2.2.1, ())))

def z59 (N : Nat) : Hd Bool := fun st K => (unS [(0, .v (.int .i64)), (0, .v (.sl (.pair (.int .i64) (.pair (.int .i64) .unit)))), (0, .v (.sl (.pair (.int .i64) (.pair (.int .i64) (.pair .str .unit)))))] 207 (restr [1, 2, 0] 0 st)).bind fun x => z5i N x K

def za2 (N : Nat) : Tab Bool := [([0, 0, 1], z58 N)]

theorem z9c {N : Nat} {c : Ctx} (hb : Base Go.Proofs.Try.prog (z8 N) c) : z15 Go.Proofs.Try.prog c (zl z6 [0, 1]) (z59 N) :=
  z1h (s := [(0, .v (.int .i64)), (0, .v (.sl (.pair (.int .i64) (.pair (.int .i64) .unit)))), (0, .v (.sl (.pair (.int .i64) (.pair (.int .i64) (.pair .str .unit)))))]) (m := 207) (g := z5i N) [1, 2, 0] (zn hb N (za2 N) z9 z6 (TabOk.cons (z9b hb) TabOk.nil) [0, 1] _ rfl) (fun x K => by kernel_rfl)

def z2k (N : Nat) (n : Int) (crashes : (List (Int × (Int × Unit)))) (l : (List (Int × (Int × ((List UInt8) × Unit))))) (d : (Option ((List (List Int)) × ((Option (List (Int × Int))) × (Bool × (Int × Unit)))))) (e : Int) (k0 : Bool -> Option Bool) : Option Bool :=
 cond (decide (n < (1 : Int)))
 (k0 true)
 (k0 (decide ((4096 : Int) < n)))

def z5f (N : Nat) (x : z31 [(0, .v (.int .i64)), (0, .v (.sl (.pair (.int .i64) (.pair (.int .i64) .unit)))), (0, .v (.sl (.pair (.int .i64) (.pair (.int .i64) (.pair .str .unit))))), (4, .ov (.nb (.pair (.own (.arr 128 (.int .u8))) (.pair (.mp (.int .i64) (.int .i64)) (.pair .bool (.pair (.int .i64) .unit)))))), (0, .v (.int .i64))]) (K : Ex -> List A -> Option Bool) : Option Bool :=
 z2k N x.1 x.2.1 x.2.2.1 x.2.2.2.1 x.2.2.2.2.1 (fun a5 => (K .normal (mkS [(0, .v (.int .i64)), (0, .v (.sl (.pair (.int .i64) (.pair (.int .i64) .unit)))), (0, .v (.sl (.pair (.int .i64) (.pair (.int .i64) (.pair .str .unit))))), (4, .ov (.nb (.pair (.own (.arr 128 (.int .u8))) (.pair (.mp (.int .i64) (.int .i64)) (.pair .bool (.pair (.int .i64) .unit)))))), (0, .v (.int .i64)), (40, .v .bool)] 160 (x.1, x.2.1, x.2.2.1, x.2.2.2.1, x.2.2.2.2.1, a5, ()))))

def z56 (N : Nat) : Hd Bool := fun st K => (unS [(0, .v (.int .i64)), (0, .v (.sl (.pair (.int .i64) (.pair (.int .i64) .unit)))), (0, .v (.sl (.pair (.int .i64) (.pair (.int .i64) (.pair .str .unit))))), (4, .ov (.nb (.pair (.own (.arr 128 (.int .u8))) (.pair (.mp (.int .i64) (.int .i64)) (.pair .bool (.pair (.int .i64) .unit)))))), (0, .v (.int .i64))] 201 (restr [0, 7, 8, 1, 2] 0 st)).bind fun x => z5f N x K

def z9z (N : Nat) : Tab Bool := []

theorem z99 {N : Nat} {c : Ctx} (hb : Base Go.Proofs.Try.prog (z8 N) c) : z15 Go.Proofs.Try.prog c (zl z6 [0, 0, 1, 1, 1]) (z56 N) :=
  z1h (s := [(0, .v (.int .i64)), (0, .v (.sl (.pair (.int .i64) (.pair (.int .i64) .unit)))), (0, .v (.sl (.pair (.int .i64) (.pair (.int .i64) (.pair .str .unit))))), (4, .ov (.nb (.pair (.own (.arr 128 (.int .u8))) (.pair (.mp (.int .i64) (.int .i64)) (.pair .bool (.pair (.int .i64) .unit)))))), (0, .v (.int .i64))]) (m := 201) (g := z5f N) [0, 7, 8, 1, 2] (zn hb N (z9z N) z9 z6 TabOk.nil [0, 0, 1, 1, 1] _ rfl) (fun x K => by kernel_rfl)

def z1x (N : Nat) (n : Int) (crashes : (List (Int × (Int × Unit)))) (l : (List (Int × (Int × ((List UInt8) × Unit))))) (d : (Option ((List (List Int)) × ((Option (List (Int × Int))) × (Bool × (Int × Unit)))))) (e : Int) (k0 : Bool -> Option Bool) (k1 : Option Bool) : Option Bool :=
 z2k N n crashes l d e
 (fun x49 => cond x49
 (cond (Option.isSome d)
 (k0 false)
 (cond (e == (7 : Int))
 ((z1j N).bind fun y =>
 k0 y)
 (k0 false)))
 (k1))

def z5g (N : Nat) (x : z31 [(0, .v (.int .i64)), (0, .v (.sl (.pair (.int .i64) (.pair (.int .i64) .unit)))), (0, .v (.sl (.pair (.int .i64) (.pair (.int .i64) (.pair .str .unit))))), (4, .ov (.nb (.pair (.own (.arr 128 (.int .u8))) (.pair (.mp (.int .i64) (.int .i64)) (.pair .bool (.pair (.int .i64) .unit)))))), (0, .v (.int .i64))]) (K : Ex -> List A -> Option Bool) : Option Bool :=
 z1x N x.1 x.2.1 x.2.2.1 x.2.2.2.1 x.2.2.2.2.1 (fun a0 => (K .ret (mkS [(6, .v .bool)] 203 (a0, ())))) (K .normal (mkS [(0, .v (.int .i64)), (0, .v (.sl (.pair (.int .i64) (.pair (.int .i64) .unit)))), (0, .v (.sl (.pair (.int .i64) (.pair (.int .i64) (.pair .str .unit))))), (4, .ov (.nb (.pair (.own (.arr 128 (.int .u8))) (.pair (.mp (.int .i64) (.int .i64)) (.pair .bool (.pair (.int .i64) .unit)))))), (0, .v (.int .i64))] 201 (x.1, x.2.1, x.2.2.1, x.2.2.2.1, x.2.2.2.2.1, ())))

def z57 (N : Nat) : Hd Bool := fun st K => (unS [(0, .v (.int .i64)), (0, .v (.sl (.pair (.int .i64) (.pair (.int .i64) .unit)))), (0, .v (.sl (.pair (.int .i64) (.pair (.int .i64) (.pair .str .unit))))), (4, .ov (.nb (.pair (.own (.arr 128 (.int .u8))) (.pair (.mp (.int .i64) (.int .i64)) (.pair .bool (.pair (.int .i64) .unit)))))), (0, .v (.int .i64))] 201 (restr [0, 7, 8, 1, 2] 0 st)).bind fun x => z5g N x K

def za0 (N : Nat) : Tab Bool := [([0, 0, 1, 1, 1], z56 N)]

theorem z9a {N : Nat} {c : Ctx} (hb : Base Go.Proofs.Try.prog (z8 N) c) : z15 Go.Proofs.Try.prog c (zl z6 [0, 1, 1, 1]) (z57 N) :=
  z1h (s := [(0, .v (.int .i64)), (0, .v (.sl (.pair (.int .i64) (.pair (.int .i64) .unit)))), (0, .v (.sl (.pair (.int .i64) (.pair (.int .i64) (.pair .str .unit))))), (4, .ov (.nb (.pair (.own (.arr 128 (.int .u8))) (.pair (.mp (.int .i64) (.int .i64)) (.pair .bool (.pair (.int .i64) .unit)))))), (0, .v (.int .i64))]) (m := 201) (g := z5g N) [0, 7, 8, 1, 2] (zn hb N (za0 N) z9 z6 (TabOk.cons (z99 hb) TabOk.nil) [0, 1, 1, 1] _ rfl) (fun x K => by kernel_rfl)

def z1w (N : Nat) (n : Int) (crashes : (List (Int × (Int × Unit)))) (l : (List (Int × (Int × ((List UInt8) × Unit))))) (d : (Option ((List (List Int)) × ((Option (List (Int × Int))) × (Bool × (Int × Unit)))))) (e : Int) (k0 : Bool -> Option Bool) (k1 : ((List (List Int)) × ((Option (List (Int × Int))) × (Bool × (Int × Unit)))) -> Option Bool) : Option Bool :=
 cond (Option.isSome d)
 (cond (e != (0 : Int))
 (k0 false)
 (k1 (Option.getD d (([] : List (List Int)), ((Option.none), (false, ((0 : Int), ())))))))
 (k0 false)

def z5e (N : Nat) (x : z31 [(0, .v (.int .i64)), (0, .v (.sl (.pair (.int .i64) (.pair (.int .i64) .unit)))), (0, .v (.sl (.pair (.int .i64) (.pair (.int .i64) (.pair .str .unit))))), (4, .ov (.nb (.pair (.own (.arr 128 (.int .u8))) (.pair (.mp (.int .i64) (.int .i64)) (.pair .bool (.pair (.int .i64) .unit)))))), (0, .v (.int .i64))]) (K : Ex -> List A -> Option Bool) : Option Bool :=
 z1w N x.1 x.2.1 x.2.2.1 x.2.2.2.1 x.2.2.2.2.1 (fun a0 => (K .ret (mkS [(6, .v .bool)] 203 (a0, ())))) (fun a3 => (K .normal (mkS [(0, .v (.int .i64)), (0, .v (.sl (.pair (.int .i64) (.pair (.int .i64) .unit)))), (0, .v (.sl (.pair (.int .i64) (.pair (.int .i64) (.pair .str .unit))))), (4, .box (.pair (.own (.arr 128 (.int .u8))) (.pair (.mp (.int .i64) (.int .i64)) (.pair .bool (.pair (.int .i64) .unit)))))] 202 (x.1, x.2.1, x.2.2.1, a3, ()))))

def z55 (N : Nat) : Hd Bool := fun st K => (unS [(0, .v (.int .i64)), (0, .v (.sl (.pair (.int .i64) (.pair (.int .i64) .unit)))), (0, .v (.sl (.pair (.int .i64) (.pair (.int .i64) (.pair .str .unit))))), (4, .ov (.nb (.pair (.own (.arr 128 (.int .u8))) (.pair (.mp (.int .i64) (.int .i64)) (.pair .bool (.pair (.int .i64) .unit)))))), (0, .v (.int .i64))] 201 (restr [7, 8, 0, 1, 2] 0 st)).bind fun x => z5e N x K

def z9y (N : Nat) : Tab Bool := []

theorem z98 {N : Nat} {c : Ctx} (hb : Base Go.Proofs.Try.prog (z8 N) c) : z15 Go.Proofs.Try.prog c (zl z6 [0, 1, 1, 1, 1]) (z55 N) :=
  z1h (s := [(0, .v (.int .i64)), (0, .v (.sl (.pair (.int .i64) (.pair (.int .i64) .unit)))), (0, .v (.sl (.pair (.int .i64) (.pair (.int .i64) (.pair .str .unit))))), (4, .ov (.nb (.pair (.own (.arr 128 (.int .u8))) (.pair (.mp (.int .i64) (.int .i64)) (.pair .bool (.pair (.int .i64) .unit)))))), (0, .v (.int .i64))]) (m := 201) (g := z5e N) [7, 8, 0, 1, 2] (zn hb N (z9y N) z9 z6 TabOk.nil [0, 1, 1, 1, 1] _ rfl) (fun x K => by kernel_rfl)

def z1u (N : Nat) (n : Int) (l : (List (Int × (Int × ((List UInt8) × Unit))))) (d : ((List (List Int)) × ((Option (List (Int × Int))) × (Bool × (Int × Unit))))) (r_ : ((List (List UInt8)) × ((List (Int × (Int × Unit))) × (Int × (Bool × Unit))))) (i : Int) (k0 : Bool -> Option Bool) (k1 : ((List (List Int)) × ((Option (List (Int × Int))) × (Bool × (Int × Unit)))) -> ((List (List UInt8)) × ((List (Int × (Int × Unit))) × (Int × (Bool × Unit)))) -> Option Bool) : Option Bool :=
 cond (Go.Lift.inR i (List.length l))
 (cond ((List.getD l (Int.toNat i) ((0 : Int), ((0 : Int), (([] : List UInt8), ())))).1 == (0 : Int))
 (cond (Go.Lift.inR i (List.length l))
 (cond (Go.Lift.inR i (List.length l))
 ((z18 N (List.getD l (Int.toNat i) ((0 : Int), ((0 : Int), (([] : List UInt8), ())))).2.2.1).bind fun y =>
 (z26 N r_ (List.getD l (Int.toNat i) ((0 : Int), ((0 : Int), (([] : List UInt8), ())))).2.1 y).bind fun y1 =>
 cond (Go.Lift.inR i (List.length l))
 (cond (Go.Lift.inR i (List.length l))
 ((z18 N (List.getD l (Int.toNat i) ((0 : Int), ((0 : Int), (([] : List UInt8), ())))).2.2.1).bind fun y2 =>
 (z12 N d (List.getD l (Int.toNat i) ((0 : Int), ((0 : Int), (([] : List UInt8), ())))).2.1 y2).bind fun y3 =>
 cond (y3.1 != y1.2.1)
 (k0 false)
 (k1 y3.2.1 y1.1))
 (none))
 (none))
 (none))
 (none))
 (k1 d r_))
 (none)

def z5b (N : Nat) (x : z31 [(0, .v (.int .i64)), (1, .v (.sl (.pair (.int .i64) (.pair (.int .i64) (.pair .str .unit))))), (4, .box (.pair (.own (.arr 128 (.int .u8))) (.pair (.mp (.int .i64) (.int .i64)) (.pair .bool (.pair (.int .i64) .unit))))), (1, .box (.pair (.sl .str) (.pair (.sl (.pair (.int .i64) (.pair (.int .i64) .unit))) (.pair (.int .i64) (.pair .bool .unit))))), (0, .v (.int .i64))]) (K : Ex -> List A -> Option Bool) : Option Bool :=
 z1u N x.1 x.2.1 x.2.2.1 x.2.2.2.1 x.2.2.2.2.1 (fun a0 => (K .ret (mkS [(6, .v .bool)] 203 (a0, ())))) (fun a2 a3 => (K .normal (mkS [(0, .v (.int .i64)), (1, .v (.sl (.pair (.int .i64) (.pair (.int .i64) (.pair .str .unit))))), (4, .box (.pair (.own (.arr 128 (.int .u8))) (.pair (.mp (.int .i64) (.int .i64)) (.pair .bool (.pair (.int .i64) .unit))))), (1, .box (.pair (.sl .str) (.pair (.sl (.pair (.int .i64) (.pair (.int .i64) .unit))) (.pair (.int .i64) (.pair .bool .unit))))), (0, .v (.int .i64))] 199 (x.1, x.2.1, a2, a3, x.2.2.2.2.1, ()))))

def z52 (N : Nat) : Hd Bool := fun st K => (unS [(0, .v (.int .i64)), (1, .v (.sl (.pair (.int .i64) (.pair (.int .i64) (.pair .str .unit))))), (4, .box (.pair (.own (.arr 128 (.int .u8))) (.pair (.mp (.int .i64) (.int .i64)) (.pair .bool (.pair (.int .i64) .unit))))), (1, .box (.pair (.sl .str) (.pair (.sl (.pair (.int .i64) (.pair (.int .i64) .unit))) (.pair (.int .i64) (.pair .bool .unit))))), (0, .v (.int .i64))] 199 (restr [2, 10, 9, 7, 0] 0 st)).bind fun x => z5b N x K

def z9v (N : Nat) : Tab Bool := []

theorem z95 {N : Nat} {c : Ctx} (hb : Base Go.Proofs.Try.prog (z8 N) c) : z15 Go.Proofs.Try.prog c (zl z6 [0, 0, 0, 1, 0, 0, 1, 0, 1, 1, 1, 1, 1, 1]) (z52 N) :=
  z1h (s := [(0, .v (.int .i64)), (1, .v (.sl (.pair (.int .i64) (.pair (.int .i64) (.pair .str .unit))))), (4, .box (.pair (.own (.arr 128 (.int .u8))) (.pair (.mp (.int .i64) (.int .i64)) (.pair .bool (.pair (.int .i64) .unit))))), (1, .box (.pair (.sl .str) (.pair (.sl (.pair (.int .i64) (.pair (.int .i64) .unit))) (.pair (.int .i64) (.pair .bool .unit))))), (0, .v (.int .i64))]) (m := 199) (g := z5b N) [2, 10, 9, 7, 0] (zn hb N (z9v N) z9 z6 TabOk.nil [0, 0, 0, 1, 0, 0, 1, 0, 1, 1, 1, 1, 1, 1] _ rfl) (fun x K => by kernel_rfl)

def z2d (N : Nat) (n : Int) (l : (List (Int × (Int × ((List UInt8) × Unit))))) (d : ((List (List Int)) × ((Option (List (Int × Int))) × (Bool × (Int × Unit))))) (r_ : ((List (List UInt8)) × ((List (Int × (Int × Unit))) × (Int × (Bool × Unit))))) (i : Int) (s : (List UInt8)) (f : Int) (t : (List UInt8)) (g : Int) (k0 : Bool -> Option Bool) : Option Bool :=
 cond (!(s == t))
 (k0 true)
 (k0 (f != g))

def z4l (N : Nat) (x : z31 [(0, .v (.int .i64)), (1, .v (.sl (.pair (.int .i64) (.pair (.int .i64) (.pair .str .unit))))), (4, .box (.pair (.own (.arr 128 (.int .u8))) (.pair (.mp (.int .i64) (.int .i64)) (.pair .bool (.pair (.int .i64) .unit))))), (1, .box (.pair (.sl .str) (.pair (.sl (.pair (.int .i64) (.pair (.int .i64) .unit))) (.pair (.int .i64) (.pair .bool .unit))))), (0, .v (.int .i64)), (2, .v .str), (0, .v (.int .i64)), (0, .v .str), (0, .v (.int .i64))]) (K : Ex -> List A -> Option Bool) : Option Bool :=
 z2d N x.1 x.2.1 x.2.2.1 x.2.2.2.1 x.2.2.2.2.1 x.2.2.2.2.2.1 x.2.2.2.2.2.2.1 x.2.2.2.2.2.2.2.1 x.2.2.2.2.2.2.2.2.1 (fun a5 => (K .normal (mkS [(0, .v (.int .i64)), (1, .v (.sl (.pair (.int .i64) (.pair (.int .i64) (.pair .str .unit))))), (4, .box (.pair (.own (.arr 128 (.int .u8))) (.pair (.mp (.int .i64) (.int .i64)) (.pair .bool (.pair (.int .i64) .unit))))), (1, .box (.pair (.sl .str) (.pair (.sl (.pair (.int .i64) (.pair (.int .i64) .unit))) (.pair (.int .i64) (.pair .bool .unit))))), (0, .v (.int .i64)), (134, .v .bool)] 64 (x.1, x.2.1, x.2.2.1, x.2.2.2.1, x.2.2.2.2.1, a5, ()))))

def z4e (N : Nat) : Hd Bool := fun st K => (unS [(0, .v (.int .i64)), (1, .v (.sl (.pair (.int .i64) (.pair (.int .i64) (.pair .str .unit))))), (4, .box (.pair (.own (.arr 128 (.int .u8))) (.pair (.mp (.int .i64) (.int .i64)) (.pair .bool (.pair (.int .i64) .unit))))), (1, .box (.pair (.sl .str) (.pair (.sl (.pair (.int .i64) (.pair (.int .i64) .unit))) (.pair (.int .i64) (.pair .bool .unit))))), (0, .v (.int .i64)), (2, .v .str), (0, .v (.int .i64)), (0, .v .str), (0, .v (.int .i64))] 193 (restr [13, 15, 14, 16, 2, 10, 7, 9, 0] 0 st)).bind fun x => z4l N x K

def z92 (N : Nat) : Tab Bool := []

theorem z8c {N : Nat} {c : Ctx} (hb : Base Go.Proofs.Try.prog (z8 N) c) : z15 Go.Proofs.Try.prog c (zl z6 [0, 1, 1, 0, 1, 0, 1, 0, 0, 1, 0, 0, 1, 0, 1, 1, 1, 1, 1, 1]) (z4e N) :=
  z1h (s := [(0, .v (.int .i64)), (1, .v (.sl (.pair (.int .i64) (.pair (.int .i64) (.pair .str .unit))))), (4, .box (.pair (.own (.arr 128 (.int .u8))) (.pair (.mp (.int .i64) (.int .i64)) (.pair .bool (.pair (.int .i64) .unit))))), (1, .box (.pair (.sl .str) (.pair (.sl (.pair (.int .i64) (.pair (.int .i64) .unit))) (.pair (.int .i64) (.pair .bool .unit))))), (0, .v (.int .i64)), (2, .v .str), (0, .v (.int .i64)), (0, .v .str), (0, .v (.int .i64))]) (m := 193) (g := z4l N) [13, 15, 14, 16, 2, 10, 7, 9, 0] (zn hb N (z92 N) z9 z6 TabOk.nil [0, 1, 1, 0, 1, 0, 1, 0, 0, 1, 0, 0, 1, 0, 1, 1, 1, 1, 1, 1] _ rfl) (fun x K => by kernel_rfl)

def z1t (N : Nat) (n : Int) (l : (List (Int × (Int × ((List UInt8) × Unit))))) (d : ((List (List Int)) × ((Option (List (Int × Int))) × (Bool × (Int × Unit))))) (r_ : ((List (List UInt8)) × ((List (Int × (Int × Unit))) × (Int × (Bool × Unit))))) (i : Int) (k0 : Bool -> Option Bool) (k1 : ((List (List Int)) × ((Option (List (Int × Int))) × (Bool × (Int × Unit)))) -> Option Bool) : Option Bool :=
 cond (Go.Lift.inR i (List.length l))
 (cond ((List.getD l (Int.toNat i) ((0 : Int), ((0 : Int), (([] : List UInt8), ())))).1 == (1 : Int))
 (cond (Go.Lift.inR i (List.length l))
 ((z1c N d (List.getD l (Int.toNat i) ((0 : Int), ((0 : Int), (([] : List UInt8), ())))).2.1).bind fun y =>
 cond (Go.Lift.inR i (List.length l))
 ((z29 N r_ (List.getD l (Int.toNat i) ((0 : Int), ((0 : Int), (([] : List UInt8), ())))).2.1).bind fun y1 =>
 z2d N n l y.2.1 r_ i y.1.1 y.1.2.1 y1.1 y1.2.1
 (fun x145 => cond x145
 (k0 false)
 (k1 y.2.1)))
 (none))
 (none))
 (k1 d))
 (none)

def z5a (N : Nat) (x : z31 [(0, .v (.int .i64)), (1, .v (.sl (.pair (.int .i64) (.pair (.int .i64) (.pair .str .unit))))), (4, .box (.pair (.own (.arr 128 (.int .u8))) (.pair (.mp (.int .i64) (.int .i64)) (.pair .bool (.pair (.int .i64) .unit))))), (1, .box (.pair (.sl .str) (.pair (.sl (.pair (.int .i64) (.pair (.int .i64) .unit))) (.pair (.int .i64) (.pair .bool .unit))))), (0, .v (.int .i64))]) (K : Ex -> List A -> Option Bool) : Option Bool :=
 z1t N x.1 x.2.1 x.2.2.1 x.2.2.2.1 x.2.2.2.2.1 (fun a0 => (K .ret (mkS [(6, .v .bool)] 203 (a0, ())))) (fun a2 => (K .normal (mkS [(0, .v (.int .i64)), (1, .v (.sl (.pair (.int .i64) (.pair (.int .i64) (.pair .str .unit))))), (4, .box (.pair (.own (.arr 128 (.int .u8))) (.pair (.mp (.int .i64) (.int .i64)) (.pair .bool (.pair (.int .i64) .unit))))), (1, .box (.pair (.sl .str) (.pair (.sl (.pair (.int .i64) (.pair (.int .i64) .unit))) (.pair (.int .i64) (.pair .bool .unit))))), (0, .v (.int .i64))] 199 (x.1, x.2.1, a2, x.2.2.2.1, x.2.2.2.2.1, ()))))

def z51 (N : Nat) : Hd Bool := fun st K => (unS [(0, .v (.int .i64)), (1, .v (.sl (.pair (.int .i64) (.pair (.int .i64) (.pair .str .unit))))), (4, .box (.pair (.own (.arr 128 (.int .u8))) (.pair (.mp (.int .i64) (.int .i64)) (.pair .bool (.pair (.int .i64) .unit))))), (1, .box (.pair (.sl .str) (.pair (.sl (.pair (.int .i64) (.pair (.int .i64) .unit))) (.pair (.int .i64) (.pair .bool .unit))))), (0, .v (.int .i64))] 199 (restr [2, 10, 7, 9, 0] 0 st)).bind fun x => z5a N x K

def z9u (N : Nat) : Tab Bool := [([0, 1, 1, 0, 1, 0, 1, 0, 0, 1, 0, 0, 1, 0, 1, 1, 1, 1, 1, 1], z4e N)]

theorem z94 {N : Nat} {c : Ctx} (hb : Base Go.Proofs.Try.prog (z8 N) c) : z15 Go.Proofs.Try.prog c (zl z6 [0, 1, 0, 0, 1, 0, 0, 1, 0, 1, 1, 1, 1, 1, 1]) (z51 N) :=
  z1h (s := [(0, .v (.int .i64)), (1, .v (.sl (.pair (.int .i64) (.pair (.int .i64) (.pair .str .unit))))), (4, .box (.pair (.own (.arr 128 (.int .u8))) (.pair (.mp (.int .i64) (.int .i64)) (.pair .bool (.pair (.int .i64) .unit))))), (1, .box (.pair (.sl .str) (.pair (.sl (.pair (.int .i64) (.pair (.int .i64) .unit))) (.pair (.int .i64) (.pair .bool .unit))))), (0, .v (.int .i64))]) (m := 199) (g := z5a N) [2, 10, 7, 9, 0] (zn hb N (z9u N) z9 z6 (TabOk.cons (z8c hb) TabOk.nil) [0, 1, 0, 0, 1, 0, 0, 1, 0, 1, 1, 1, 1, 1, 1] _ rfl) (fun x K => by kernel_rfl)

def z1p (N : Nat) (n : Int) (l : (List (Int × (Int × ((List UInt8) × Unit))))) (d : ((List (List Int)) × ((Option (List (Int × Int))) × (Bool × (Int × Unit))))) (r_ : ((List (List UInt8)) × ((List (Int × (Int × Unit))) × (Int × (Bool × Unit))))) (i : Int) (k0 : ((List (List Int)) × ((Option (List (Int × Int))) × (Bool × (Int × Unit)))) -> ((List (List UInt8)) × ((List (Int × (Int × Unit))) × (Int × (Bool × Unit)))) -> Option Bool) : Option Bool :=
 cond (Go.Lift.inR i (List.length l))
 (cond ((List.getD l (Int.toNat i) ((0 : Int), ((0 : Int), (([] : List UInt8), ())))).1 == (2 : Int))
 (k0 (d.1, (d.2.1, (false, d.2.2.2))) (r_.1, (r_.2.1, (r_.2.2.1, (false, r_.2.2.2.2)))))
 (k0 d r_))
 (none)

def z4k (N : Nat) (x : z31 [(0, .v (.int .i64)), (1, .v (.sl (.pair (.int .i64) (.pair (.int .i64) (.pair .str .unit))))), (4, .box (.pair (.own (.arr 128 (.int .u8))) (.pair (.mp (.int .i64) (.int .i64)) (.pair .bool (.pair (.int .i64) .unit))))), (1, .box (.pair (.sl .str) (.pair (.sl (.pair (.int .i64) (.pair (.int .i64) .unit))) (.pair (.int .i64) (.pair .bool .unit))))), (0, .v (.int .i64))]) (K : Ex -> List A -> Option Bool) : Option Bool :=
 z1p N x.1 x.2.1 x.2.2.1 x.2.2.2.1 x.2.2.2.2.1 (fun a2 a3 => (K .normal (mkS [(0, .v (.int .i64)), (1, .v (.sl (.pair (.int .i64) (.pair (.int .i64) (.pair .str .unit))))), (4, .box (.pair (.own (.arr 128 (.int .u8))) (.pair (.mp (.int .i64) (.int .i64)) (.pair .bool (.pair (.int .i64) .unit))))), (1, .box (.pair (.sl .str) (.pair (.sl (.pair (.int .i64) (.pair (.int .i64) .unit))) (.pair (.int .i64) (.pair .bool .unit))))), (0, .v (.int .i64))] 199 (x.1, x.2.1, a2, a3, x.2.2.2.2.1, ()))))

def z4d (N : Nat) : Hd Bool := fun st K => (unS [(0, .v (.int .i64)), (1, .v (.sl (.pair (.int .i64) (.pair (.int .i64) (.pair .str .unit))))), (4, .box (.pair (.own (.arr 128 (.int .u8))) (.pair (.mp (.int .i64) (.int .i64)) (.pair .bool (.pair (.int .i64) .unit))))), (1, .box (.pair (.sl .str) (.pair (.sl (.pair (.int .i64) (.pair (.int .i64) .unit))) (.pair (.int .i64) (.pair .bool .unit))))), (0, .v (.int .i64))] 199 (restr [2, 10, 7, 9, 0] 0 st)).bind fun x => z4k N x K

def z91 (N : Nat) : Tab Bool := []

theorem z8b {N : Nat} {c : Ctx} (hb : Base Go.Proofs.Try.prog (z8 N) c) : z15 Go.Proofs.Try.prog c (zl z6 [0, 1, 1, 0, 0, 1, 0, 0, 1, 0, 1, 1, 1, 1, 1, 1]) (z4d N) :=
  z1h (s := [(0, .v (.int .i64)), (1, .v (.sl (.pair (.int .i64) (.pair (.int .i64) (.pair .str .unit))))), (4, .box (.pair (.own (.arr 128 (.int .u8))) (.pair (.mp (.int .i64) (.int .i64)) (.pair .bool (.pair (.int .i64) .unit))))), (1, .box (.pair (.sl .str) (.pair (.sl (.pair (.int .i64) (.pair (.int .i64) .unit))) (.pair (.int .i64) (.pair .bool .unit))))), (0, .v (.int .i64))]) (m := 199) (g := z4k N) [2, 10, 7, 9, 0] (zn hb N (z91 N) z9 z6 TabOk.nil [0, 1, 1, 0, 0, 1, 0, 0, 1, 0, 1, 1, 1, 1, 1, 1] _ rfl) (fun x K => by kernel_rfl)

def z1o (N : Nat) (n : Int) (l : (List (Int × (Int × ((List UInt8) × Unit))))) (d : ((List (List Int)) × ((Option (List (Int × Int))) × (Bool × (Int × Unit))))) (r_ : ((List (List UInt8)) × ((List (Int × (Int × Unit))) × (Int × (Bool × Unit))))) (i : Int) (k0 : ((List (List Int)) × ((Option (List (Int × Int))) × (Bool × (Int × Unit)))) -> Option Bool) : Option Bool :=
 cond (Go.Lift.inR i (List.length l))
 (cond ((List.getD l (Int.toNat i) ((0 : Int), ((0 : Int), (([] : List UInt8), ())))).1 == (3 : Int))
 ((z6n N d).bind fun y =>
 cond (Option.isSome y.1)
 ((z12 N y.2.1 (0 : Int) (([(111 : UInt8), (116 : UInt8), (104 : UInt8), (101 : UInt8), (114 : UInt8)] : List UInt8) ++ (Go.Lift.toStr (List.replicate (Int.toNat (Go.IntKind.wrap Go.IntKind.i64 ((128 : Int) - (5 : Int)))) (0 : Int))))).bind fun y1 =>
 k0 (Option.getD y.1 (([] : List (List Int)), ((Option.none), (false, ((0 : Int), ()))))))
 (none))
 (k0 d))
 (none)

def z4j (N : Nat) (x : z31 [(0, .v (.int .i64)), (1, .v (.sl (.pair (.int .i64) (.pair (.int .i64) (.pair .str .unit))))), (4, .box (.pair (.own (.arr 128 (.int .u8))) (.pair (.mp (.int .i64) (.int .i64)) (.pair .bool (.pair (.int .i64) .unit))))), (1, .box (.pair (.sl .str) (.pair (.sl (.pair (.int .i64) (.pair (.int .i64) .unit))) (.pair (.int .i64) (.pair .bool .unit))))), (0, .v (.int .i64))]) (K : Ex -> List A -> Option Bool) : Option Bool :=
 z1o N x.1 x.2.1 x.2.2.1 x.2.2.2.1 x.2.2.2.2.1 (fun a2 => (K .normal (mkS [(0, .v (.int .i64)), (1, .v (.sl (.pair (.int .i64) (.pair (.int .i64) (.pair .str .unit))))), (4, .box (.pair (.own (.arr 128 (.int .u8))) (.pair (.mp (.int .i64) (.int .i64)) (.pair .bool (.pair (.int .i64) .unit))))), (1, .box (.pair (.sl .str) (.pair (.sl (.pair (.int .i64) (.pair (.int .i64) .unit))) (.pair (.int .i64) (.pair .bool .unit))))), (0, .v (.int .i64))] 199 (x.1, x.2.1, a2, x.2.2.2.1, x.2.2.2.2.1, ()))))

def z4c (N : Nat) : Hd Bool := fun st K => (unS [(0, .v (.int .i64)), (1, .v (.sl (.pair (.int .i64) (.pair (.int .i64) (.pair .str .unit))))), (4, .box (.pair (.own (.arr 128 (.int .u8))) (.pair (.mp (.int .i64) (.int .i64)) (.pair .bool (.pair (.int .i64) .unit))))), (1, .box (.pair (.sl .str) (.pair (.sl (.pair (.int .i64) (.pair (.int .i64) .unit))) (.pair (.int .i64) (.pair .bool .unit))))), (0, .v (.int .i64))] 199 (restr [2, 10, 7, 9, 0] 0 st)).bind fun x => z4j N x K

def z90 (N : Nat) : Tab Bool := []

theorem z8a {N : Nat} {c : Ctx} (hb : Base Go.Proofs.Try.prog (z8 N) c) : z15 Go.Proofs.Try.prog c (zl z6 [0, 1, 1, 1, 0, 0, 1, 0, 0, 1, 0, 1, 1, 1, 1, 1, 1]) (z4c N) :=
  z1h (s := [(0, .v (.int .i64)), (1, .v (.sl (.pair (.int .i64) (.pair (.int .i64) (.pair .str .unit))))), (4, .box (.pair (.own (.arr 128 (.int .u8))) (.pair (.mp (.int .i64) (.int .i64)) (.pair .bool (.pair (.int .i64) .unit))))), (1, .box (.pair (.sl .str) (.pair (.sl (.pair (.int .i64) (.pair (.int .i64) .unit))) (.pair (.int .i64) (.pair .bool .unit))))), (0, .v (.int .i64))]) (m := 199) (g := z4j N) [2, 10, 7, 9, 0] (zn hb N (z90 N) z9 z6 TabOk.nil [0, 1, 1, 1, 0, 0, 1, 0, 0, 1, 0, 1, 1, 1, 1, 1, 1] _ rfl) (fun x K => by kernel_rfl)

def z1n (N : Nat) (n : Int) (l : (List (Int × (Int × ((List UInt8) × Unit))))) (d : ((List (List Int)) × ((Option (List (Int × Int))) × (Bool × (Int × Unit))))) (r_ : ((List (List UInt8)) × ((List (Int × (Int × Unit))) × (Int × (Bool × Unit))))) (i : Int) (k0 : Bool -> Option Bool) : Option Bool :=
 cond (!(d.2.2.1 == r_.2.2.2.1))
 (k0 true)
 (cond (d.2.2.2.1 != r_.2.2.1)
 (k0 true)
 (k0 ((((List.length d.1) : Nat) : Int) != n)))

def z4i (N : Nat) (x : z31 [(0, .v (.int .i64)), (1, .v (.sl (.pair (.int .i64) (.pair (.int .i64) (.pair .str .unit))))), (4, .box (.pair (.own (.arr 128 (.int .u8))) (.pair (.mp (.int .i64) (.int .i64)) (.pair .bool (.pair (.int .i64) .unit))))), (1, .box (.pair (.sl .str) (.pair (.sl (.pair (.int .i64) (.pair (.int .i64) .unit))) (.pair (.int .i64) (.pair .bool .unit))))), (0, .v (.int .i64))]) (K : Ex -> List A -> Option Bool) : Option Bool :=
 z1n N x.1 x.2.1 x.2.2.1 x.2.2.2.1 x.2.2.2.2.1 (fun a5 => (K .normal (mkS [(0, .v (.int .i64)), (1, .v (.sl (.pair (.int .i64) (.pair (.int .i64) (.pair .str .unit))))), (4, .box (.pair (.own (.arr 128 (.int .u8))) (.pair (.mp (.int .i64) (.int .i64)) (.pair .bool (.pair (.int .i64) .unit))))), (1, .box (.pair (.sl .str) (.pair (.sl (.pair (.int .i64) (.pair (.int .i64) .unit))) (.pair (.int .i64) (.pair .bool .unit))))), (0, .v (.int .i64)), (173, .v .bool)] 25 (x.1, x.2.1, x.2.2.1, x.2.2.2.1, x.2.2.2.2.1, a5, ()))))

def z4b (N : Nat) : Hd Bool := fun st K => (unS [(0, .v (.int .i64)), (1, .v (.sl (.pair (.int .i64) (.pair (.int .i64) (.pair .str .unit))))), (4, .box (.pair (.own (.arr 128 (.int .u8))) (.pair (.mp (.int .i64) (.int .i64)) (.pair .bool (.pair (.int .i64) .unit))))), (1, .box (.pair (.sl .str) (.pair (.sl (.pair (.int .i64) (.pair (.int .i64) .unit))) (.pair (.int .i64) (.pair .bool .unit))))), (0, .v (.int .i64))] 199 (restr [7, 9, 0, 10, 2] 0 st)).bind fun x => z4i N x K

def z8z (N : Nat) : Tab Bool := []

theorem z89 {N : Nat} {c : Ctx} (hb : Base Go.Proofs.Try.prog (z8 N) c) : z15 Go.Proofs.Try.prog c (zl z6 [0, 1, 1, 1, 1, 0, 0, 1, 0, 0, 1, 0, 1, 1, 1, 1, 1, 1]) (z4b N) :=
  z1h (s := [(0, .v (.int .i64)), (1, .v (.sl (.pair (.int .i64) (.pair (.int .i64) (.pair .str .unit))))), (4, .box (.pair (.own (.arr 128 (.int .u8))) (.pair (.mp (.int .i64) (.int .i64)) (.pair .bool (.pair (.int .i64) .unit))))), (1, .box (.pair (.sl .str) (.pair (.sl (.pair (.int .i64) (.pair (.int .i64) .unit))) (.pair (.int .i64) (.pair .bool .unit))))), (0, .v (.int .i64))]) (m := 199) (g := z4i N) [7, 9, 0, 10, 2] (zn hb N (z8z N) z9 z6 TabOk.nil [0, 1, 1, 1, 1, 0, 0, 1, 0, 0, 1, 0, 1, 1, 1, 1, 1, 1] _ rfl) (fun x K => by kernel_rfl)

def z1v (N : Nat) (n : Int) (l : (List (Int × (Int × ((List UInt8) × Unit))))) (d : ((List (List Int)) × ((Option (List (Int × Int))) × (Bool × (Int × Unit))))) (r_ : ((List (List UInt8)) × ((List (Int × (Int × Unit))) × (Int × (Bool × Unit))))) (i : Int) (k0 : Bool -> Option Bool) (k1 : ((List (List Int)) × ((Option (List (Int × Int))) × (Bool × (Int × Unit)))) -> ((List (List UInt8)) × ((List (Int × (Int × Unit))) × (Int × (Bool × Unit)))) -> Option Bool) : Option Bool :=
 z1u N n l d r_ i
 (fun x6 => k0 x6)
 (fun d1 r_1 => z1t N n l d1 r_1 i
 (fun x61 => k0 x61)
 (fun d2 => z1p N n l d2 r_1 i
 (fun d3 r_2 => z1o N n l d3 r_2 i
 (fun d4 => z1n N n l d4 r_2 i
 (fun x184 => cond x184
 (k0 false)
 (k1 d4 r_2))))))

def z5c (N : Nat) (x : z31 [(0, .v (.int .i64)), (1, .v (.sl (.pair (.int .i64) (.pair (.int .i64) (.pair .str .unit))))), (4, .box (.pair (.own (.arr 128 (.int .u8))) (.pair (.mp (.int .i64) (.int .i64)) (.pair .bool (.pair (.int .i64) .unit))))), (1, .box (.pair (.sl .str) (.pair (.sl (.pair (.int .i64) (.pair (.int .i64) .unit))) (.pair (.int .i64) (.pair .bool .unit))))), (0, .v (.int .i64))]) (K : Ex -> List A -> Option Bool) : Option Bool :=
 z1v N x.1 x.2.1 x.2.2.1 x.2.2.2.1 x.2.2.2.2.1 (fun a0 => (K .ret (mkS [(6, .v .bool)] 203 (a0, ())))) (fun a2 a3 => (K .normal (mkS [(0, .v (.int .i64)), (1, .v (.sl (.pair (.int .i64) (.pair (.int .i64) (.pair .str .unit))))), (4, .box (.pair (.own (.arr 128 (.int .u8))) (.pair (.mp (.int .i64) (.int .i64)) (.pair .bool (.pair (.int .i64) .unit))))), (1, .box (.pair (.sl .str) (.pair (.sl (.pair (.int .i64) (.pair (.int .i64) .unit))) (.pair (.int .i64) (.pair .bool .unit))))), (0, .v (.int .i64))] 199 (x.1, x.2.1, a2, a3, x.2.2.2.2.1, ()))))

def z53 (N : Nat) : Hd Bool := fun st K => (unS [(0, .v (.int .i64)), (1, .v (.sl (.pair (.int .i64) (.pair (.int .i64) (.pair .str .unit))))), (4, .box (.pair (.own (.arr 128 (.int .u8))) (.pair (.mp (.int .i64) (.int .i64)) (.pair .bool (.pair (.int .i64) .unit))))), (1, .box (.pair (.sl .str) (.pair (.sl (.pair (.int .i64) (.pair (.int .i64) .unit))) (.pair (.int .i64) (.pair .bool .unit))))), (0, .v (.int .i64))] 199 (restr [2, 10, 9, 7, 0] 0 st)).bind fun x => z5c N x K

def z9w (N : Nat) : Tab Bool := [([0, 0, 0, 1, 0, 0, 1, 0, 1, 1, 1, 1, 1, 1], z52 N), ([0, 1, 0, 0, 1, 0, 0, 1, 0, 1, 1, 1, 1, 1, 1], z51 N), ([0, 1, 1, 0, 0, 1, 0, 0, 1, 0, 1, 1, 1, 1, 1, 1], z4d N), ([0, 1, 1, 1, 0, 0, 1, 0, 0, 1, 0, 1, 1, 1, 1, 1, 1], z4c N), ([0, 1, 1, 1, 1, 0, 0, 1, 0, 0, 1, 0, 1, 1, 1, 1, 1, 1], z4b N)]

theorem z96 {N : Nat} {c : Ctx} (hb : Base Go.Proofs.Try.prog (z8 N) c) : z15 Go.Proofs.Try.prog c (zl z6 [0, 1, 0, 0, 1, 0, 1, 1, 1, 1, 1, 1]) (z53 N) :=
  z1h (s := [(0, .v (.int .i64)), (1, .v (.sl (.pair (.int .i64) (.pair (.int .i64) (.pair .str .unit))))), (4, .box (.pair (.own (.arr 128 (.int .u8))) (.pair (.mp (.int .i64) (.int .i64)) (.pair .bool (.pair (.int .i64) .unit))))), (1, .box (.pair (.sl .str) (.pair (.sl (.pair (.int .i64) (.pair (.int .i64) .unit))) (.pair (.int .i64) (.pair .bool .unit))))), (0, .v (.int .i64))]) (m := 199) (g := z5c N) [2, 10, 9, 7, 0] (zn hb N (z9w N) z9 z6 (TabOk.cons (z95 hb) (TabOk.cons (z94 hb) (TabOk.cons (z8b hb) (TabOk.cons (z8a hb) (TabOk.cons (z89 hb) TabOk.nil))))) [0, 1, 0, 0, 1, 0, 1, 1, 1, 1, 1, 1] _ rfl) (fun x K => by kernel_rfl)

def z2i (N : Nat) (n : Int) (l : (List (Int × (Int × ((List UInt8) × Unit))))) (d : ((List (List Int)) × ((Option (List (Int × Int))) × (Bool × (Int × Unit))))) (r_ : ((List (List UInt8)) × ((List (Int × (Int × Unit))) × (Int × (Bool × Unit))))) (i : Int) (rec : ((List (List Int)) × ((Option (List (Int × Int))) × (Bool × (Int × Unit)))) -> ((List (List UInt8)) × ((List (Int × (Int × Unit))) × (Int × (Bool × Unit)))) -> Int -> Option Bool) (k0 : Bool -> Option Bool) (k1 : ((List (List Int)) × ((Option (List (Int × Int))) × (Bool × (Int × Unit)))) -> ((List (List UInt8)) × ((List (Int × (Int × Unit))) × (Int × (Bool × Unit)))) -> Option Bool) : Option Bool :=
 cond (decide (i < (((List.length l) : Nat) : Int)))
 (z1v N n l d r_ i
 (fun x6 => k0 x6)
 (fun d1 r_1 => rec d1 r_1 (Go.IntKind.wrap Go.IntKind.i64 (i + (1 : Int)))))
 (k1 d r_)

def z2j (N : Nat) (n : Int) (l : (List (Int × (Int × ((List UInt8) × Unit))))) (d : ((List (List Int)) × ((Option (List (Int × Int))) × (Bool × (Int × Unit))))) (r_ : ((List (List UInt8)) × ((List (Int × (Int × Unit))) × (Int × (Bool × Unit))))) (i : Int) (k0 : Bool -> Option Bool) (k1 : ((List (List Int)) × ((Option (List (Int × Int))) × (Bool × (Int × Unit)))) -> ((List (List UInt8)) × ((List (Int × (Int × Unit))) × (Int × (Bool × Unit)))) -> Option Bool) : Option Bool :=
 iter (fun (v : (((List (List Int)) × ((Option (List (Int × Int))) × (Bool × (Int × Unit)))) × ((List (List UInt8)) × ((List (Int × (Int × Unit))) × (Int × (Bool × Unit)))) × Int)) r => z2i N n l v.1 v.2.1 v.2.2 (fun d r_ i => (r (d, r_, i))) k0 k1) N (d, r_, i)

def z5d (N : Nat) (i : (Int × (List (Int × (Int × ((List UInt8) × Unit)))))) (v : (((List (List Int)) × ((Option (List (Int × Int))) × (Bool × (Int × Unit)))) × ((List (List UInt8)) × ((List (Int × (Int × Unit))) × (Int × (Bool × Unit)))) × Int)) (r : (((List (List Int)) × ((Option (List (Int × Int))) × (Bool × (Int × Unit)))) × ((List (List UInt8)) × ((List (Int × (Int × Unit))) × (Int × (Bool × Unit)))) × Int) -> Option Bool) (K : Ex -> List A -> Option Bool) : Option Bool :=
 z2i N i.1 i.2 v.1 v.2.1 v.2.2 (fun d r_ i => (r (d, r_, i))) (fun a0 => (K .ret (mkS [(6, .v .bool)] 203 (a0, ())))) (fun a1 a2 => (K (.exit 0) (mkS [(0, .v (.int .i64)), (6, .box (.pair (.own (.arr 128 (.int .u8))) (.pair (.mp (.int .i64) (.int .i64)) (.pair .bool (.pair (.int .i64) .unit))))), (1, .box (.pair (.sl .str) (.pair (.sl (.pair (.int .i64) (.pair (.int .i64) .unit))) (.pair (.int .i64) (.pair .bool .unit)))))] 200 (i.1, a1, a2, ()))))

def z54 (N : Nat) : Hd Bool := fun st K => (unS [(0, .v (.int .i64)), (1, .v (.sl (.pair (.int .i64) (.pair (.int .i64) (.pair .str .unit))))), (4, .box (.pair (.own (.arr 128 (.int .u8))) (.pair (.mp (.int .i64) (.int .i64)) (.pair .bool (.pair (.int .i64) .unit))))), (1, .box (.pair (.sl .str) (.pair (.sl (.pair (.int .i64) (.pair (.int .i64) .unit))) (.pair (.int .i64) (.pair .bool .unit))))), (0, .v (.int .i64))] 199 (restr [10, 2, 9, 7, 0] 0 st)).bind fun x => iter (fun v r => z5d N ((fun x => (x.1, x.2.1)) x) v r K) N ((fun x => (x.2.2.1, x.2.2.2.1, x.2.2.2.2.1)) x)

def z9x (N : Nat) : Tab Bool := [([0, 1, 0, 0, 1, 0, 1, 1, 1, 1, 1, 1], z53 N)]

theorem z97 {N : Nat} {c : Ctx} (hb : Base Go.Proofs.Try.prog (z8 N) c) : z15 Go.Proofs.Try.prog c (zl z6 [0, 1, 0, 1, 1, 1, 1, 1, 1]) (z54 N) :=
  zg7 (s := [(0, .v (.int .i64)), (1, .v (.sl (.pair (.int .i64) (.pair (.int .i64) (.pair .str .unit))))), (4, .box (.pair (.own (.arr 128 (.int .u8))) (.pair (.mp (.int .i64) (.int .i64)) (.pair .bool (.pair (.int .i64) .unit))))), (1, .box (.pair (.sl .str) (.pair (.sl (.pair (.int .i64) (.pair (.int .i64) .unit))) (.pair (.int .i64) (.pair .bool .unit))))), (0, .v (.int .i64))]) (m := 199) (z5d N) [10, 2, 9, 7, 0] N (fun x => (x.1, x.2.1)) (fun x => (x.2.2.1, x.2.2.2.1, x.2.2.2.2.1)) (fun i v => (i.1, i.2, v.1, v.2.1, v.2.2, ())) (fun _ => rfl) (zn hb N (z9x N) z9 z6 (TabOk.cons (z96 hb) TabOk.nil) [0, 0, 1, 0, 1, 1, 1, 1, 1, 1] _ rfl) (fun i v r K => by kernel_rfl)

def z2b (N : Nat) (n : Int) (d : ((List (List Int)) × ((Option (List (Int × Int))) × (Bool × (Int × Unit))))) (r_ : ((List (List UInt8)) × ((List (Int × (Int × Unit))) × (Int × (Bool × Unit))))) (i : Int) (s : (List UInt8)) (f : Int) (k0 : Bool -> Option Bool) : Option Bool :=
 cond (Go.Lift.inR i (List.length r_.1))
 (cond (!(s == (List.getD r_.1 (Int.toNat i) ([] : List UInt8))))
 (k0 true)
 (k0 (f != (0 : Int))))
 (none)

def z4f (N : Nat) (x : z31 [(0, .v (.int .i64)), (6, .box (.pair (.own (.arr 128 (.int .u8))) (.pair (.mp (.int .i64) (.int .i64)) (.pair .bool (.pair (.int .i64) .unit))))), (1, .box (.pair (.sl .str) (.pair (.sl (.pair (.int .i64) (.pair (.int .i64) .unit))) (.pair (.int .i64) (.pair .bool .unit))))), (8, .v (.int .i64)), (0, .v .str), (0, .v (.int .i64))]) (K : Ex -> List A -> Option Bool) : Option Bool :=
 z2b N x.1 x.2.1 x.2.2.1 x.2.2.2.1 x.2.2.2.2.1 x.2.2.2.2.2.1 (fun a4 => (K .normal (mkS [(0, .v (.int .i64)), (6, .box (.pair (.own (.arr 128 (.int .u8))) (.pair (.mp (.int .i64) (.int .i64)) (.pair .bool (.pair (.int .i64) .unit))))), (1, .box (.pair (.sl .str) (.pair (.sl (.pair (.int .i64) (.pair (.int .i64) .unit))) (.pair (.int .i64) (.pair .bool .unit))))), (8, .v (.int .i64)), (189, .v .bool)] 1 (x.1, x.2.1, x.2.2.1, x.2.2.2.1, a4, ()))))

def z48 (N : Nat) : Hd Bool := fun st K => (unS [(0, .v (.int .i64)), (6, .box (.pair (.own (.arr 128 (.int .u8))) (.pair (.mp (.int .i64) (.int .i64)) (.pair .bool (.pair (.int .i64) .unit))))), (1, .box (.pair (.sl .str) (.pair (.sl (.pair (.int .i64) (.pair (.int .i64) .unit))) (.pair (.int .i64) (.pair .bool .unit))))), (8, .v (.int .i64)), (0, .v .str), (0, .v (.int .i64))] 189 (restr [19, 9, 18, 20, 0, 7] 0 st)).bind fun x => z4f N x K

def z8w (N : Nat) : Tab Bool := []

theorem z86 {N : Nat} {c : Ctx} (hb : Base Go.Proofs.Try.prog (z8 N) c) : z15 Go.Proofs.Try.prog c (zl z6 [0, 1, 0, 0, 1, 0, 0, 1, 0, 1, 1, 1, 1, 1, 1, 1, 1]) (z48 N) :=
  z1h (s := [(0, .v (.int .i64)), (6, .box (.pair (.own (.arr 128 (.int .u8))) (.pair (.mp (.int .i64) (.int .i64)) (.pair .bool (.pair (.int .i64) .unit))))), (1, .box (.pair (.sl .str) (.pair (.sl (.pair (.int .i64) (.pair (.int .i64) .unit))) (.pair (.int .i64) (.pair .bool .unit))))), (8, .v (.int .i64)), (0, .v .str), (0, .v (.int .i64))]) (m := 189) (g := z4f N) [19, 9, 18, 20, 0, 7] (zn hb N (z8w N) z9 z6 TabOk.nil [0, 1, 0, 0, 1, 0, 0, 1, 0, 1, 1, 1, 1, 1, 1, 1, 1] _ rfl) (fun x K => by kernel_rfl)

def z2c (N : Nat) (n : Int) (d : ((List (List Int)) × ((Option (List (Int × Int))) × (Bool × (Int × Unit))))) (r_ : ((List (List UInt8)) × ((List (Int × (Int × Unit))) × (Int × (Bool × Unit))))) (i : Int) (k0 : Bool -> Option Bool) (k1 : ((List (List Int)) × ((Option (List (Int × Int))) × (Bool × (Int × Unit)))) -> Option Bool) : Option Bool :=
 (z1c N d i).bind fun y =>
 z2b N n y.2.1 r_ i y.1.1 y.1.2.1
 (fun x208 => cond x208
 (k0 false)
 (k1 y.2.1))

def z4g (N : Nat) (x : z31 [(0, .v (.int .i64)), (6, .box (.pair (.own (.arr 128 (.int .u8))) (.pair (.mp (.int .i64) (.int .i64)) (.pair .bool (.pair (.int .i64) .unit))))), (1, .box (.pair (.sl .str) (.pair (.sl (.pair (.int .i64) (.pair (.int .i64) .unit))) (.pair (.int .i64) (.pair .bool .unit))))), (8, .v (.int .i64))]) (K : Ex -> List A -> Option Bool) : Option Bool :=
 z2c N x.1 x.2.1 x.2.2.1 x.2.2.2.1 (fun a0 => (K .ret (mkS [(6, .v .bool)] 203 (a0, ())))) (fun a1 => (K .normal (mkS [(0, .v (.int .i64)), (6, .box (.pair (.own (.arr 128 (.int .u8))) (.pair (.mp (.int .i64) (.int .i64)) (.pair .bool (.pair (.int .i64) .unit))))), (1, .box (.pair (.sl .str) (.pair (.sl (.pair (.int .i64) (.pair (.int .i64) .unit))) (.pair (.int .i64) (.pair .bool .unit))))), (8, .v (.int .i64))] 191 (x.1, a1, x.2.2.1, x.2.2.2.1, ()))))

def z49 (N : Nat) : Hd Bool := fun st K => (unS [(0, .v (.int .i64)), (6, .box (.pair (.own (.arr 128 (.int .u8))) (.pair (.mp (.int .i64) (.int .i64)) (.pair .bool (.pair (.int .i64) .unit))))), (1, .box (.pair (.sl .str) (.pair (.sl (.pair (.int .i64) (.pair (.int .i64) .unit))) (.pair (.int .i64) (.pair .bool .unit))))), (8, .v (.int .i64))] 191 (restr [7, 18, 9, 0] 0 st)).bind fun x => z4g N x K

def z8x (N : Nat) : Tab Bool := [([0, 1, 0, 0, 1, 0, 0, 1, 0, 1, 1, 1, 1, 1, 1, 1, 1], z48 N)]

theorem z87 {N : Nat} {c : Ctx} (hb : Base Go.Proofs.Try.prog (z8 N) c) : z15 Go.Proofs.Try.prog c (zl z6 [0, 1, 0, 0, 1, 0, 1, 1, 1, 1, 1, 1, 1, 1]) (z49 N) :=
  z1h (s := [(0, .v (.int .i64)), (6, .box (.pair (.own (.arr 128 (.int .u8))) (.pair (.mp (.int .i64) (.int .i64)) (.pair .bool (.pair (.int .i64) .unit))))), (1, .box (.pair (.sl .str) (.pair (.sl (.pair (.int .i64) (.pair (.int .i64) .unit))) (.pair (.int .i64) (.pair .bool .unit))))), (8, .v (.int .i64))]) (m := 191) (g := z4g N) [7, 18, 9, 0] (zn hb N (z8x N) z9 z6 (TabOk.cons (z86 hb) TabOk.nil) [0, 1, 0, 0, 1, 0, 1, 1, 1, 1, 1, 1, 1, 1] _ rfl) (fun x K => by kernel_rfl)

def z2a (N : Nat) (n : Int) (r_ : ((List (List UInt8)) × ((List (Int × (Int × Unit))) × (Int × (Bool × Unit))))) (d : ((List (List Int)) × ((Option (List (Int × Int))) × (Bool × (Int × Unit))))) (i : Int) (rec : ((List (List Int)) × ((Option (List (Int × Int))) × (Bool × (Int × Unit)))) -> Int -> Option Bool) (k0 : Bool -> Option Bool) (k1 : Option Bool) : Option Bool :=
 cond (decide (i < n))
 (z2c N n d r_ i
 (fun x6 => k0 x6)
 (fun d1 => rec d1 (Go.IntKind.wrap Go.IntKind.i64 (i + (1 : Int)))))
 (k1)

def z1m (N : Nat) (n : Int) (d : ((List (List Int)) × ((Option (List (Int × Int))) × (Bool × (Int × Unit))))) (r_ : ((List (List UInt8)) × ((List (Int × (Int × Unit))) × (Int × (Bool × Unit))))) (i : Int) (k0 : Bool -> Option Bool) (k1 : Option Bool) : Option Bool :=
 iter (fun (v : (((List (List Int)) × ((Option (List (Int × Int))) × (Bool × (Int × Unit)))) × Int)) r => z2a N n r_ v.1 v.2 (fun d i => (r (d, i))) k0 k1) N (d, i)

def z4h (N : Nat) (i : (Int × ((List (List UInt8)) × ((List (Int × (Int × Unit))) × (Int × (Bool × Unit)))))) (v : (((List (List Int)) × ((Option (List (Int × Int))) × (Bool × (Int × Unit)))) × Int)) (r : (((List (List Int)) × ((Option (List (Int × Int))) × (Bool × (Int × Unit)))) × Int) -> Option Bool) (K : Ex -> List A -> Option Bool) : Option Bool :=
 z2a N i.1 i.2 v.1 v.2 (fun d i => (r (d, i))) (fun a0 => (K .ret (mkS [(6, .v .bool)] 203 (a0, ())))) (K (.exit 2) (mkS [] 210 ()))

def z4a (N : Nat) : Hd Bool := fun st K => (unS [(0, .v (.int .i64)), (6, .box (.pair (.own (.arr 128 (.int .u8))) (.pair (.mp (.int .i64) (.int .i64)) (.pair .bool (.pair (.int .i64) .unit))))), (1, .box (.pair (.sl .str) (.pair (.sl (.pair (.int .i64) (.pair (.int .i64) .unit))) (.pair (.int .i64) (.pair .bool .unit))))), (8, .v (.int .i64))] 191 (restr [18, 0, 7, 9] 0 st)).bind fun x => iter (fun v r => z4h N ((fun x => (x.1, x.2.2.1)) x) v r K) N ((fun x => (x.2.1, x.2.2.2.1)) x)

def z8y (N : Nat) : Tab Bool := [([0, 1, 0, 0, 1, 0, 1, 1, 1, 1, 1, 1, 1, 1], z49 N)]

theorem z88 {N : Nat} {c : Ctx} (hb : Base Go.Proofs.Try.prog (z8 N) c) : z15 Go.Proofs.Try.prog c (zl z6 [0, 1, 0, 1, 1, 1, 1, 1, 1, 1, 1]) (z4a N) :=
  zg7 (s := [(0, .v (.int .i64)), (6, .box (.pair (.own (.arr 128 (.int .u8))) (.pair (.mp (.int .i64) (.int .i64)) (.pair .bool (.pair (.int .i64) .unit))))), (1, .box (.pair (.sl .str) (.pair (.sl (.pair (.int .i64) (.pair (.int .i64) .unit))) (.pair (.int .i64) (.pair .bool .unit))))), (8, .v (.int .i64))]) (m := 191) (z4h N) [18, 0, 7, 9] N (fun x => (x.1, x.2.2.1)) (fun x => (x.2.1, x.2.2.2.1)) (fun i v => (i.1, v.1, i.2, v.2, ())) (fun _ => rfl) (zn hb N (z8y N) z9 z6 (TabOk.cons (z87 hb) TabOk.nil) [0, 0, 1, 0, 1, 1, 1, 1, 1, 1, 1, 1] _ rfl) (fun i v r K => by kernel_rfl)

def z19 (N : Nat) (n : Int) (crashes : (List (Int × (Int × Unit)))) (l : (List (Int × (Int × ((List UInt8) × Unit))))) : Option Bool :=
 z2m N n crashes l
 (fun x6 => some x6)
 ((z8l N n crashes).bind fun y =>
 z1x N n crashes l y.1 y.2.1
 (fun x61 => some x61)
 (z1w N n crashes l y.1 y.2.1
 (fun x62 => some x62)
 (fun d => (z2h N n crashes).bind fun y1 =>
 z2j N n l d y1 (0 : Int)
 (fun x63 => some x63)
 (fun d1 r_ => z1m N n (d1.1, (d1.2.1, (false, d1.2.2.2))) r_ (0 : Int)
 (fun x64 => some x64)
 ((z1j N).bind fun y2 =>
 some y2)))))

def z5n (N : Nat) : Tab Bool := [([0, 1], z59 N), ([0, 1, 1, 1], z57 N), ([0, 1, 1, 1, 1], z55 N), ([0, 1, 0, 1, 1, 1, 1, 1, 1], z54 N), ([0, 1, 0, 1, 1, 1, 1, 1, 1, 1, 1], z4a N)]

theorem z8d (N : Nat) (x : z31 [(0, .v (.int .i64)), (0, .v (.sl (.pair (.int .i64) (.pair (.int .i64) .unit)))), (0, .v (.sl (.pair (.int .i64) (.pair (.int .i64) (.pair .str .unit)))))]) : zfw (z8 N) N (z5n N) z9 Go.Proofs.Try.f3 (mkS [(0, .v (.int .i64)), (0, .v (.sl (.pair (.int .i64) (.pair (.int .i64) .unit)))), (0, .v (.sl (.pair (.int .i64) (.pair (.int .i64) (.pair .str .unit)))))] 0 x) (ze6 (.v .bool) 3) = z19 N x.1 x.2.1 x.2.2.1 := by kernel_rfl

def z93 (N : Nat) : List A -> Res := z2u [(0, .v (.int .i64)), (0, .v (.sl (.pair (.int .i64) (.pair (.int .i64) .unit)))), (0, .v (.sl (.pair (.int .i64) (.pair (.int .i64) (.pair .str .unit)))))] (fun x => z19 N x.1 x.2.1 x.2.2.1) (zf0 (.v .bool) 3)

theorem za3 (N : Nat) : Contract Go.Proofs.Try.prog zq 3 (z93 N) :=
  Contract.of (E := z8 N) (H := z5n N) (L := z9) (N := N) (body := z6) (K := (ze6 (.v .bool) 3)) (z9d N) Go.Proofs.Try.func3 (by kernel_rfl) (by decide) (fun _ hb => (TabOk.cons (z9c hb) (TabOk.cons (z9a hb) (TabOk.cons (z98 hb) (TabOk.cons (z97 hb) (TabOk.cons (z88 hb) TabOk.nil)))))) (fun x y h => by rw [z8d]; exact h) (z4t (s := (.v .bool)) (m := 3))

end
end Go.Proofs.YtgckeokmmgelcaaLg

set_option linter.all false
namespace Go.Proofs.YtgckeokmmgelcaaPx
noncomputable section
open Go Go.Lift

theorem zgc {σ β : Type} {step : σ -> (σ -> Option β) -> Option β} (I : σ -> Prop) (m : σ -> Nat) (R : σ -> Option β)
    (h : ∀ v r, I v -> (∀ v', I v' -> m v' < m v -> r v' = R v') -> step v r = R v) : ∀ (n : Nat) (v : σ), I v -> m v < n -> iter step n v = R v
  | 0, v, _, hm => by omega
  | n + 1, v, hv, hm => h v (iter step n) hv fun v' hv' hlt => zgc I m R h n v' hv' (by omega)

theorem zl4 {σ β : Type} {step : σ -> (σ -> Option β) -> Option β} (I : σ -> Prop) (m : σ -> Nat) (p : Option β -> Prop)
    (h : ∀ v r, I v -> (∀ v', I v' -> m v' < m v -> p (r v')) -> p (step v r)) : ∀ (n : Nat) (v : σ), I v -> m v < n -> p (iter step n v)
  | 0, v, _, hm => by omega
  | n + 1, v, hv, hm => h v (iter step n) hv fun v' hv' hlt => zl4 I m p h n v' hv' (by omega)

theorem zue (x : Int) : IntKind.wrap .i64 x = (x + 9223372036854775808) % 18446744073709551616 - 9223372036854775808 := by
  simp only [IntKind.wrap, IntKind.bits, IntKind.signed, Bool.true_and, decide_eq_true_eq, Nat.add_one_sub_one, Int.reducePow, ge_iff_le]
  split <;> omega

def I64 (x : Int) : Prop := -9223372036854775808 <= x /\ x <= 9223372036854775807

instance (x : Int) : Decidable (I64 x) := by unfold I64; infer_instance

theorem zjo {x : Int} (h : I64 x) : IntKind.wrap .i64 x = x := by
  rw [zue]; unfold I64 at h; omega

theorem z1b {α : Type} {b : Bool} (h : b = true) (x y : α) : cond b x y = x := by rw [h]; rfl
theorem z2f {α : Type} {b : Bool} (h : b = false) (x y : α) : cond b x y = y := by rw [h]; rfl

theorem z9e {n len : Nat} (h : n < len) : inR (n : Int) len = true := by simp only [inR, decide_eq_true_eq]; omega
theorem zuy {i : Int} {len : Nat} (h : 0 <= i) (h' : i < len) : inR i len = true := by simp only [inR, decide_eq_true_eq]; omega

end
end Go.Proofs.YtgckeokmmgelcaaPx

set_option linter.all false
namespace Go.Proofs.YtgckeokmmgelcaaPx
noncomputable section
open Go Go.Lift

theorem z9m {i : Nat} (h : i < 9223372036854775807) : IntKind.wrap .i64 ((i : Int) + 1) = ((i + 1 : Nat) : Int) := by
  rw [zjo (by unfold I64; omega)]; omega

theorem zkh (a b : List Int) : toStr (a ++ b) = toStr a ++ toStr b := by simp [toStr]
theorem zkg (a : List Int) : (toStr a).length = a.length := by simp [toStr]
theorem zlt (s : List UInt8) : toStr (ofStr s) = s := by
  simp [toStr, ofStr, Function.comp_def]
theorem zgs (s : List UInt8) : (ofStr s).length = s.length := by simp [ofStr]
theorem zhe (n : Nat) : toStr (List.replicate n (0 : Int)) = List.replicate n (0 : UInt8) := by simp [toStr]

theorem zk4 {α : Type} (l : List α) (d : α) (i : Nat) (h : i < l.length) : l.getD i d ∈ l := by
  rw [List.getD_eq_getElem?_getD, List.getElem?_eq_getElem h]; simp

theorem zqw {α : Type} (l : List α) (d : α) (i : Nat) (h : i < l.length) : l.drop i = l.getD i d :: l.drop (i + 1) := by
  rw [List.getD_eq_getElem?_getD, List.getElem?_eq_getElem h, Option.getD_some, List.drop_eq_getElem_cons h]

theorem zqv {α : Type} (l : List α) {i : Nat} (h : l.length <= i) : l.drop i = [] := List.drop_of_length_le h

theorem z9j {p : Prop} [Decidable p] (h : p) : decide p = true := decide_eq_true h
theorem zfp {p : Prop} [Decidable p] (h : ¬ p) : decide p = false := decide_eq_false h

theorem zp9 {α : Type} (l : List α) (d : α) (i : Nat) (h : i < l.length) : l.take (i + 1) = l.take i ++ [l.getD i d] := by
  rw [List.getD_eq_getElem?_getD, List.getElem?_eq_getElem h, Option.getD_some, List.take_succ_eq_append_getElem h]

theorem zsb {α : Type} (l : List α) (n : Nat) : cut l 0 n = l.take n := by simp [cut]
theorem zu4 {α : Type} (l : List α) (n : Nat) : cut l n l.length = l.drop n := by simp [cut]

end
end Go.Proofs.YtgckeokmmgelcaaPx

set_option linter.all false
set_option maxRecDepth 100000
namespace Go.Proofs.YtgckeokmmgelcaaLg
noncomputable section
open Go Go.Lift Go.Proofs.YtgckeokmmgelcaaPx

abbrev zey : Type := List (List Int) × (Option (List (Int × Int)) × (Bool × (Int × Unit)))

theorem zpt {α : Type} {xs ys : List α} {n k : Nat} (hy : ys.length = n) (hk : k <= n) : over xs 0 k ys = ys.take k ++ xs.drop k := by
  unfold over
  simp only [List.take_zero, List.nil_append, Nat.sub_zero, Nat.zero_add]
  rw [hy, Nat.min_eq_right hk]

theorem zsc {α : Type} {xs : List α} {n : Nat} (hx : xs.length = n) : cut xs 0 n = xs := by
  unfold cut
  rw [List.drop_zero, List.take_of_length_le (by omega)]

def crash (d : zey) (n : Int) : Option Int := lookM (eqD (T.int Go.IntKind.i64)) n (Option.getD d.2.1 [])

def zfs (d : zey) (i : Int) : Int :=
 if d.1.length = 0 then 21 else if d.2.2.1 = true then 20 else if i < 0 \/ (d.1.length : Int) <= i then 7 else 0

theorem znt (N : Nat) (d : zey) (i : Int) : z2n N d i = some (zfs d i, (d, ())) := by
  unfold z2n z5r zfs
  by_cases h : d.1.length = 0
  . rw [if_pos h, show ((((List.length d.1) : Nat) : Int) == (0 : Int)) = true by rw [beq_iff_eq]; omega]; rfl
  . rw [if_neg h, show ((((List.length d.1) : Nat) : Int) == (0 : Int)) = false by rw [beq_eq_false_iff_ne]; omega, cond_false]
    cases hd : d.2.2.1 with
    | true => rfl
    | false =>
      rw [cond_false, if_neg (by decide)]
      by_cases h1 : i < 0
      . rw [z1b (decide_eq_true h1), if_pos (.inl h1)]; rfl
      . rw [z2f (decide_eq_false h1)]
        by_cases h2 : (d.1.length : Int) <= i
        . rw [if_pos (.inr h2)]; dsimp only; rw [z1b (decide_eq_true h2)]
        . rw [if_neg (by omega)]; dsimp only; rw [z2f (decide_eq_false h2)]

def wr (d : zey) (i : Int) (s : List UInt8) : Int × zey :=
  if zfs d i ≠ 0 then (zfs d i, d) else if s.length ≠ 128 then (7, d) else
    match crash d d.2.2.2.1 with
    | some k => (20, d.1.set i.toNat (over (d.1.getD i.toNat []) 0 k.toNat (ofStr s)), d.2.1, true, Go.IntKind.wrap .i64 (d.2.2.2.1 + 1), ())
    | none => (0, d.1.set i.toNat (over (d.1.getD i.toNat []) 0 128 (ofStr s)), d.2.1, d.2.2.1, Go.IntKind.wrap .i64 (d.2.2.2.1 + 1), ())

def zmu (d : zey) : Prop := ∀ n k, crash d n = some k -> 0 <= k /\ k <= 128

theorem zjk {d : zey} {i : Int} (h : zfs d i = 0) : d.1.length ≠ 0 /\ d.2.2.1 = false /\ 0 <= i /\ i < d.1.length := by
  unfold zfs at h
  split at h
  . cases h
  . split at h
    . cases h
    . split at h
      . cases h
      . rename_i h1 h2 h3
        exact ⟨h1, by simpa using h2, by omega, by omega⟩

theorem zdh (N : Nat) {d : zey} {i : Int} {s : List UInt8} (hk : zmu d) : z12 N d i s = some ((wr d i s).1, ((wr d i s).2, ())) := by
  unfold z12 wr
  rw [znt, Option.bind_some]
  by_cases hc : zfs d i = 0
  . obtain ⟨c1, c2, c3, c4⟩ := zjk hc
    rw [if_neg (by simpa using hc)]
    dsimp only
    rw [hc, bne_self_eq_false, cond_false]
    by_cases hs : s.length = 128
    . rw [if_neg (by simpa using hs), show ((((List.length s) : Nat) : Int) != (128 : Int)) = false by rw [hs]; rfl, cond_false]
      change cond (Option.isSome (crash d d.2.2.2.1)) _ _ = _
      have hin : inR i (List.length d.1) = true := by unfold inR; exact decide_eq_true ⟨c3, c4⟩
      have hlt : decide (Int.toNat i < List.length d.1) = true := decide_eq_true (by omega)
      cases hcr : crash d d.2.2.2.1 with
      | some k =>
        have := hk _ _ hcr
        have hcr' : lookM (eqD (T.int Go.IntKind.i64)) d.2.2.2.1 (Option.getD d.2.1 []) = some k := hcr
        rw [show (some k).isSome = true from rfl, cond_true, hin, cond_true, hcr']
        rw [z1b (decide_eq_true (by simpa using this)), hlt, cond_true]
        rfl
      | none =>
        rw [show (none : Option Int).isSome = false from rfl, cond_false, hin, cond_true, hlt, cond_true]
    . rw [if_pos (by simpa using hs), show ((((List.length s) : Nat) : Int) != (128 : Int)) = true by rw [bne_iff_ne]; omega]; rfl
  . rw [if_pos (by simpa using hc)]
    dsimp only
    rw [show (zfs d i != (0 : Int)) = true by rw [bne_iff_ne]; exact hc]; rfl

def rdS (d : zey) (i : Int) : List UInt8 × Int := if zfs d i ≠ 0 then ([], zfs d i) else (toStr (cut (d.1.getD i.toNat []) 0 128), 0)

theorem zf8 (N : Nat) {d : zey} {i : Int} : z1c N d i = some (((rdS d i).1, (rdS d i).2, ()), (d, ())) := by
  unfold z1c rdS
  rw [znt, Option.bind_some]
  by_cases hc : zfs d i = 0
  . obtain ⟨c1, c2, c3, c4⟩ := zjk hc
    rw [if_neg (by simpa using hc)]
    dsimp only
    rw [hc, bne_self_eq_false, cond_false, show inR i (List.length d.1) = true by unfold inR; exact decide_eq_true ⟨c3, c4⟩, cond_true, decide_eq_true (show Int.toNat i < List.length d.1 by omega), cond_true]
  . rw [if_pos (by simpa using hc)]
    dsimp only
    rw [show (zfs d i != (0 : Int)) = true by rw [bne_iff_ne]; exact hc]; rfl

def zt1 : List Int := List.replicate 128 0

def zk3 (k : Int) : Int := if (128 : Int) < (if (0 : Int) > k then 0 else k) then 128 else (if (0 : Int) > k then 0 else k)

theorem zs7 (k : Int) : 0 <= zk3 k /\ zk3 k <= 128 := by
  unfold zk3
  split
  . omega
  . split <;> omega

def crM : List (Int × Int) -> List (Int × (Int × Unit)) -> List (Int × Int)
  | m, [] => m
  | m, c :: l => crM (match lookM (eqD (T.int Go.IntKind.i64)) c.1 m with
    | some _ => m
    | none => setM (eqD (T.int Go.IntKind.i64)) c.1 (zk3 c.2.1) m) l

theorem zrz (N : Nat) (l : List (Int × (Int × Unit))) (hl : l.length < N) (hl' : l.length <= 1000000) (bs : List (List Int)) (m : List (Int × Int)) :
    zek N (bs, some m, false, 0, ()) l ((l.length : Nat) : Int) 0 (fun d => some ((Option.some d), ((0 : Int), ()))) = some (some (bs, some (crM m l), false, 0, ()), 0, ()) := by
  rw [zek]
  refine (zgc (fun v => ∃ (i : Nat) (m : List (Int × Int)), v = ((bs, some m, false, 0, ()), (i : Int)) /\ i <= l.length) (fun v => l.length - v.2.toNat) (fun v => some (some (bs, some (crM (Option.getD v.1.2.1 []) (l.drop v.2.toNat)), false, 0, ()), 0, ())) ?_ N ((bs, some m, false, 0, ()), 0) ⟨0, m, rfl, by omega⟩ (by simp only; omega)).trans (by rfl)
  rintro v r ⟨i, m, rfl, hi⟩ hr
  simp only [Int.toNat_natCast]
  rw [zej]
  by_cases hlt : i < l.length
  . rw [z1b (decide_eq_true (by omega)), z1b (z9e hlt), Int.toNat_natCast, zqw l ((0 : Int), ((0 : Int), ())) i hlt, crM]
    generalize l.getD i ((0 : Int), ((0 : Int), ())) = c
    simp only [Option.getD_some, Option.isSome_some, cond_true]
    cases hc : lookM (eqD (T.int Go.IntKind.i64)) c.1 m with
    | some k =>
      simp only [Option.isSome_some, Bool.not_true, cond_false]
      rw [z9m (by omega), hr _ ⟨i + 1, m, rfl, by omega⟩ (by simp only; omega)]
      simp only [Int.toNat_natCast, Option.getD_some]
    | none =>
      simp only [Option.isSome_none, Bool.not_false, cond_true]
      rw [z9m (by omega)]
      change r ((bs, some (setM (eqD (T.int Go.IntKind.i64)) c.1 (zk3 c.2.1) m), false, 0, ()), ((i + 1 : Nat) : Int)) = _
      rw [hr _ ⟨i + 1, _, rfl, by omega⟩ (by simp only; omega)]
      simp only [Int.toNat_natCast, Option.getD_some]
  . rw [z2f (decide_eq_false (by omega)), zqv l (by omega), crM]
    rfl

theorem znj (N : Nat) {n : Int} {l : List (Int × (Int × Unit))} (hl : l.length < N) (hl' : l.length <= 1000000) :
    z8l N n l = some (if n < 1 \/ 4096 < n then (none, 7, ()) else (some (List.replicate n.toNat zt1, some (crM [] l), false, 0, ()), 0, ())) := by
  rw [z8l, zem, zel]
  by_cases h1 : n < 1
  . rw [if_pos (.inl h1), z1b (decide_eq_true h1), cond_true]
  . rw [z2f (decide_eq_false h1)]
    by_cases h2 : 4096 < n
    . rw [if_pos (.inr h2), decide_eq_true h2, cond_true]
    . rw [if_neg (by omega), decide_eq_false h2, cond_false, z1b (decide_eq_true (by omega))]
      exact zrz N l hl hl' _ []

theorem zgh (a b : Int) : eqD (T.int Go.IntKind.i64) a b = decide (a = b) := by
  unfold eqD
  by_cases h : a = b
  . rw [h]; simp
  . simp [h]

theorem zs3 (m : List (Int × Int)) (k v n : Int) : lookM (eqD (T.int Go.IntKind.i64)) n (setM (eqD (T.int Go.IntKind.i64)) k v m) = if n = k then some v else lookM (eqD (T.int Go.IntKind.i64)) n m := by
  induction m with
  | nil =>
    simp only [setM, lookM, zgh]
    by_cases h : n = k <;> simp [h]
  | cons x m ih =>
    obtain ⟨a, b⟩ := x
    simp only [setM, zgh]
    by_cases hk : k = a
    . subst hk
      by_cases h : n = k
      . subst h; simp [lookM, zgh]
      . simp [lookM, zgh, h]
    . rw [decide_eq_false hk]
      by_cases h : n = a
      . subst h
        have : ¬ n = k := fun e => hk e.symm
        simp [lookM, zgh, this]
      . simp only [lookM, zgh, decide_eq_false h]
        exact ih

def z5j (n : Int) : List (Int × (Int × Unit)) -> Option Int
  | [] => none
  | c :: l => if c.1 = n then some (zk3 c.2.1) else z5j n l

theorem zk1 (n : Int) : ∀ (l : List (Int × (Int × Unit))) (m : List (Int × Int)), lookM (eqD (T.int Go.IntKind.i64)) n (crM m l) = match lookM (eqD (T.int Go.IntKind.i64)) n m with
    | some k => some k
    | none => z5j n l
  | [], m => by rw [crM]; cases lookM (eqD (T.int Go.IntKind.i64)) n m <;> rfl
  | c :: l, m => by
    rw [crM, zk1 n l]
    cases hc : lookM (eqD (T.int Go.IntKind.i64)) c.1 m with
    | some k =>
      dsimp only
      cases hn : lookM (eqD (T.int Go.IntKind.i64)) n m with
      | some j => rfl
      | none =>
        dsimp only
        rw [z5j, if_neg (fun e => by rw [e] at hc; rw [hc] at hn; cases hn)]
    | none =>
      dsimp only
      rw [zs3]
      by_cases e : n = c.1
      . rw [if_pos e, z5j, if_pos e.symm, e, hc]
      . rw [if_neg e, z5j, if_neg (fun h => e h.symm)]

theorem zfh {n k : Int} : ∀ {l : List (Int × (Int × Unit))}, z5j n l = some k -> 0 <= k /\ k <= 128
  | [], h => by cases h
  | c :: l, h => by
    rw [z5j] at h
    split at h
    . cases h; exact zs7 _
    . exact zfh h

theorem zl3 {bs : List (List Int)} {l : List (Int × (Int × Unit))} {x : Bool} {n : Int} : zmu (bs, some (crM [] l), x, n, ()) := by
  intro m k h
  have h' : lookM (eqD (T.int Go.IntKind.i64)) m (crM [] l) = some k := h
  rw [zk1] at h'
  exact zfh h'

theorem zh9 {d e : zey} (h : zmu d) (he : e.2.1 = d.2.1) : zmu e := by
  intro m k hm
  exact h m k (by unfold crash at hm ⊢; rw [<- he]; exact hm)

theorem zuf (d : zey) (i : Int) (s : List UInt8) : (wr d i s).2.2.1 = d.2.1 := by
  unfold wr
  split
  . rfl
  . split
    . rfl
    . split <;> rfl

end
end Go.Proofs.YtgckeokmmgelcaaLg

set_option linter.all false
set_option maxRecDepth 100000
namespace Go.Proofs.YtgckeokmmgelcaaLg
noncomputable section
open Go Go.Lift Go.Proofs.YtgckeokmmgelcaaPx

def padB (s : List UInt8) : List UInt8 := s ++ List.replicate (128 - s.length) 0

theorem zsi (N : Nat) {s : List UInt8} (h : s.length <= 128) : z18 N s = some (padB s) := by
  have hw : Go.IntKind.wrap Go.IntKind.i64 ((128 : Int) - ((s.length : Nat) : Int)) = ((128 - s.length : Nat) : Int) := by
    rw [zjo (by unfold I64; omega)]; omega
  rw [z18, z2f (decide_eq_false (by omega)), hw, Int.toNat_natCast, zhe, z1b (decide_eq_true (by omega)), z1b (decide_eq_true (by rw [List.length_replicate]; omega))]
  rfl

theorem zrj (n i : Nat) (h : i < n) : (List.replicate i (120 : Int) ++ List.replicate (n - i) 0).set i 120 = List.replicate (i + 1) 120 ++ List.replicate (n - (i + 1)) 0 := by
  rw [List.set_append_right _ _ (by rw [List.length_replicate]; exact Nat.le_refl _), List.length_replicate, Nat.sub_self, show n - i = (n - (i + 1)) + 1 by omega, List.replicate_succ, List.set_cons_zero, List.replicate_succ', List.append_assoc]
  rfl

theorem zqp (N : Nat) (hN : 200 < N) (d : Option zey) (e : Int) (k0 : List Int -> Option Bool) :
    z40 N d e (List.replicate 128 (0 : Int)) 0 k0 = k0 (List.replicate 128 120) := by
  rw [z40]
  refine zgc (fun v => ∃ i : Nat, v = (List.replicate i 120 ++ List.replicate (128 - i) 0, (i : Int)) /\ i <= 128) (fun v => 128 - v.2.toNat) (fun _ => k0 (List.replicate 128 120)) ?_ N (List.replicate 128 0, 0) ⟨0, rfl, by omega⟩ (by simp only; omega)
  rintro v r ⟨i, rfl, hi⟩ hr
  rw [z3z]
  dsimp only
  by_cases hlt : i < 128
  . have hl : (List.replicate i (120 : Int) ++ List.replicate (128 - i) 0).length = 128 := by rw [List.length_append, List.length_replicate, List.length_replicate]; omega
    rw [z1b (decide_eq_true (by omega)), z1b (z9e (by omega)), Int.toNat_natCast, z1b (decide_eq_true (by omega)), z9m (by omega), zrj 128 i hlt]
    exact hr _ ⟨i + 1, rfl, by omega⟩ (by simp only; omega)
  . have : i = 128 := by omega
    subst this
    rw [z2f (decide_eq_false (by omega)), Nat.sub_self, List.replicate_zero, List.append_nil]

def xX : List UInt8 := List.replicate 128 120
def dW0 : zey := (List.replicate 2 zt1, some (crM [] [(1, (3, ()))]), false, 0, ())
def dW1 : zey := (wr dW0 0 xX).2
def dW2 : zey := (wr dW1 1 xX).2
def dW3 : zey := (dW2.1, dW2.2.1, false, dW2.2.2.2)

theorem zqh : zmu dW0 := zl3
theorem ztz : zmu dW1 := zh9 zqh (zuf _ _ _)

theorem zt6 (N : Nat) (hN : 200 < N) : z1j N = some true := by
  have h0 : z8l N 2 [(1, (3, ()))] = some (some dW0, 0, ()) := by
    rw [znj N (by simp; omega) (by simp), if_neg (by decide)]; rfl
  have hx : toStr (List.replicate 128 (120 : Int)) = xX := by unfold toStr xX; rw [List.map_replicate]; rfl
  have h1 : z12 N dW0 0 xX = some ((wr dW0 0 xX).1, (dW1, ())) := zdh N zqh
  have h2 : z12 N dW1 1 xX = some ((wr dW1 1 xX).1, (dW2, ())) := zdh N ztz
  have h3 : z1c N dW2 0 = some (((rdS dW2 0).1, (rdS dW2 0).2, ()), (dW2, ())) := zf8 N
  have h4 : z1c N dW3 1 = some (((rdS dW3 1).1, (rdS dW3 1).2, ()), (dW3, ())) := zf8 N
  rw [z1j, h0, Option.bind_some]
  dsimp only
  rw [zqp N hN]
  rw [show Option.isSome (some dW0) = true from rfl, cond_true, hx]
  rw [show Option.getD (some dW0) (([] : List (List Int)), ((Option.none), (false, ((0 : Int), ())))) = dW0 from rfl, h1, Option.bind_some]
  dsimp only
  rw [h2, Option.bind_some]
  dsimp only
  rw [h3, Option.bind_some]
  dsimp only
  rw [show (dW2.1, (dW2.2.1, (false, dW2.2.2.2))) = dW3 from rfl, h4, Option.bind_some]
  change _ = some true
  kernel_rfl

theorem zs6 (keep : Int) : (if ((if (keep < (128 : Int)) then keep else (128 : Int)) > (0 : Int)) then (if (keep < (128 : Int)) then keep else (128 : Int)) else (0 : Int)) = zk3 keep := by
  unfold zk3
  split <;> split <;> split <;> (try split) <;> omega

end
end Go.Proofs.YtgckeokmmgelcaaLg

set_option linter.all false
set_option maxRecDepth 100000
namespace Go.Proofs.YtgckeokmmgelcaaLg
noncomputable section
open Go Go.Lift Go.Proofs.YtgckeokmmgelcaaPx

abbrev CrD : Type := Int × (Int × Unit)
abbrev RfD : Type := List (List UInt8) × (List CrD × (Int × (Bool × Unit)))

theorem zi5 (n : Int) : ∀ (l : List CrD) (c : CrD), z5j n (l ++ [c]) = match z5j n l with
    | some k => some k
    | none => if c.1 = n then some (zk3 c.2.1) else none
  | [], c => by simp only [List.nil_append, z5j]
  | a :: l, c => by
    simp only [List.cons_append, z5j]
    by_cases h : a.1 = n
    . rw [if_pos h, if_pos h]
    . rw [if_neg h, if_neg h, zi5 n l c]

theorem zly (N : Nat) (at_ : Int) (block : List UInt8) (d x6 : RfD) (hN : d.2.1.length < N) (hl : d.2.1.length <= 1000000) (k0 : Int -> Int -> Option (RfD × Int × Unit)) :
    z37 N at_ block d x6 128 0 (IntKind.wrap .i64 (((d.2.1.length : Nat) : Int) - 1)) k0 = match z5j d.2.2.1 d.2.1 with
      | some k => k0 k 20
      | none => k0 128 0 := by
  simp only [z37]
  rw [zjo (by unfold I64; omega)]
  rw [zgc (I := fun (v : Int × Int × Int) => -1 <= v.2.2 /\ v.2.2 < ((d.2.1.length : Nat) : Int)) (m := fun (v : Int × Int × Int) => (v.2.2 + 1).toNat) (R := fun (v : Int × Int × Int) => match z5j d.2.2.1 (d.2.1.take (v.2.2 + 1).toNat) with
      | some k => k0 k 20
      | none => k0 v.1 v.2.1) ?_ N (128, 0, ((d.2.1.length : Nat) : Int) - 1) ⟨by dsimp only; omega, by dsimp only; omega⟩ (by dsimp only; omega)]
  . dsimp only
    rw [show (((d.2.1.length : Nat) : Int) - 1 + 1).toNat = d.2.1.length by omega, List.take_length]
  rintro ⟨keep, e, i⟩ r ⟨h1, h2⟩ hr
  dsimp only at *
  simp only [z35, z36]
  by_cases hi : 0 <= i
  . obtain ⟨j, rfl⟩ := Int.eq_ofNat_of_zero_le hi
    rw [z1b (z9j hi)]
    have hj : j < d.2.1.length := by omega
    simp only [z9e hj, cond_true]
    rw [show (((j : Nat) : Int) + 1).toNat = j + 1 by omega, zp9 d.2.1 ((0 : Int), ((0 : Int), ())) j hj, zi5, Int.toNat_natCast]
    rw [zjo (x := ((j : Nat) : Int) - 1) (by unfold I64; omega)]
    have hrec : ∀ a b, r (a, b, ((j : Nat) : Int) - 1) = match z5j d.2.2.1 (d.2.1.take j) with
      | some k => k0 k 20
      | none => k0 a b := fun a b => by
      rw [hr (a, b, ((j : Nat) : Int) - 1) ⟨by dsimp only; omega, by dsimp only; omega⟩ (by dsimp only; omega)]
      dsimp only
      rw [show (((j : Nat) : Int) - 1 + 1).toNat = j by omega]
    generalize d.2.1.getD j ((0 : Int), ((0 : Int), ())) = c
    by_cases hc : c.1 = d.2.2.1
    . rw [z1b (by rw [hc]; simp), zs6, hrec, if_pos hc]
      cases z5j d.2.2.1 (d.2.1.take j) <;> rfl
    . rw [z2f (by simpa using hc), hrec, if_neg hc]
      cases z5j d.2.2.1 (d.2.1.take j) <;> rfl
  . have : i = -1 := by omega
    subst this
    rw [z2f (zfp (by omega))]
    rfl

def zun (r : RfD) (i : Int) (s : List UInt8) : RfD × Int × Unit :=
  if r.2.2.2.1 = true then (r, (20, ())) else if i < 0 \/ (r.1.length : Int) <= i \/ s.length ≠ 128 then (r, (7, ())) else
    match z5j r.2.2.1 r.2.1 with
    | some k => ((r.1.set i.toNat (s.take k.toNat ++ (r.1.getD i.toNat []).drop k.toNat), (r.2.1, (IntKind.wrap .i64 (r.2.2.1 + 1), (true, ())))), (20, ()))
    | none => ((r.1.set i.toNat (s.take 128 ++ (r.1.getD i.toNat []).drop 128), (r.2.1, (IntKind.wrap .i64 (r.2.2.1 + 1), (false, ())))), (0, ()))

theorem zlx (N : Nat) (r : RfD) (i : Int) (s : List UInt8) (hN : r.2.1.length < N) (hl : r.2.1.length <= 1000000) (hb : r.1.length <= 1000000) (h128 : ∀ b ∈ r.1, b.length = 128) : z26 N r i s = some (zun r i s) := by
  simp only [z26, zun]
  cases hd : r.2.2.2.1 with
  | true => rw [if_pos rfl]; rfl
  | false =>
    rw [if_neg (by decide), cond_false]
    simp only [z39, z38]
    by_cases h1 : i < 0
    . rw [z1b (z9j h1), if_pos (.inl h1)]; rfl
    rw [z2f (zfp h1)]
    by_cases h2 : (r.1.length : Int) <= i
    . rw [z1b (z9j h2), if_pos (.inr (.inl h2))]; rfl
    rw [z2f (zfp h2)]
    by_cases h3 : s.length = 128
    . rw [show ((((List.length s) : Nat) : Int) != (128 : Int)) = false by rw [h3]; rfl, cond_false, if_neg (by omega), zly N i s r _ hN hl]
      obtain ⟨j, rfl⟩ := Int.eq_ofNat_of_zero_le (show 0 <= i by omega)
      have hj : j < r.1.length := by omega
      have hlen := h128 _ (zk4 r.1 [] j hj)
      have key : ∀ (k e : Int), 0 <= k -> k <= 128 -> (cond (decide (((0 + (List.length r.1)) * 16) <= 70368744177664))
        (cond (decide (((0 : Int) <= k) /\ (k <= (((List.length s) : Nat) : Int))))
          (cond (inR (j : Int) (List.length (([] : List (List UInt8)) ++ r.1)))
            (cond (decide ((Int.toNat (j : Int)) < (List.length (([] : List (List UInt8)) ++ r.1))))
              (cond (decide (((0 : Int) <= k) /\ (k <= (((List.length (List.getD (([] : List (List UInt8)) ++ r.1) (Int.toNat (j : Int)) ([] : List UInt8))) : Nat) : Int))))
                (cond (decide (((List.length (cut s 0 (Int.toNat k))) + (List.length (cut (List.getD (([] : List (List UInt8)) ++ r.1) (Int.toNat (j : Int)) ([] : List UInt8)) (Int.toNat k) (List.length (List.getD (([] : List (List UInt8)) ++ r.1) (Int.toNat (j : Int)) ([] : List UInt8)))))) <= 9223372036854775807))
                  (cond (inR (j : Int) (List.length (([] : List (List UInt8)) ++ r.1)))
                    (cond (decide ((Int.toNat (j : Int)) < (List.length (([] : List (List UInt8)) ++ r.1))))
                      (some (((List.set (([] : List (List UInt8)) ++ r.1) (Int.toNat (j : Int)) ((cut s 0 (Int.toNat k)) ++ (cut (List.getD (([] : List (List UInt8)) ++ r.1) (Int.toNat (j : Int)) ([] : List UInt8)) (Int.toNat k) (List.length (List.getD (([] : List (List UInt8)) ++ r.1) (Int.toNat (j : Int)) ([] : List UInt8)))))), (r.2.1, ((IntKind.wrap .i64 (r.2.2.1 + (1 : Int))), ((e != (0 : Int)), ())))), (e, ())))
                      (none))
                    (none))
                  (none))
                (none))
              (none))
            (none))
          (none))
        (none)) = some ((r.1.set j (s.take k.toNat ++ (r.1.getD j []).drop k.toNat), (r.2.1, (IntKind.wrap .i64 (r.2.2.1 + 1), ((e != 0), ())))), (e, ())) := by
        intro k e k1 k2
        rw [Int.toNat_natCast, List.nil_append, z1b (z9j (by omega)), z1b (z9j ⟨k1, by omega⟩), z1b (z9e hj), z1b (z9j hj), z1b (z9j ⟨k1, by rw [hlen]; omega⟩), zsb, zu4, z1b (z9j (by rw [List.length_take, List.length_drop, hlen]; omega)), z1b (z9e hj), z1b (z9j hj)]
      rw [Int.toNat_natCast]
      rw [Int.toNat_natCast] at key
      cases hf : z5j r.2.2.1 r.2.1 with
      | some k =>
        obtain ⟨k1, k2⟩ := zfh hf
        exact key k 20 k1 k2
      | none => exact key 128 0 (by omega) (by omega)
    . rw [show ((((List.length s) : Nat) : Int) != (128 : Int)) = true by rw [bne_iff_ne]; omega, cond_true, if_pos (.inr (.inr h3))]

def zrt (r : RfD) (i : Int) : List UInt8 × Int × Unit := if r.2.2.2.1 = true then ([], (20, ())) else if i < 0 \/ (r.1.length : Int) <= i then ([], (7, ())) else (r.1.getD i.toNat [], (0, ()))

theorem zo9 (N : Nat) (r : RfD) (i : Int) : z29 N r i = some (zrt r i) := by
  simp only [z29, zrt, z3i, z3h]
  cases hd : r.2.2.2.1 with
  | true => rw [if_pos rfl]; rfl
  | false =>
    rw [if_neg (by decide), cond_false]
    by_cases h1 : i < 0
    . rw [z1b (z9j h1), if_pos (.inl h1), cond_true]
    rw [z2f (zfp h1)]
    by_cases h2 : (r.1.length : Int) <= i
    . rw [z9j h2, cond_true, if_pos (.inr h2)]
    . rw [zfp h2, cond_false, if_neg (by omega), z1b (zuy (by omega) (by omega))]


structure Same (cr : List CrD) (d : zey) (r : RfD) : Prop where
  keeps : zmu d
  len : ∀ b ∈ d.1, b.length = 128
  pos : d.1.length ≠ 0
  blocks : r.1 = d.1.map toStr
  crash : ∀ n, crash d n = z5j n cr
  crashes : r.2.1 = cr
  writes : r.2.2.1 = d.2.2.2.1
  down : r.2.2.2.1 = d.2.2.1

theorem zj1 {cr : List CrD} {d : zey} {r : RfD} (h : Same cr d r) (i : Int) : zfs d i = if r.2.2.2.1 = true then 20 else if i < 0 \/ (r.1.length : Int) <= i then 7 else 0 := by
  unfold zfs
  rw [if_neg h.pos, h.down, h.blocks, List.length_map]

theorem ztp {α β : Type} (f : α -> β) (l : List α) (i : Nat) (x : α) : (l.set i x).map f = (l.map f).set i (f x) := List.map_set

theorem znx (l : List Int) (k : Nat) : toStr (l.take k) = (toStr l).take k := by simp [toStr, List.map_take]
theorem zny (l : List Int) (k : Nat) : toStr (l.drop k) = (toStr l).drop k := by simp [toStr, List.map_drop]

theorem znh {x : List Int} {s : List UInt8} (hx : x.length = 128) (hs : s.length = 128) {k : Nat} (hk : k <= 128) : toStr (over x 0 k (ofStr s)) = s.take k ++ (toStr x).drop k /\ (over x 0 k (ofStr s)).length = 128 := by
  rw [zpt (n := 128) (by rw [zgs]; exact hs) hk]
  constructor
  . rw [zkh, znx, zlt, zny]
  . rw [List.length_append, List.length_take, List.length_drop, zgs, hx, hs]; omega

theorem znp {l : List (List Int)} {j : Nat} (hj : j < l.length) : (l.map toStr).getD j [] = toStr (l.getD j []) := by
  simp [List.getD, hj]

theorem zo4 {cr : List CrD} {d : zey} {r : RfD} (h : Same cr d r) (i : Int) (s : List UInt8) : (wr d i s).1 = (zun r i s).2.1 /\ Same cr (wr d i s).2 (zun r i s).1 := by
  have hc := zj1 h i
  unfold wr zun
  rw [hc]
  cases hd : r.2.2.2.1 with
  | true => simp only [if_true, ne_eq, reduceCtorEq, not_false_eq_true]; exact ⟨rfl, h⟩
  | false =>
    simp only [Bool.false_eq_true, if_false]
    by_cases h1 : i < 0 \/ (r.1.length : Int) <= i
    . rw [if_pos h1, if_pos (by decide), if_pos (by omega)]; exact ⟨rfl, h⟩
    rw [if_neg h1, if_neg (by decide)]
    by_cases h3 : s.length = 128
    . rw [if_neg (fun hh => hh h3), if_neg (by omega), h.crash, <- h.writes, h.crashes]
      obtain ⟨j, rfl⟩ := Int.eq_ofNat_of_zero_le (show 0 <= i by omega)
      have hj : j < d.1.length := by
        have : r.1.length = d.1.length := by rw [h.blocks, List.length_map]
        omega
      have hx := h.len _ (zk4 d.1 [] j hj)
      rw [Int.toNat_natCast]
      have hlen : ∀ (k : Nat), k <= 128 -> ∀ b ∈ d.1.set j (over (d.1.getD j []) 0 k (ofStr s)), b.length = 128 := by
        intro k hk b hb
        rcases List.mem_or_eq_of_mem_set hb with hb | rfl
        . exact h.len b hb
        . exact (znh hx h3 hk).2
      have hblk : ∀ (k : Nat), k <= 128 -> r.1.set j (s.take k ++ (r.1.getD j []).drop k) = (d.1.set j (over (d.1.getD j []) 0 k (ofStr s))).map toStr := by
        intro k hk
        rw [ztp, (znh hx h3 hk).1, h.blocks, znp hj]
      cases hf : z5j r.2.2.1 cr with
      | some k =>
        obtain ⟨k1, k2⟩ := zfh hf
        exact ⟨rfl, zh9 h.keeps rfl, hlen k.toNat (by omega), by simpa using h.pos, hblk k.toNat (by omega), fun n => h.crash n, rfl, rfl, rfl⟩
      | none =>
        exact ⟨rfl, zh9 h.keeps rfl, hlen 128 (by omega), by simpa using h.pos, hblk 128 (by omega), fun n => h.crash n, rfl, rfl, by rw [<- h.down, hd]⟩
    . rw [if_pos h3, if_pos (.inr (.inr h3))]; exact ⟨rfl, h⟩

theorem zko {cr : List CrD} {d : zey} {r : RfD} (h : Same cr d r) (i : Int) : (rdS d i).1 = (zrt r i).1 /\ (rdS d i).2 = (zrt r i).2.1 := by
  have hc := zj1 h i
  unfold rdS zrt
  rw [hc]
  cases hd : r.2.2.2.1 with
  | true => simp only [if_true, ne_eq, reduceCtorEq, not_false_eq_true]; exact ⟨rfl, rfl⟩
  | false =>
    simp only [Bool.false_eq_true, if_false]
    by_cases h1 : i < 0 \/ (r.1.length : Int) <= i
    . rw [if_pos h1, if_pos (by decide), if_pos h1]; exact ⟨rfl, rfl⟩
    rw [if_neg h1, if_neg (by decide), if_neg h1]
    obtain ⟨j, rfl⟩ := Int.eq_ofNat_of_zero_le (show 0 <= i by omega)
    have hj : j < d.1.length := by
      have : r.1.length = d.1.length := by rw [h.blocks, List.length_map]
      omega
    have hx := h.len _ (zk4 d.1 [] j hj)
    refine ⟨?_, rfl⟩
    dsimp only
    rw [Int.toNat_natCast, zsc hx, h.blocks, znp hj]

theorem zj0 {cr : List CrD} {d : zey} {r : RfD} (h : Same cr d r) : Same cr (d.1, (d.2.1, (false, d.2.2.2))) (r.1, (r.2.1, (r.2.2.1, (false, ())))) :=
  ⟨zh9 h.keeps rfl, h.len, h.pos, h.blocks, fun n => h.crash n, h.crashes, h.writes, rfl⟩

end
end Go.Proofs.YtgckeokmmgelcaaLg

set_option linter.all false
set_option maxRecDepth 100000
namespace Go.Proofs.YtgckeokmmgelcaaLg
noncomputable section
open Go Go.Lift Go.Proofs.YtgckeokmmgelcaaPx

abbrev ActD : Type := Int × (Int × (List UInt8 × Unit))
abbrev act0 : ActD := ((0 : Int), ((0 : Int), (([] : List UInt8), ())))

theorem zoz (N : Nat) (s : List UInt8) : ∃ y, z18 N s = some y := by
  by_cases h : s.length <= 128
  . exact ⟨_, zsi N h⟩
  . exact ⟨s, by rw [z18, z1b (decide_eq_true (by omega))]⟩

theorem zug (d : zey) (i : Int) (s : List UInt8) : (wr d i s).2.1.length = d.1.length := by
  unfold wr
  split
  . rfl
  . split
    . rfl
    . split
      . simp
      . simp

structure Ok41 (cr : List CrD) (n : Int) (d : zey) (r : RfD) : Prop where
  same : Same cr d r
  len : ((d.1.length : Nat) : Int) = n
  small : n <= 30
  crs : cr.length <= 20

variable {cr : List CrD} {n : Int} {d : zey} {r : RfD} {l : List ActD} {i : Nat}

theorem ok_r (h : Ok41 cr n d r) : (∀ b ∈ r.1, b.length = 128) /\ r.1.length <= 1000000 /\ r.2.1.length <= 20 := by
  refine ⟨fun b hb => ?_, ?_, by rw [h.same.crashes]; exact h.crs⟩
  . rw [h.same.blocks, List.mem_map] at hb
    obtain ⟨x, hx, rfl⟩ := hb
    rw [zkg]; exact h.same.len x hx
  . rw [h.same.blocks, List.length_map]
    have := h.len; have := h.small; omega

theorem p8_ok (N : Nat) (hN : 200 < N) (h : Ok41 cr n d r) (hi : i < l.length) : ∃ d' r', Ok41 cr n d' r' /\ ∀ k0 k1, z1u N n l d r (i : Int) k0 k1 = k1 d' r' := by
  simp only [z1u, z9e hi, cond_true]
  generalize l.getD (Int.toNat (i : Int)) act0 = a
  obtain ⟨h1, h2, h3⟩ := ok_r h
  by_cases h0 : a.1 = 0
  . obtain ⟨y, hy⟩ := zoz N a.2.2.1
    obtain ⟨e1, e2⟩ := zo4 h.same a.2.1 y
    refine ⟨_, _, ⟨e2, by rw [zug]; exact h.len, h.small, h.crs⟩, fun k0 k1 => ?_⟩
    rw [z1b (by rw [h0]; rfl), hy]
    simp only [Option.bind_some]
    rw [zlx N r a.2.1 y (by omega) (by omega) h2 h1]
    simp only [Option.bind_some]
    rw [zdh N h.same.keeps]
    simp only [Option.bind_some]
    rw [e1, z2f (by simp)]
  . exact ⟨d, r, h, fun k0 k1 => by rw [z2f (by simpa using h0)]⟩

theorem p9_ok (N : Nat) (h : Ok41 cr n d r) (hi : i < l.length) (k0 : Bool -> Option Bool) (k1 : zey -> Option Bool) : z1t N n l d r (i : Int) k0 k1 = k1 d := by
  simp only [z1t, z9e hi, cond_true]
  generalize l.getD (Int.toNat (i : Int)) act0 = a
  obtain ⟨e1, e2⟩ := zko h.same a.2.1
  by_cases h0 : a.1 = 1
  . rw [z1b (by rw [h0]; rfl), zf8, Option.bind_some, zo9, Option.bind_some]
    simp only [z2d]
    rw [e1, e2, z2f (by simp), show ((zrt r a.2.1).2.1 != (zrt r a.2.1).2.1) = false by simp, cond_false]
  . rw [z2f (by simpa using h0)]

theorem zus (N : Nat) (h : Ok41 cr n d r) (hi : i < l.length) : ∃ d' r', Ok41 cr n d' r' /\ ∀ k0, z1p N n l d r (i : Int) k0 = k0 d' r' := by
  simp only [z1p, z9e hi, cond_true]
  generalize l.getD (Int.toNat (i : Int)) act0 = a
  by_cases h0 : a.1 = 2
  . exact ⟨_, _, ⟨zj0 h.same, h.len, h.small, h.crs⟩, fun k0 => by rw [z1b (by rw [h0]; rfl)]⟩
  . exact ⟨d, r, h, fun k0 => by rw [z2f (by simpa using h0)]⟩

theorem zur (N : Nat) (h : Ok41 cr n d r) (hi : i < l.length) (k0 : zey -> Option Bool) : z1o N n l d r (i : Int) k0 = k0 d := by
  simp only [z1o, z9e hi, cond_true]
  generalize l.getD (Int.toNat (i : Int)) act0 = a
  by_cases h0 : a.1 = 3
  . have hc : z6n N d = some (some d, (d, ())) := by
      unfold z6n
      rw [decide_eq_true (by have := h.len; have := h.small; omega)]
      rfl
    rw [z1b (by rw [h0]; rfl), hc, Option.bind_some]
    dsimp only
    rw [Option.isSome_some, cond_true, zdh N h.same.keeps, Option.bind_some, Option.getD_some]
  . rw [z2f (by simpa using h0)]

theorem zuq (N : Nat) (h : Ok41 cr n d r) (k0 : Bool -> Option Bool) : z1n N n l d r (i : Int) k0 = k0 false := by
  simp only [z1n]
  rw [z2f (by rw [h.same.down]; simp), z2f (by rw [h.same.writes]; simp), show ((((List.length d.1) : Nat) : Int) != n) = false by rw [h.len]; simp]

theorem p7_ok (N : Nat) (hN : 200 < N) (h : Ok41 cr n d r) (hi : i < l.length) : ∃ d' r', Ok41 cr n d' r' /\ ∀ k0 k1, z1v N n l d r (i : Int) k0 k1 = k1 d' r' := by
  obtain ⟨d1, r1, h1, e1⟩ := p8_ok N hN h hi
  obtain ⟨d2, r2, h2, e2⟩ := zus N h1 hi
  refine ⟨d2, r2, h2, fun k0 k1 => ?_⟩
  simp only [z1v]
  rw [e1, p9_ok N h1 hi, e2, zur N h2 hi, zuq N h2, cond_false]

theorem ztu (N : Nat) (hN : 200 < N) {n : Int} (h1 : 1 <= n) (h2 : n <= 30) (cr : List CrD) : z2h N n cr = some (List.replicate n.toNat (toStr zt1), (cr, (0, (false, ())))) := by
  simp only [z2h, z8h]
  rw [zgc (I := fun (v : RfD × Int) => ∃ j : Nat, v = ((List.replicate j (toStr zt1), (([] : List CrD), (0, (false, ())))), (j : Int)) /\ (j : Int) <= n) (m := fun (v : RfD × Int) => (n - v.2).toNat) (R := fun _ => some (List.replicate n.toNat (toStr zt1), (cr, (0, (false, ()))))) ?_ N ((([] : List (List UInt8)), (([] : List CrD), ((0 : Int), (false, ())))), (0 : Int)) ⟨0, rfl, by omega⟩ (by dsimp only; omega)]
  rintro ⟨d, i⟩ f ⟨j, hv, hj⟩ hr
  cases hv
  dsimp only at hr
  simp only [z5l]
  by_cases hlt : (j : Int) < n
  . rw [z1b (z9j hlt), z1b (z9j (by rw [List.length_replicate]; omega)), z9m (by omega)]
    refine hr _ ⟨j + 1, ?_, by omega⟩ (by dsimp only; omega)
    rw [List.replicate_succ' (n := j)]
    rfl
  . have : j = n.toNat := by omega
    rw [z2f (zfp hlt), this]

theorem zrl {n : Int} (h1 : 1 <= n) (h2 : n <= 30) {cr : List CrD} (hc : cr.length <= 20) : Ok41 cr n (List.replicate n.toNat zt1, some (crM [] cr), false, 0, ()) (List.replicate n.toNat (toStr zt1), (cr, (0, (false, ())))) := by
  refine ⟨⟨zl3, fun b hb => ?_, ?_, ?_, fun m => ?_, rfl, rfl, rfl⟩, ?_, h2, hc⟩
  . rw [List.eq_of_mem_replicate hb]; rfl
  . rw [List.length_replicate]; omega
  . rw [List.map_replicate]
  . show lookM (eqD (T.int Go.IntKind.i64)) m (crM [] cr) = _
    rw [zk1]; rfl
  . show (((List.replicate n.toNat zt1).length : Nat) : Int) = n
    rw [List.length_replicate]; omega

theorem zup (N : Nat) (hN : 200 < N) (h : Ok41 cr n d r) (k0 : Bool -> Option Bool) (k1 : Option Bool) : z1m N n (d.1, (d.2.1, (false, d.2.2.2))) r 0 k0 k1 = k1 := by
  simp only [z1m]
  have hs := zj0 h.same
  have hl := h.len
  have hsm := h.small
  have hb : r.1.length = d.1.length := by rw [h.same.blocks, List.length_map]
  rw [zgc (I := fun (v : zey × Int) => v.1 = (d.1, (d.2.1, (false, d.2.2.2))) /\ 0 <= v.2 /\ v.2 <= n) (m := fun (v : zey × Int) => (n - v.2).toNat) (R := fun _ => k1) ?_ N _ ⟨rfl, Int.le_refl _, by dsimp only; omega⟩ (by dsimp only; omega)]
  rintro ⟨e, i⟩ f ⟨he, h1, h2⟩ hr
  dsimp only at he h1 h2 hr
  subst he
  obtain ⟨j, rfl⟩ := Int.eq_ofNat_of_zero_le h1
  simp only [z2a, z2c, z2b]
  by_cases hj : (j : Int) < n
  . obtain ⟨e1, e2⟩ := zko hs (j : Int)
    have hR : zrt (r.1, (r.2.1, (r.2.2.1, (false, ())))) (j : Int) = (r.1.getD j [], (0, ())) := by
      unfold zrt
      rw [if_neg (show ¬ (false = true) by decide), if_neg (by dsimp only; omega), Int.toNat_natCast]
    rw [hR] at e1 e2
    rw [z1b (z9j hj), zf8, Option.bind_some]
    dsimp only
    rw [e1, e2, z1b (z9e (by omega)), Int.toNat_natCast, z2f (by simp), show (((0 : Int)) != 0) = false by rfl, cond_false, z9m (by omega)]
    exact hr _ ⟨rfl, by dsimp only; omega, by dsimp only; omega⟩ (by dsimp only; omega)
  . rw [z2f (zfp hj)]

theorem zpo (k : Nat) (n : Int) (cr : List CrD) (l : List ActD) : z19 (k + 1000) n cr l = some true := by
  have hN : 200 < k + 1000 := by omega
  have hw := zt6 (k + 1000) hN
  simp only [z19, z2m, z2l, hw, Option.bind_some]
  by_cases c1 : 20 < cr.length
  . rw [z1b (z9j (by omega)), cond_true]
  rw [z2f (zfp (by omega))]
  by_cases c2 : 60 < l.length
  . rw [z1b (z9j (by omega)), cond_true]
  rw [z2f (zfp (by omega))]
  have main : ¬ (30 < n /\ n <= 4096) -> (z8l (k + 1000) n cr).bind (fun y =>
    z1x (k + 1000) n cr l y.1 y.2.1
    (fun x61 => some x61)
    (z1w (k + 1000) n cr l y.1 y.2.1
      (fun x62 => some x62)
      (fun d => (z2h (k + 1000) n cr).bind fun y1 =>
        z2j (k + 1000) n l d y1 (0 : Int)
        (fun x63 => some x63)
        (fun d1 r_ => z1m (k + 1000) n (d1.1, (d1.2.1, (false, d1.2.2.2))) r_ (0 : Int)
          (fun x64 => some x64)
          (some true))))) = some true := by
    intro hn
    rw [znj (k + 1000) (by omega) (by omega), Option.bind_some]
    simp only [z1x, z2k, z1w, hw, Option.bind_some]
    by_cases n1 : n < 1
    . rw [z1b (z9j n1), if_pos (.inl n1)]; rfl
    rw [z2f (zfp n1)]
    by_cases n2 : 4096 < n
    . rw [z9j n2, if_pos (.inr n2)]; rfl
    rw [zfp n2, cond_false, if_neg (by omega)]
    dsimp only
    rw [Option.isSome_some, cond_true, z2f (by rfl), Option.getD_some, ztu (k + 1000) hN (by omega) (by omega) cr, Option.bind_some]
    simp only [z2j]
    refine zl4 (I := fun (v : zey × RfD × Int) => Ok41 cr n v.1 v.2.1 /\ 0 <= v.2.2 /\ v.2.2 <= ((l.length : Nat) : Int)) (m := fun (v : zey × RfD × Int) => l.length - v.2.2.toNat) (p := fun o => o = some true) ?_ (k + 1000) _ ⟨zrl (by omega) (by omega) (by omega), Int.le_refl _, by dsimp only; omega⟩ (by dsimp only; omega)
    rintro ⟨d, r, i⟩ f ⟨h, h1, h2⟩ hr
    dsimp only at h h1 h2 hr
    obtain ⟨j, rfl⟩ := Int.eq_ofNat_of_zero_le h1
    simp only [z2i]
    by_cases hj : j < l.length
    . obtain ⟨d', r', h', e⟩ := p7_ok (k + 1000) hN h hj
      rw [z1b (z9j (by omega)), e, z9m (by omega)]
      exact hr _ ⟨h', by dsimp only; omega, by dsimp only; omega⟩ (by dsimp only; omega)
    . rw [z2f (zfp (by omega)), zup (k + 1000) hN h]
  by_cases c3 : 30 < n
  . rw [z1b (z9j c3)]
    by_cases c4 : n <= 4096
    . rw [z9j c4, cond_true]
    . rw [zfp c4, cond_false]
      exact main (fun h => c4 h.2)
  . rw [z2f (zfp c3), cond_false]
    exact main (fun h => c3 h.1)

end
end Go.Proofs.YtgckeokmmgelcaaLg
