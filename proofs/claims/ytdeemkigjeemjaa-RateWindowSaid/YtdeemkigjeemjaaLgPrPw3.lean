import Derived.Test.YtdeemkigjeemjaaLgPrPw2
import Derived.WalkKit
import Derived.Tactics
import Derived.Tactics2
import Derived.Defers
import Derived.Lib.Hide
import Derived.Below
import Derived.Recover
import Derived.Orders
import Derived.WalkSmall
import Derived.LoopN
import Derived.Deep.RegionHeld3
import Derived.Laws.IdiomStrings
import Derived.Test.YtdeemkigjeemjaaLgW
import Derived.Test.YtdeemkigjeemjaaChecked
import Derived.KernelRfl
import Derived.Test.YtdeemkigjeemjaaLgPrPw1
set_option linter.all false
set_option maxRecDepth 100000
namespace Go.Proofs.YtdeemkigjeemjaaLg
noncomputable section
open Go Go.Lift

def ty3 : TyI := ⟨(Go.TypeDesc.int Go.IntKind.i64), 1, 8, (.int .i64), (0 : Int), false⟩

theorem zww : TyOk Go.Proofs.Try.prog 3 ty3 := TyOk.of (by kernel_rfl) (by kernel_rfl) (by kernel_rfl) (by kernel_rfl)

def ty4 : TyI := ⟨Go.TypeDesc.bool, 1, 1, .bool, false, false⟩

theorem zwv : TyOk Go.Proofs.Try.prog 4 ty4 := TyOk.of (by kernel_rfl) (by kernel_rfl) (by kernel_rfl) (by kernel_rfl)

def ty5 : TyI := ⟨(Go.TypeDesc.int Go.IntKind.u8), 1, 1, (.int .u8), (0 : Int), false⟩

theorem zwu : TyOk Go.Proofs.Try.prog 5 ty5 := TyOk.of (by kernel_rfl) (by kernel_rfl) (by kernel_rfl) (by kernel_rfl)

def ty9 : TyI := ⟨Go.TypeDesc.string, 1, 16, .str, ([] : List UInt8), false⟩

theorem zwt : TyOk Go.Proofs.Try.prog 9 ty9 := TyOk.of (by kernel_rfl) (by kernel_rfl) (by kernel_rfl) (by kernel_rfl)

def ty21 : TyI := ⟨(Go.TypeDesc.int Go.IntKind.i32), 1, 4, (.int .i32), (0 : Int), false⟩

theorem zvv : TyOk Go.Proofs.Try.prog 21 ty21 := TyOk.of (by kernel_rfl) (by kernel_rfl) (by kernel_rfl) (by kernel_rfl)

def ty22 : TyI := ⟨(Go.TypeDesc.slice 43), 1, 24, (.sl (.pair .str (.pair (.int .i64) (.pair (.int .i64) .unit)))), ([] : List ((List UInt8) × (Int × (Int × Unit)))), false⟩

theorem zvu : TyOk Go.Proofs.Try.prog 22 ty22 := TyOk.of (by kernel_rfl) (by kernel_rfl) (by kernel_rfl) (by kernel_rfl)

def ty23 : TyI := ⟨(Go.TypeDesc.slice 31), 1, 24, (.sl (.pair .str (.pair .str (.pair (.int .i64) .unit)))), ([] : List ((List UInt8) × ((List UInt8) × (Int × Unit)))), false⟩

theorem zvt : TyOk Go.Proofs.Try.prog 23 ty23 := TyOk.of (by kernel_rfl) (by kernel_rfl) (by kernel_rfl) (by kernel_rfl)

def ty25 : TyI := ⟨(Go.TypeDesc.pointer 48), 1, 8, .opq, (Go.Value.pointer none), false⟩

theorem zvs : TyOk Go.Proofs.Try.prog 25 ty25 := TyOk.of (by kernel_rfl) (by kernel_rfl) (by kernel_rfl) (by kernel_rfl)

def ty26 : TyI := ⟨(Go.TypeDesc.int Go.IntKind.i64), 1, 8, (.int .i64), (0 : Int), false⟩

theorem zvr : TyOk Go.Proofs.Try.prog 26 ty26 := TyOk.of (by kernel_rfl) (by kernel_rfl) (by kernel_rfl) (by kernel_rfl)

def ty31 : TyI := ⟨(Go.TypeDesc.struct (List.toArray ([(Go.Field.mk "Tenant" 9 0 false "" "" 0), (Go.Field.mk "Class" 9 1 false "" "" 16), (Go.Field.mk "Now" 3 2 false "" "" 32)] : List Go.Field))), 3, 40, (.pair .str (.pair .str (.pair (.int .i64) .unit))), (([] : List UInt8), ([] : List UInt8), (0 : Int), ()), true⟩

theorem zvq : TyOk Go.Proofs.Try.prog 31 ty31 := TyOk.of (by kernel_rfl) (by kernel_rfl) (by kernel_rfl) (by kernel_rfl)

def ty34 : TyI := ⟨(Go.TypeDesc.struct (List.toArray ([(Go.Field.mk "Cap" 3 0 false "" "" 0), (Go.Field.mk "Fill" 3 1 false "" "" 8), (Go.Field.mk "Have" 3 2 false "" "" 16), (Go.Field.mk "At" 3 3 false "" "" 24)] : List Go.Field))), 4, 32, (.pair (.int .i64) (.pair (.int .i64) (.pair (.int .i64) (.pair (.int .i64) .unit)))), ((0 : Int), (0 : Int), (0 : Int), (0 : Int), ()), true⟩

theorem zvp : TyOk Go.Proofs.Try.prog 34 ty34 := TyOk.of (by kernel_rfl) (by kernel_rfl) (by kernel_rfl) (by kernel_rfl)

def ty43 : TyI := ⟨(Go.TypeDesc.struct (List.toArray ([(Go.Field.mk "Name" 9 0 false "" "" 0), (Go.Field.mk "Cap" 3 1 false "" "" 16), (Go.Field.mk "Fill" 3 2 false "" "" 24)] : List Go.Field))), 3, 32, (.pair .str (.pair (.int .i64) (.pair (.int .i64) .unit))), (([] : List UInt8), (0 : Int), (0 : Int), ()), true⟩

theorem zqy : TyOk Go.Proofs.Try.prog 43 ty43 := TyOk.of (by kernel_rfl) (by kernel_rfl) (by kernel_rfl) (by kernel_rfl)

def ty44 : TyI := ⟨(Go.TypeDesc.array 2 3), 2, 16, (.arr 2 (.int .i64)), ([(0 : Int), (0 : Int)] : List Int), true⟩

theorem zvo : TyOk Go.Proofs.Try.prog 44 ty44 := TyOk.of (by kernel_rfl) (by kernel_rfl) (by kernel_rfl) (by kernel_rfl)

def ty46 : TyI := ⟨(Go.TypeDesc.map 58 54), 1, 8, .opq, (Go.Value.map none), false⟩

theorem zvn : TyOk Go.Proofs.Try.prog 46 ty46 := TyOk.of (by kernel_rfl) (by kernel_rfl) (by kernel_rfl) (by kernel_rfl)

def ty48 : TyI := ⟨(Go.TypeDesc.struct (List.toArray ([(Go.Field.mk "classes" 22 0 false "" "porter/rate" 0), (Go.Field.mk "start" 3 1 false "" "porter/rate" 24), (Go.Field.mk "buckets" 46 2 false "" "porter/rate" 32)] : List Go.Field))), 3, 40, (.pair (.sl (.pair .str (.pair (.int .i64) (.pair (.int .i64) .unit)))) (.pair (.int .i64) (.pair .opq .unit))), (([] : List ((List UInt8) × (Int × (Int × Unit)))), (0 : Int), (Go.Value.map none), ()), true⟩

theorem zvm : TyOk Go.Proofs.Try.prog 48 ty48 := TyOk.of (by kernel_rfl) (by kernel_rfl) (by kernel_rfl) (by kernel_rfl)

def ty54 : TyI := ⟨(Go.TypeDesc.struct (List.toArray ([(Go.Field.mk "Cap" 3 0 false "" "" 0), (Go.Field.mk "Fill" 3 1 false "" "" 8), (Go.Field.mk "Have" 3 2 false "" "" 16), (Go.Field.mk "At" 3 3 false "" "" 24)] : List Go.Field))), 4, 32, (.pair (.int .i64) (.pair (.int .i64) (.pair (.int .i64) (.pair (.int .i64) .unit)))), ((0 : Int), (0 : Int), (0 : Int), (0 : Int), ()), true⟩

theorem zvl : TyOk Go.Proofs.Try.prog 54 ty54 := TyOk.of (by kernel_rfl) (by kernel_rfl) (by kernel_rfl) (by kernel_rfl)

def ty58 : TyI := ⟨(Go.TypeDesc.struct (List.toArray ([(Go.Field.mk "tenant" 9 0 false "" "porter/rate" 0), (Go.Field.mk "class" 9 1 false "" "porter/rate" 16)] : List Go.Field))), 2, 32, (.pair .str (.pair .str .unit)), (([] : List UInt8), ([] : List UInt8), ()), true⟩

theorem zvk : TyOk Go.Proofs.Try.prog 58 ty58 := TyOk.of (by kernel_rfl) (by kernel_rfl) (by kernel_rfl) (by kernel_rfl)

def ty59 : TyI := ⟨(Go.TypeDesc.func (List.toArray ([58] : List Nat)) (List.toArray ([54, 4] : List Nat)) false), 1, 8, .opq, Go.Value.nilFunc, false⟩

theorem zvj : TyOk Go.Proofs.Try.prog 59 ty59 := TyOk.of (by kernel_rfl) (by kernel_rfl) (by kernel_rfl) (by kernel_rfl)

def ty64 : TyI := ⟨(Go.TypeDesc.func (List.toArray ([21, 4] : List Nat)) (List.toArray ([4] : List Nat)) false), 1, 8, .opq, Go.Value.nilFunc, false⟩

theorem zvi : TyOk Go.Proofs.Try.prog 64 ty64 := TyOk.of (by kernel_rfl) (by kernel_rfl) (by kernel_rfl) (by kernel_rfl)

def ty66 : TyI := ⟨(Go.TypeDesc.func (List.toArray ([43] : List Nat)) (List.toArray ([4] : List Nat)) false), 1, 8, .opq, Go.Value.nilFunc, false⟩

theorem zvh : TyOk Go.Proofs.Try.prog 66 ty66 := TyOk.of (by kernel_rfl) (by kernel_rfl) (by kernel_rfl) (by kernel_rfl)

def tys : List (Nat × TyI) := [(3, ty3), (4, ty4), (5, ty5), (9, ty9), (21, ty21), (22, ty22), (23, ty23), (25, ty25), (26, ty26), (31, ty31), (34, ty34), (43, ty43), (44, ty44), (46, ty46), (48, ty48), (54, ty54), (58, ty58), (59, ty59), (64, ty64), (66, ty66)]

theorem z29 : TysOk Go.Proofs.Try.prog tys := TysOk.cons zww (TysOk.cons zwv (TysOk.cons zwu (TysOk.cons zwt (TysOk.cons zvv (TysOk.cons zvu (TysOk.cons zvt (TysOk.cons zvs (TysOk.cons zvr (TysOk.cons zvq (TysOk.cons zvp (TysOk.cons zqy (TysOk.cons zvo (TysOk.cons zvn (TysOk.cons zvm (TysOk.cons zvl (TysOk.cons zvk (TysOk.cons zvj (TysOk.cons zvi (TysOk.cons zvh (TysOk.nil))))))))))))))))))))

theorem mixed : Go.Proofs.Try.prog.follows .mixedOrders = true := by kernel_rfl

def zbp : Code := (Go.Proofs.Try.f21.body).getD .skip

def z85 : List (List Nat × List Nat) := [([0], [0]), ([0, 1], [2, 0]), ([1, 1], [2, 0])]

def z51 (N : Nat) : Env := z4q tys zk [] [] [] [0] false [] []

theorem zcc (N : Nat) : EnvOk Go.Proofs.Try.prog (z51 N) := zw mixed z29 (FnsOk.nil) (ItsOk.nil)

def z6a (N : Nat) (r_ : ((List ((List UInt8) × (Int × (Int × Unit)))) × (Int × ((Option (List (((List UInt8) × ((List UInt8) × Unit)) × (Int × (Int × (Int × (Int × Unit))))))) × Unit)))) : Option (Bool × (((List ((List UInt8) × (Int × (Int × Unit)))) × (Int × ((Option (List (((List UInt8) × ((List UInt8) × Unit)) × (Int × (Int × (Int × (Int × Unit))))))) × Unit))) × Unit)) :=
 some ((!(!(Option.isSome r_.2.2.1))), (r_, ()))

def z82 (N : Nat) : Tab (Bool × (((List ((List UInt8) × (Int × (Int × Unit)))) × (Int × ((Option (List (((List UInt8) × ((List UInt8) × Unit)) × (Int × (Int × (Int × (Int × Unit))))))) × Unit))) × Unit)) := []

theorem zbo (N : Nat) (x : z2a [(0, .box (.pair (.own (.pair .str (.pair (.int .i64) (.pair (.int .i64) .unit)))) (.pair (.int .i64) (.pair (.mp (.pair .str (.pair .str .unit)) (.pair (.int .i64) (.pair (.int .i64) (.pair (.int .i64) (.pair (.int .i64) .unit))))) .unit))))]) : zbl (z51 N) N (z82 N) z85 Go.Proofs.Try.f21 (mkS [(0, .box (.pair (.own (.pair .str (.pair (.int .i64) (.pair (.int .i64) .unit)))) (.pair (.int .i64) (.pair (.mp (.pair .str (.pair .str .unit)) (.pair (.int .i64) (.pair (.int .i64) (.pair (.int .i64) (.pair (.int .i64) .unit))))) .unit))))] 0 x) (zm6 (.v .bool) [(0, .box (.pair (.own (.pair .str (.pair (.int .i64) (.pair (.int .i64) .unit)))) (.pair (.int .i64) (.pair (.mp (.pair .str (.pair .str .unit)) (.pair (.int .i64) (.pair (.int .i64) (.pair (.int .i64) (.pair (.int .i64) .unit))))) .unit))))] 0) = z6a N x.1 := by kernel_rfl

def z69 (N : Nat) : List A -> Res := z1u [(0, .box (.pair (.own (.pair .str (.pair (.int .i64) (.pair (.int .i64) .unit)))) (.pair (.int .i64) (.pair (.mp (.pair .str (.pair .str .unit)) (.pair (.int .i64) (.pair (.int .i64) (.pair (.int .i64) (.pair (.int .i64) .unit))))) .unit))))] (fun x => z6a N x.1) (zpx (.v .bool) [(0, .box (.pair (.own (.pair .str (.pair (.int .i64) (.pair (.int .i64) .unit)))) (.pair (.int .i64) (.pair (.mp (.pair .str (.pair .str .unit)) (.pair (.int .i64) (.pair (.int .i64) (.pair (.int .i64) (.pair (.int .i64) .unit))))) .unit))))] 0)

theorem z78 (N : Nat) : Contract Go.Proofs.Try.prog zk 21 (z69 N) :=
  Contract.of (E := z51 N) (H := z82 N) (L := z85) (N := N) (body := zbp) (K := (zm6 (.v .bool) [(0, .box (.pair (.own (.pair .str (.pair (.int .i64) (.pair (.int .i64) .unit)))) (.pair (.int .i64) (.pair (.mp (.pair .str (.pair .str .unit)) (.pair (.int .i64) (.pair (.int .i64) (.pair (.int .i64) (.pair (.int .i64) .unit))))) .unit))))] 0)) (zcc N) Go.Proofs.Try.func21 (by kernel_rfl) (by decide) (fun _ hb => TabOk.nil) (fun x y h => by rw [zbo]; exact h) (zko (s := (.v .bool)) (os := [(0, .box (.pair (.own (.pair .str (.pair (.int .i64) (.pair (.int .i64) .unit)))) (.pair (.int .i64) (.pair (.mp (.pair .str (.pair .str .unit)) (.pair (.int .i64) (.pair (.int .i64) (.pair (.int .i64) (.pair (.int .i64) .unit))))) .unit))))]) (m := 0))

def z84 : Code := (Go.Proofs.Try.f21.body).getD .skip

def z5d : List (List Nat × List Nat) := [([0], [0]), ([0, 1], [2]), ([1, 1], [2])]

def z30 (N : Nat) : Env := z4q tys zk [] [] [] [] false [] []

theorem z8z (N : Nat) : EnvOk Go.Proofs.Try.prog (z30 N) := zw mixed z29 (FnsOk.nil) (ItsOk.nil)

def z41 (N : Nat) : Option Bool :=
 some false

def z5c (N : Nat) : Tab Bool := []

theorem z83 (N : Nat) (x : z2a [(0, .nilp)]) : zbl (z30 N) N (z5c N) z5d Go.Proofs.Try.f21 (mkS [(0, .nilp)] 0 x) (z5m (.v .bool) 1) = z41 N := by kernel_rfl

def z8y (N : Nat) : List A -> Res := z1u [(0, .nilp)] (fun x => z41 N) (za8 (.v .bool) 1)

theorem za1 (N : Nat) : Contract Go.Proofs.Try.prog zk 21 (z8y N) :=
  Contract.of (E := z30 N) (H := z5c N) (L := z5d) (N := N) (body := z84) (K := (z5m (.v .bool) 1)) (z8z N) Go.Proofs.Try.func21 (by kernel_rfl) (by decide) (fun _ hb => TabOk.nil) (fun x y h => by rw [z83]; exact h) (z1l (s := (.v .bool)) (m := 1))

def z18 (N : Nat) : List A -> Res := zjd [(0, .nilp)] (fun x => z41 N) (za8 (.v .bool) 1) (z69 N)

theorem z1h (N : Nat) : Contract Go.Proofs.Try.prog zk 21 (z18 N) := Contract.alt (za1 N) (z78 N)

def zfs : Code := (Go.Proofs.Try.f16.body).getD .skip

def zcx : List (List Nat × List Nat) := [([0], [0]), ([0, 1], [2]), ([1, 1], [2])]

def z8v (N : Nat) : Env := z4q tys zk [] [] [] [] false [] []

theorem zgw (N : Nat) : EnvOk Go.Proofs.Try.prog (z8v N) := zw mixed z29 (FnsOk.nil) (ItsOk.nil)

def z2z (N : Nat) (n : Int) : Option Bool :=
 cond (decide ((0 : Int) <= n))
 (some (decide (n <= (1099511627776 : Int))))
 (some false)

def zcw (N : Nat) : Tab Bool := []

theorem zfr (N : Nat) (x : z2a [(0, .v (.int .i64))]) : zbl (z8v N) N (zcw N) zcx Go.Proofs.Try.f16 (mkS [(0, .v (.int .i64))] 0 x) (z5m (.v .bool) 1) = z2z N x.1 := by kernel_rfl

def z2y (N : Nat) : List A -> Res := z1u [(0, .v (.int .i64))] (fun x => z2z N x.1) (za8 (.v .bool) 1)

theorem z56 (N : Nat) : Contract Go.Proofs.Try.prog zk 16 (z2y N) :=
  Contract.of (E := z8v N) (H := zcw N) (L := zcx) (N := N) (body := zfs) (K := (z5m (.v .bool) 1)) (zgw N) Go.Proofs.Try.func16 (by kernel_rfl) (by decide) (fun _ hb => TabOk.nil) (fun x y h => by rw [zfr]; exact h) (z1l (s := (.v .bool)) (m := 1))

def z33 : Code := (Go.Proofs.Try.f10.body).getD .skip

def z4l : List (List Nat × List Nat) := [([0], [9, 0, 1]), ([1], [0]), ([0, 0, 1], [0]), ([1, 0, 1], [0])]

def z2u (N : Nat) : Env := z4q tys zk [(16, z2y N), (21, z18 N)] [] [] [0] false [] []

theorem zbs (N : Nat) : EnvOk Go.Proofs.Try.prog (z2u N) := zw mixed z29 (FnsOk.cons (z56 N) (FnsOk.cons (z1h N) (FnsOk.nil))) (ItsOk.nil)

def z45 (N : Nat) (r_ : ((List ((List UInt8) × (Int × (Int × Unit)))) × (Int × ((Option (List (((List UInt8) × ((List UInt8) × Unit)) × (Int × (Int × (Int × (Int × Unit))))))) × Unit)))) (now : Int) (k0 : Bool -> Option ((Unit) × (((List ((List UInt8) × (Int × (Int × Unit)))) × (Int × ((Option (List (((List UInt8) × ((List UInt8) × Unit)) × (Int × (Int × (Int × (Int × Unit))))))) × Unit))) × Unit))) : Option ((Unit) × (((List ((List UInt8) × (Int × (Int × Unit)))) × (Int × ((Option (List (((List UInt8) × ((List UInt8) × Unit)) × (Int × (Int × (Int × (Int × Unit))))))) × Unit))) × Unit)) :=
 cond (!(!(Option.isSome r_.2.2.1)))
 ((z2z N now).bind fun y =>
 k0 y)
 (k0 false)

def z6f (N : Nat) (x : z2a [(0, .box (.pair (.own (.pair .str (.pair (.int .i64) (.pair (.int .i64) .unit)))) (.pair (.int .i64) (.pair (.mp (.pair .str (.pair .str .unit)) (.pair (.int .i64) (.pair (.int .i64) (.pair (.int .i64) (.pair (.int .i64) .unit))))) .unit)))), (0, .v (.int .i64))]) (K : Ex -> List A -> Option ((Unit) × (((List ((List UInt8) × (Int × (Int × Unit)))) × (Int × ((Option (List (((List UInt8) × ((List UInt8) × Unit)) × (Int × (Int × (Int × (Int × Unit))))))) × Unit))) × Unit))) : Option ((Unit) × (((List ((List UInt8) × (Int × (Int × Unit)))) × (Int × ((Option (List (((List UInt8) × ((List UInt8) × Unit)) × (Int × (Int × (Int × (Int × Unit))))))) × Unit))) × Unit)) :=
 z45 N x.1 x.2.1 (fun a2 => (K .normal (mkS [(0, .box (.pair (.own (.pair .str (.pair (.int .i64) (.pair (.int .i64) .unit)))) (.pair (.int .i64) (.pair (.mp (.pair .str (.pair .str .unit)) (.pair (.int .i64) (.pair (.int .i64) (.pair (.int .i64) (.pair (.int .i64) .unit))))) .unit)))), (0, .v (.int .i64)), (7, .v .bool)] 8 (x.1, x.2.1, a2, ()))))

def z6e (N : Nat) : Hd ((Unit) × (((List ((List UInt8) × (Int × (Int × Unit)))) × (Int × ((Option (List (((List UInt8) × ((List UInt8) × Unit)) × (Int × (Int × (Int × (Int × Unit))))))) × Unit))) × Unit)) := fun st K => (unS [(0, .box (.pair (.own (.pair .str (.pair (.int .i64) (.pair (.int .i64) .unit)))) (.pair (.int .i64) (.pair (.mp (.pair .str (.pair .str .unit)) (.pair (.int .i64) (.pair (.int .i64) (.pair (.int .i64) (.pair (.int .i64) .unit))))) .unit)))), (0, .v (.int .i64))] 16 (restr [0, 1] 0 st)).bind fun x => z6f N x K

def zcd (N : Nat) : Tab ((Unit) × (((List ((List UInt8) × (Int × (Int × Unit)))) × (Int × ((Option (List (((List UInt8) × ((List UInt8) × Unit)) × (Int × (Int × (Int × (Int × Unit))))))) × Unit))) × Unit)) := []

theorem zbr {N : Nat} {c : Ctx} (hb : Base Go.Proofs.Try.prog (z2u N) c) : z16 Go.Proofs.Try.prog c (zl z33 [0]) (z6e N) :=
  z1a (s := [(0, .box (.pair (.own (.pair .str (.pair (.int .i64) (.pair (.int .i64) .unit)))) (.pair (.int .i64) (.pair (.mp (.pair .str (.pair .str .unit)) (.pair (.int .i64) (.pair (.int .i64) (.pair (.int .i64) (.pair (.int .i64) .unit))))) .unit)))), (0, .v (.int .i64))]) (m := 16) (g := z6f N) [0, 1] (zp hb N (zcd N) z4l z33 TabOk.nil [0] _ rfl) (fun x K => by kernel_rfl)

def z2o (N : Nat) (r_ : ((List ((List UInt8) × (Int × (Int × Unit)))) × (Int × ((Option (List (((List UInt8) × ((List UInt8) × Unit)) × (Int × (Int × (Int × (Int × Unit))))))) × Unit)))) (now : Int) : Option ((Unit) × (((List ((List UInt8) × (Int × (Int × Unit)))) × (Int × ((Option (List (((List UInt8) × ((List UInt8) × Unit)) × (Int × (Int × (Int × (Int × Unit))))))) × Unit))) × Unit)) :=
 z45 N r_ now
 (fun x9 => cond x9
 (cond (Option.isSome r_.2.2.1)
 (some ((), ((r_.1, (now, ((Option.some ([] : List (((List UInt8) × ((List UInt8) × Unit)) × (Int × (Int × (Int × (Int × Unit))))))), r_.2.2.2))), ())))
 (none))
 (some ((), (r_, ()))))

def z7b (N : Nat) : Tab ((Unit) × (((List ((List UInt8) × (Int × (Int × Unit)))) × (Int × ((Option (List (((List UInt8) × ((List UInt8) × Unit)) × (Int × (Int × (Int × (Int × Unit))))))) × Unit))) × Unit)) := [([0], z6e N)]

theorem zam (N : Nat) (x : z2a [(0, .box (.pair (.own (.pair .str (.pair (.int .i64) (.pair (.int .i64) .unit)))) (.pair (.int .i64) (.pair (.mp (.pair .str (.pair .str .unit)) (.pair (.int .i64) (.pair (.int .i64) (.pair (.int .i64) (.pair (.int .i64) .unit))))) .unit)))), (0, .v (.int .i64))]) : zbl (z2u N) N (z7b N) z4l Go.Proofs.Try.f10 (mkS [(0, .box (.pair (.own (.pair .str (.pair (.int .i64) (.pair (.int .i64) .unit)))) (.pair (.int .i64) (.pair (.mp (.pair .str (.pair .str .unit)) (.pair (.int .i64) (.pair (.int .i64) (.pair (.int .i64) (.pair (.int .i64) .unit))))) .unit)))), (0, .v (.int .i64))] 0 x) (zm6 (.tup []) [(0, .box (.pair (.own (.pair .str (.pair (.int .i64) (.pair (.int .i64) .unit)))) (.pair (.int .i64) (.pair (.mp (.pair .str (.pair .str .unit)) (.pair (.int .i64) (.pair (.int .i64) (.pair (.int .i64) (.pair (.int .i64) .unit))))) .unit))))] 1) = z2o N x.1 x.2.1 := by kernel_rfl

def z5x (N : Nat) : List A -> Res := z1u [(0, .box (.pair (.own (.pair .str (.pair (.int .i64) (.pair (.int .i64) .unit)))) (.pair (.int .i64) (.pair (.mp (.pair .str (.pair .str .unit)) (.pair (.int .i64) (.pair (.int .i64) (.pair (.int .i64) (.pair (.int .i64) .unit))))) .unit)))), (0, .v (.int .i64))] (fun x => z2o N x.1 x.2.1) (zpx (.tup []) [(0, .box (.pair (.own (.pair .str (.pair (.int .i64) (.pair (.int .i64) .unit)))) (.pair (.int .i64) (.pair (.mp (.pair .str (.pair .str .unit)) (.pair (.int .i64) (.pair (.int .i64) (.pair (.int .i64) (.pair (.int .i64) .unit))))) .unit))))] 1)

theorem zce (N : Nat) : Contract Go.Proofs.Try.prog zk 10 (z5x N) :=
  Contract.of (E := z2u N) (H := z7b N) (L := z4l) (N := N) (body := z33) (K := (zm6 (.tup []) [(0, .box (.pair (.own (.pair .str (.pair (.int .i64) (.pair (.int .i64) .unit)))) (.pair (.int .i64) (.pair (.mp (.pair .str (.pair .str .unit)) (.pair (.int .i64) (.pair (.int .i64) (.pair (.int .i64) (.pair (.int .i64) .unit))))) .unit))))] 1)) (zbs N) Go.Proofs.Try.func10 (by kernel_rfl) (by decide) (fun _ hb => (TabOk.cons (zbr hb) TabOk.nil)) (fun x y h => by rw [zam]; exact h) (zko (s := (.tup [])) (os := [(0, .box (.pair (.own (.pair .str (.pair (.int .i64) (.pair (.int .i64) .unit)))) (.pair (.int .i64) (.pair (.mp (.pair .str (.pair .str .unit)) (.pair (.int .i64) (.pair (.int .i64) (.pair (.int .i64) (.pair (.int .i64) .unit))))) .unit))))]) (m := 1))

def z1y : Code := (Go.Proofs.Try.f10.body).getD .skip

def z2s : List (List Nat × List Nat) := [([0], [9, 0, 1]), ([1], []), ([0, 0, 1], [0]), ([1, 0, 1], [])]

def z1t (N : Nat) : Env := z4q tys zk [(16, z2y N), (21, z18 N)] [] [] [] false [] []

theorem z8c (N : Nat) : EnvOk Go.Proofs.Try.prog (z1t N) := zw mixed z29 (FnsOk.cons (z56 N) (FnsOk.cons (z1h N) (FnsOk.nil))) (ItsOk.nil)

def z4i (N : Nat) (now : Int) (k0 : Bool -> Option (Unit)) : Option (Unit) :=
 k0 false

def z4k (N : Nat) (x : z2a [(0, .nilp), (0, .v (.int .i64))]) (K : Ex -> List A -> Option (Unit)) : Option (Unit) :=
 z4i N x.2.1 (fun a1 => (K .normal (mkS [(0, .nilp), (0, .v (.int .i64)), (7, .v .bool)] 8 ((), x.2.1, a1, ()))))

def z4j (N : Nat) : Hd (Unit) := fun st K => (unS [(0, .nilp), (0, .v (.int .i64))] 16 (restr [0, 1] 0 st)).bind fun x => z4k N x K

def z94 (N : Nat) : Tab (Unit) := []

theorem z8b {N : Nat} {c : Ctx} (hb : Base Go.Proofs.Try.prog (z1t N) c) : z16 Go.Proofs.Try.prog c (zl z1y [0]) (z4j N) :=
  z1a (s := [(0, .nilp), (0, .v (.int .i64))]) (m := 16) (g := z4k N) [0, 1] (zp hb N (z94 N) z2s z1y TabOk.nil [0] _ rfl) (fun x K => by kernel_rfl)

def z3e (N : Nat) (now : Int) : Option (Unit) :=
 z4i N now
 (fun x9 => cond x9
 (none)
 (some ()))

def z4v (N : Nat) : Tab (Unit) := [([0], z4j N)]

theorem z7i (N : Nat) (x : z2a [(0, .nilp), (0, .v (.int .i64))]) : zbl (z1t N) N (z4v N) z2s Go.Proofs.Try.f10 (mkS [(0, .nilp), (0, .v (.int .i64))] 0 x) (z5m (.tup []) 2) = z3e N x.2.1 := by kernel_rfl

def z8a (N : Nat) : List A -> Res := z1u [(0, .nilp), (0, .v (.int .i64))] (fun x => z3e N x.2.1) (za8 (.tup []) 2)

theorem z95 (N : Nat) : Contract Go.Proofs.Try.prog zk 10 (z8a N) :=
  Contract.of (E := z1t N) (H := z4v N) (L := z2s) (N := N) (body := z1y) (K := (z5m (.tup []) 2)) (z8c N) Go.Proofs.Try.func10 (by kernel_rfl) (by decide) (fun _ hb => (TabOk.cons (z8b hb) TabOk.nil)) (fun x y h => by rw [z7i]; exact h) (z1l (s := (.tup [])) (m := 2))

def z4b (N : Nat) : List A -> Res := zjd [(0, .nilp), (0, .v (.int .i64))] (fun x => z3e N x.2.1) (za8 (.tup []) 2) (z5x N)

theorem z6u (N : Nat) : Contract Go.Proofs.Try.prog zk 10 (z4b N) := Contract.alt (z95 N) (zce N)

def zdp : Code := (Go.Proofs.Try.f36.body).getD .skip

def zb1 : List (List Nat × List Nat) := [([0], [0]), ([0, 1], [2]), ([1, 1], [2])]

def z6s (N : Nat) : Env := z4q tys zk [] [] [] [] false [] []

theorem zew (N : Nat) : EnvOk Go.Proofs.Try.prog (z6s N) := zw mixed z29 (FnsOk.nil) (ItsOk.nil)

def z2m (N : Nat) (n : Int) : Option Bool :=
 cond (decide ((0 : Int) <= n))
 (some (decide (n <= (1099511627776 : Int))))
 (some false)

def zb0 (N : Nat) : Tab Bool := []

theorem zdo (N : Nat) (x : z2a [(0, .v (.int .i64))]) : zbl (z6s N) N (zb0 N) zb1 Go.Proofs.Try.f36 (mkS [(0, .v (.int .i64))] 0 x) (z5m (.v .bool) 1) = z2m N x.1 := by kernel_rfl

def z8p (N : Nat) : List A -> Res := z1u [(0, .v (.int .i64))] (fun x => z2m N x.1) (za8 (.v .bool) 1)

theorem zg1 (N : Nat) : Contract Go.Proofs.Try.prog zk 36 (z8p N) :=
  Contract.of (E := z6s N) (H := zb0 N) (L := zb1) (N := N) (body := zdp) (K := (z5m (.v .bool) 1)) (zew N) Go.Proofs.Try.func36 (by kernel_rfl) (by decide) (fun _ hb => TabOk.nil) (fun x y h => by rw [zdo]; exact h) (z1l (s := (.v .bool)) (m := 1))

def zey : Code := (Go.Proofs.Try.f32.body).getD .skip

def zc5 : List (List Nat × List Nat) := [([0], [1]), ([0, 1], [2]), ([1, 1], [2])]

def z7s (N : Nat) : Env := z4q tys zk [(36, z8p N)] [] [] [] false [] []

theorem zg3 (N : Nat) : EnvOk Go.Proofs.Try.prog (z7s N) := zw mixed z29 (FnsOk.cons (zg1 N) (FnsOk.nil)) (ItsOk.nil)

def z4d (N : Nat) (b : (Int × (Int × (Int × (Int × Unit))))) : Option Bool :=
 (z2m N b.1).bind fun y =>
 cond y
 ((z2m N b.2.1).bind fun y1 =>
 cond y1
 ((z2m N b.2.2.2.1).bind fun y2 =>
 cond y2
 (cond (decide ((0 : Int) <= b.2.2.1))
 (some (decide (b.2.2.1 <= b.1)))
 (some false))
 (some false))
 (some false))
 (some false)

def zc4 (N : Nat) : Tab Bool := []

theorem zex (N : Nat) (x : z2a [(0, .v (.pair (.int .i64) (.pair (.int .i64) (.pair (.int .i64) (.pair (.int .i64) .unit)))))]) : zbl (z7s N) N (zc4 N) zc5 Go.Proofs.Try.f32 (mkS [(0, .v (.pair (.int .i64) (.pair (.int .i64) (.pair (.int .i64) (.pair (.int .i64) .unit)))))] 0 x) (z5m (.v .bool) 1) = z4d N x.1 := by kernel_rfl

def z5w (N : Nat) : List A -> Res := z1u [(0, .v (.pair (.int .i64) (.pair (.int .i64) (.pair (.int .i64) (.pair (.int .i64) .unit)))))] (fun x => z4d N x.1) (za8 (.v .bool) 1)

theorem zb3 (N : Nat) : Contract Go.Proofs.Try.prog zk 32 (z5w N) :=
  Contract.of (E := z7s N) (H := zc4 N) (L := zc5) (N := N) (body := zey) (K := (z5m (.v .bool) 1)) (zg3 N) Go.Proofs.Try.func32 (by kernel_rfl) (by decide) (fun _ hb => TabOk.nil) (fun x y h => by rw [zex]; exact h) (z1l (s := (.v .bool)) (m := 1))

def z1w : Code := (Go.Proofs.Try.f37.body).getD .skip

def z4e : List (List Nat × List Nat) := [([0], [0, 1]), ([0, 0, 1], [18, 0, 1]), ([1, 0, 1], [0, 1]), ([0, 0, 1, 0, 1], [4]), ([1, 0, 1, 0, 1], [4]), ([0, 1, 1], [4]), ([1, 1, 1], [4])]

def z2w (N : Nat) : Env := z4q tys zk [] [] [] [] false [] []

theorem zdz (N : Nat) : EnvOk Go.Proofs.Try.prog (z2w N) := zw mixed z29 (FnsOk.nil) (ItsOk.nil)

def z5o (N : Nat) (a : Int) (b : Int) (k0 : Bool -> Option Bool) : Option Bool :=
 cond (a == (-(9223372036854775808 : Int)))
 (cond (b == (-(1 : Int)))
 (k0 true)
 (cond (b == (-(9223372036854775808 : Int)))
 (k0 (a == (-(1 : Int))))
 (k0 false)))
 (cond (b == (-(9223372036854775808 : Int)))
 (k0 (a == (-(1 : Int))))
 (k0 false))

def z9o (N : Nat) (x : z2a [(0, .v (.int .i64)), (0, .v (.int .i64))]) (K : Ex -> List A -> Option Bool) : Option Bool :=
 z5o N x.1 x.2.1 (fun a2 => (K .normal (mkS [(0, .v (.int .i64)), (0, .v (.int .i64)), (16, .v .bool)] 7 (x.1, x.2.1, a2, ()))))

def z9m (N : Nat) : Hd Bool := fun st K => (unS [(0, .v (.int .i64)), (0, .v (.int .i64))] 24 (restr [0, 1] 0 st)).bind fun x => z9o N x K

def zfn (N : Nat) : Tab Bool := []

theorem zdx {N : Nat} {c : Ctx} (hb : Base Go.Proofs.Try.prog (z2w N) c) : z16 Go.Proofs.Try.prog c (zl z1w [0, 0, 1]) (z9m N) :=
  z1a (s := [(0, .v (.int .i64)), (0, .v (.int .i64))]) (m := 24) (g := z9o N) [0, 1] (zp hb N (zfn N) z4e z1w TabOk.nil [0, 0, 1] _ rfl) (fun x K => by kernel_rfl)

def z5p (N : Nat) (a : Int) (b : Int) (k0 : Bool -> Option Bool) (k1 : Option Bool) : Option Bool :=
 z5o N a b
 (fun x18 => cond x18
 (k0 true)
 (k1))

def z9p (N : Nat) (x : z2a [(0, .v (.int .i64)), (0, .v (.int .i64))]) (K : Ex -> List A -> Option Bool) : Option Bool :=
 z5p N x.1 x.2.1 (fun a0 => (K .ret (mkS [(4, .v .bool)] 21 (a0, ())))) (K .normal (mkS [(0, .v (.int .i64)), (0, .v (.int .i64))] 24 (x.1, x.2.1, ())))

def z9n (N : Nat) : Hd Bool := fun st K => (unS [(0, .v (.int .i64)), (0, .v (.int .i64))] 24 (restr [0, 1] 0 st)).bind fun x => z9p N x K

def zfo (N : Nat) : Tab Bool := [([0, 0, 1], z9m N)]

theorem zdy {N : Nat} {c : Ctx} (hb : Base Go.Proofs.Try.prog (z2w N) c) : z16 Go.Proofs.Try.prog c (zl z1w [0, 1]) (z9n N) :=
  z1a (s := [(0, .v (.int .i64)), (0, .v (.int .i64))]) (m := 24) (g := z9p N) [0, 1] (zp hb N (zfo N) z4e z1w (TabOk.cons (zdx hb) TabOk.nil) [0, 1] _ rfl) (fun x K => by kernel_rfl)

def z4f (N : Nat) (a : Int) (b : Int) : Option Bool :=
 z5p N a b
 (fun x4 => some x4)
 (cond (b == (0 : Int))
 (none)
 (some ((Go.IntKind.wrap Go.IntKind.i64 (Int.tdiv (Go.IntKind.wrap Go.IntKind.i64 (a * b)) b)) != a)))

def zae (N : Nat) : Tab Bool := [([0, 1], z9n N)]

theorem zcr (N : Nat) (x : z2a [(0, .v (.int .i64)), (0, .v (.int .i64))]) : zbl (z2w N) N (zae N) z4e Go.Proofs.Try.f37 (mkS [(0, .v (.int .i64)), (0, .v (.int .i64))] 0 x) (z5m (.v .bool) 2) = z4f N x.1 x.2.1 := by kernel_rfl

def z7x (N : Nat) : List A -> Res := z1u [(0, .v (.int .i64)), (0, .v (.int .i64))] (fun x => z4f N x.1 x.2.1) (za8 (.v .bool) 2)

theorem zfp (N : Nat) : Contract Go.Proofs.Try.prog zk 37 (z7x N) :=
  Contract.of (E := z2w N) (H := zae N) (L := z4e) (N := N) (body := z1w) (K := (z5m (.v .bool) 2)) (zdz N) Go.Proofs.Try.func37 (by kernel_rfl) (by decide) (fun _ hb => (TabOk.cons (zdy hb) TabOk.nil)) (fun x y h => by rw [zcr]; exact h) (z1l (s := (.v .bool)) (m := 2))

def zli : Code := (Go.Proofs.Try.f38.body).getD .skip

def zlj : List (List Nat × List Nat) := [([0], [0]), ([0, 0, 1], [3]), ([1, 0, 1], []), ([0, 0, 1, 0, 1], [2]), ([1, 0, 1, 0, 1], [2]), ([0, 1, 1], [2]), ([1, 1, 1], [2])]

def zgl (N : Nat) : Env := z4q tys zk [] [] [] [] false [] []

theorem zn0 (N : Nat) : EnvOk Go.Proofs.Try.prog (zgl N) := zw mixed z29 (FnsOk.nil) (ItsOk.nil)

def zk2 (N : Nat) (negative : Bool) : Option Int :=
 cond negative
 (some (-(9223372036854775808 : Int)))
 (some (9223372036854775807 : Int))

def zlg (N : Nat) : Tab Int := []

theorem zlh (N : Nat) (x : z2a [(0, .v .bool)]) : zbl (zgl N) N (zlg N) zlj Go.Proofs.Try.f38 (mkS [(0, .v .bool)] 0 x) (z5m (.v (.int .i64)) 1) = zk2 N x.1 := by kernel_rfl

def zgk (N : Nat) : List A -> Res := z1u [(0, .v .bool)] (fun x => zk2 N x.1) (za8 (.v (.int .i64)) 1)

theorem zpd (N : Nat) : Contract Go.Proofs.Try.prog zk 38 (zgk N) :=
  Contract.of (E := zgl N) (H := zlg N) (L := zlj) (N := N) (body := zli) (K := (z5m (.v (.int .i64)) 1)) (zn0 N) Go.Proofs.Try.func38 (by kernel_rfl) (by decide) (fun _ hb => TabOk.nil) (fun x y h => by rw [zlh]; exact h) (z1l (s := (.v (.int .i64))) (m := 1))

def z5b : Code := (Go.Proofs.Try.f34.body).getD .skip

def zcs : List (List Nat × List Nat) := [([0], [0, 1]), ([0, 0, 1], [10, 0, 1]), ([1, 0, 1], [0, 1]), ([0, 0, 1, 0, 1], [4]), ([1, 0, 1, 0, 1], [4]), ([0, 0, 1, 1], [13, 0, 1]), ([1, 0, 1, 1], [0, 1]), ([0, 0, 1, 0, 1, 1], [4]), ([1, 0, 1, 0, 1, 1], [4]), ([0, 1, 1, 1], [4]), ([1, 1, 1, 1], [4])]

def zaf (N : Nat) : Env := z4q tys zk [(38, zgk N), (37, z7x N)] [] [] [] false [] []

theorem zn3 (N : Nat) : EnvOk Go.Proofs.Try.prog (zaf N) := zw mixed z29 (FnsOk.cons (zpd N) (FnsOk.cons (zfp N) (FnsOk.nil))) (ItsOk.nil)

def ze0 (N : Nat) (a : Int) (b : Int) (k0 : Bool -> Option Int) : Option Int :=
 cond (a == (0 : Int))
 (k0 true)
 (k0 (b == (0 : Int)))

def zj3 (N : Nat) (x : z2a [(0, .v (.int .i64)), (0, .v (.int .i64))]) (K : Ex -> List A -> Option Int) : Option Int :=
 ze0 N x.1 x.2.1 (fun a2 => (K .normal (mkS [(0, .v (.int .i64)), (0, .v (.int .i64)), (8, .v .bool)] 12 (x.1, x.2.1, a2, ()))))

def zj1 (N : Nat) : Hd Int := fun st K => (unS [(0, .v (.int .i64)), (0, .v (.int .i64))] 21 (restr [0, 1] 0 st)).bind fun x => zj3 N x K

def zpe (N : Nat) : Tab Int := []

theorem zn1 {N : Nat} {c : Ctx} (hb : Base Go.Proofs.Try.prog (zaf N) c) : z16 Go.Proofs.Try.prog c (zl z5b [0, 0, 1]) (zj1 N) :=
  z1a (s := [(0, .v (.int .i64)), (0, .v (.int .i64))]) (m := 21) (g := zj3 N) [0, 1] (zp hb N (zpe N) zcs z5b TabOk.nil [0, 0, 1] _ rfl) (fun x K => by kernel_rfl)

def ze1 (N : Nat) (a : Int) (b : Int) (k0 : Int -> Option Int) (k1 : Option Int) : Option Int :=
 ze0 N a b
 (fun x10 => cond x10
 (k0 (0 : Int))
 (k1))

def zj4 (N : Nat) (x : z2a [(0, .v (.int .i64)), (0, .v (.int .i64))]) (K : Ex -> List A -> Option Int) : Option Int :=
 ze1 N x.1 x.2.1 (fun a0 => (K .ret (mkS [(4, .v (.int .i64))] 18 (a0, ())))) (K .normal (mkS [(0, .v (.int .i64)), (0, .v (.int .i64))] 21 (x.1, x.2.1, ())))

def zj2 (N : Nat) : Hd Int := fun st K => (unS [(0, .v (.int .i64)), (0, .v (.int .i64))] 21 (restr [0, 1] 0 st)).bind fun x => zj4 N x K

def zpf (N : Nat) : Tab Int := [([0, 0, 1], zj1 N)]

theorem zn2 {N : Nat} {c : Ctx} (hb : Base Go.Proofs.Try.prog (zaf N) c) : z16 Go.Proofs.Try.prog c (zl z5b [0, 1]) (zj2 N) :=
  z1a (s := [(0, .v (.int .i64)), (0, .v (.int .i64))]) (m := 21) (g := zj4 N) [0, 1] (zp hb N (zpf N) zcs z5b (TabOk.cons (zn1 hb) TabOk.nil) [0, 1] _ rfl) (fun x K => by kernel_rfl)

def zgn (N : Nat) (a : Int) (b : Int) : Option Int :=
 ze1 N a b
 (fun x4 => some x4)
 ((z4f N a b).bind fun y =>
 cond y
 ((zk2 N (!((decide (a < (0 : Int))) == (decide (b < (0 : Int)))))).bind fun y1 =>
 some y1)
 (some (Go.IntKind.wrap Go.IntKind.i64 (a * b))))

def zlk (N : Nat) : Tab Int := [([0, 1], zj2 N)]

theorem zll (N : Nat) (x : z2a [(0, .v (.int .i64)), (0, .v (.int .i64))]) : zbl (zaf N) N (zlk N) zcs Go.Proofs.Try.f34 (mkS [(0, .v (.int .i64)), (0, .v (.int .i64))] 0 x) (z5m (.v (.int .i64)) 2) = zgn N x.1 x.2.1 := by kernel_rfl

def zgm (N : Nat) : List A -> Res := z1u [(0, .v (.int .i64)), (0, .v (.int .i64))] (fun x => zgn N x.1 x.2.1) (za8 (.v (.int .i64)) 2)

theorem zpg (N : Nat) : Contract Go.Proofs.Try.prog zk 34 (zgm N) :=
  Contract.of (E := zaf N) (H := zlk N) (L := zcs) (N := N) (body := z5b) (K := (z5m (.v (.int .i64)) 2)) (zn3 N) Go.Proofs.Try.func34 (by kernel_rfl) (by decide) (fun _ hb => (TabOk.cons (zn2 hb) TabOk.nil)) (fun x y h => by rw [zll]; exact h) (z1l (s := (.v (.int .i64))) (m := 2))

def z1x : Code := (Go.Proofs.Try.f33.body).getD .skip

def z7y : List (List Nat × List Nat) := [([0], [1, 0]), ([0, 0, 1], [12, 1, 0]), ([1, 0, 1], [1, 0]), ([0, 0, 1, 0, 1], [4]), ([1, 0, 1, 0, 1], [4]), ([0, 0, 1, 1], [20, 0, 1]), ([1, 0, 1, 1], [0, 1]), ([0, 0, 1, 0, 1, 1], [4]), ([1, 0, 1, 0, 1, 1], [4]), ([0, 1, 1, 1], [4]), ([1, 1, 1, 1], [4])]

def z64 (N : Nat) : Env := z4q tys zk [] [] [] [] false [] []

theorem zn8 (N : Nat) : EnvOk Go.Proofs.Try.prog (z64 N) := zw mixed z29 (FnsOk.nil) (ItsOk.nil)

def ze4 (N : Nat) (a : Int) (b : Int) (k0 : Bool -> Option Int) : Option Int :=
 cond (decide ((0 : Int) < b))
 (k0 (decide ((Go.IntKind.wrap Go.IntKind.i64 ((9223372036854775807 : Int) - b)) < a)))
 (k0 false)

def zjb (N : Nat) (x : z2a [(0, .v (.int .i64)), (0, .v (.int .i64))]) (K : Ex -> List A -> Option Int) : Option Int :=
 ze4 N x.1 x.2.1 (fun a2 => (K .normal (mkS [(0, .v (.int .i64)), (0, .v (.int .i64)), (10, .v .bool)] 11 (x.1, x.2.1, a2, ()))))

def zj7 (N : Nat) : Hd Int := fun st K => (unS [(0, .v (.int .i64)), (0, .v (.int .i64))] 22 (restr [1, 0] 0 st)).bind fun x => zjb N x K

def zpj (N : Nat) : Tab Int := []

theorem zn6 {N : Nat} {c : Ctx} (hb : Base Go.Proofs.Try.prog (z64 N) c) : z16 Go.Proofs.Try.prog c (zl z1x [0, 0, 1]) (zj7 N) :=
  z1a (s := [(0, .v (.int .i64)), (0, .v (.int .i64))]) (m := 22) (g := zjb N) [1, 0] (zp hb N (zpj N) z7y z1x TabOk.nil [0, 0, 1] _ rfl) (fun x K => by kernel_rfl)

def ze5 (N : Nat) (a : Int) (b : Int) (k0 : Int -> Option Int) (k1 : Option Int) : Option Int :=
 ze4 N a b
 (fun x12 => cond x12
 (k0 (9223372036854775807 : Int))
 (k1))

def zjc (N : Nat) (x : z2a [(0, .v (.int .i64)), (0, .v (.int .i64))]) (K : Ex -> List A -> Option Int) : Option Int :=
 ze5 N x.1 x.2.1 (fun a0 => (K .ret (mkS [(4, .v (.int .i64))] 19 (a0, ())))) (K .normal (mkS [(0, .v (.int .i64)), (0, .v (.int .i64))] 22 (x.1, x.2.1, ())))

def zj8 (N : Nat) : Hd Int := fun st K => (unS [(0, .v (.int .i64)), (0, .v (.int .i64))] 22 (restr [1, 0] 0 st)).bind fun x => zjc N x K

def zpk (N : Nat) : Tab Int := [([0, 0, 1], zj7 N)]

theorem zn7 {N : Nat} {c : Ctx} (hb : Base Go.Proofs.Try.prog (z64 N) c) : z16 Go.Proofs.Try.prog c (zl z1x [0, 1]) (zj8 N) :=
  z1a (s := [(0, .v (.int .i64)), (0, .v (.int .i64))]) (m := 22) (g := zjc N) [1, 0] (zp hb N (zpk N) z7y z1x (TabOk.cons (zn6 hb) TabOk.nil) [0, 1] _ rfl) (fun x K => by kernel_rfl)

def ze2 (N : Nat) (a : Int) (b : Int) (k0 : Bool -> Option Int) : Option Int :=
 cond (decide (b < (0 : Int)))
 (k0 (decide (a < (Go.IntKind.wrap Go.IntKind.i64 ((-(9223372036854775808 : Int)) - b)))))
 (k0 false)

def zj9 (N : Nat) (x : z2a [(0, .v (.int .i64)), (0, .v (.int .i64))]) (K : Ex -> List A -> Option Int) : Option Int :=
 ze2 N x.1 x.2.1 (fun a2 => (K .normal (mkS [(0, .v (.int .i64)), (0, .v (.int .i64)), (18, .v .bool)] 3 (x.1, x.2.1, a2, ()))))

def zj5 (N : Nat) : Hd Int := fun st K => (unS [(0, .v (.int .i64)), (0, .v (.int .i64))] 22 (restr [1, 0] 0 st)).bind fun x => zj9 N x K

def zph (N : Nat) : Tab Int := []

theorem zn4 {N : Nat} {c : Ctx} (hb : Base Go.Proofs.Try.prog (z64 N) c) : z16 Go.Proofs.Try.prog c (zl z1x [0, 0, 1, 1]) (zj5 N) :=
  z1a (s := [(0, .v (.int .i64)), (0, .v (.int .i64))]) (m := 22) (g := zj9 N) [1, 0] (zp hb N (zph N) z7y z1x TabOk.nil [0, 0, 1, 1] _ rfl) (fun x K => by kernel_rfl)

def ze3 (N : Nat) (a : Int) (b : Int) (k0 : Int -> Option Int) (k1 : Option Int) : Option Int :=
 ze2 N a b
 (fun x20 => cond x20
 (k0 (-(9223372036854775808 : Int)))
 (k1))

def zja (N : Nat) (x : z2a [(0, .v (.int .i64)), (0, .v (.int .i64))]) (K : Ex -> List A -> Option Int) : Option Int :=
 ze3 N x.1 x.2.1 (fun a0 => (K .ret (mkS [(4, .v (.int .i64))] 19 (a0, ())))) (K .normal (mkS [(0, .v (.int .i64)), (0, .v (.int .i64))] 22 (x.1, x.2.1, ())))

def zj6 (N : Nat) : Hd Int := fun st K => (unS [(0, .v (.int .i64)), (0, .v (.int .i64))] 22 (restr [1, 0] 0 st)).bind fun x => zja N x K

def zpi (N : Nat) : Tab Int := [([0, 0, 1, 1], zj5 N)]

theorem zn5 {N : Nat} {c : Ctx} (hb : Base Go.Proofs.Try.prog (z64 N) c) : z16 Go.Proofs.Try.prog c (zl z1x [0, 1, 1]) (zj6 N) :=
  z1a (s := [(0, .v (.int .i64)), (0, .v (.int .i64))]) (m := 22) (g := zja N) [1, 0] (zp hb N (zpi N) z7y z1x (TabOk.cons (zn4 hb) TabOk.nil) [0, 1, 1] _ rfl) (fun x K => by kernel_rfl)

def zgp (N : Nat) (a : Int) (b : Int) : Option Int :=
 ze5 N a b
 (fun x4 => some x4)
 (ze3 N a b
 (fun x41 => some x41)
 (some (Go.IntKind.wrap Go.IntKind.i64 (a + b))))

def zlm (N : Nat) : Tab Int := [([0, 1], zj8 N), ([0, 1, 1], zj6 N)]

theorem zln (N : Nat) (x : z2a [(0, .v (.int .i64)), (0, .v (.int .i64))]) : zbl (z64 N) N (zlm N) z7y Go.Proofs.Try.f33 (mkS [(0, .v (.int .i64)), (0, .v (.int .i64))] 0 x) (z5m (.v (.int .i64)) 2) = zgp N x.1 x.2.1 := by kernel_rfl

def zgo (N : Nat) : List A -> Res := z1u [(0, .v (.int .i64)), (0, .v (.int .i64))] (fun x => zgp N x.1 x.2.1) (za8 (.v (.int .i64)) 2)

theorem zpl (N : Nat) : Contract Go.Proofs.Try.prog zk 33 (zgo N) :=
  Contract.of (E := z64 N) (H := zlm N) (L := z7y) (N := N) (body := z1x) (K := (z5m (.v (.int .i64)) 2)) (zn8 N) Go.Proofs.Try.func33 (by kernel_rfl) (by decide) (fun _ hb => (TabOk.cons (zn7 hb) (TabOk.cons (zn5 hb) TabOk.nil))) (fun x y h => by rw [zln]; exact h) (z1l (s := (.v (.int .i64))) (m := 2))

def z3x : Code := (Go.Proofs.Try.f24.body).getD .skip

def z9l : List (List Nat × List Nat) := [([0], [2, 1, 4]), ([0, 0, 1], [18, 2, 4, 1]), ([1, 0, 1], [2, 1, 4]), ([0, 0, 1, 0, 1], [4]), ([1, 0, 1, 0, 1], [4]), ([0, 1, 1], [5, 2, 1, 4]), ([0, 1, 1, 1], [2, 4]), ([0, 1, 1, 1, 1], [4]), ([1, 1, 1, 1, 1], [4])]

def z6t (N : Nat) : Env := z4q tys zk [(33, zgo N), (34, zgm N), (32, z5w N)] [] [] [] false [] []

theorem zl2 (N : Nat) : EnvOk Go.Proofs.Try.prog (z6t N) := zw mixed z29 (FnsOk.cons (zpl N) (FnsOk.cons (zpg N) (FnsOk.cons (zb3 N) (FnsOk.nil)))) (ItsOk.nil)

def zb5 (N : Nat) (now : Int) (b : (Int × (Int × (Int × (Int × Unit))))) (x4 : (Int × (Int × (Int × (Int × Unit))))) (k0 : Bool -> Option (Int × (Int × (Int × (Int × Unit))))) : Option (Int × (Int × (Int × (Int × Unit)))) :=
 (z4d N b).bind fun y =>
 cond (!y)
 (k0 true)
 (cond (decide (now <= b.2.2.2.1))
 (k0 true)
 (k0 (decide ((1099511627776 : Int) < now))))

def zfk (N : Nat) (x : z2a [(1, .v (.int .i64)), (0, .box (.pair (.int .i64) (.pair (.int .i64) (.pair (.int .i64) (.pair (.int .i64) .unit))))), (1, .box (.pair (.int .i64) (.pair (.int .i64) (.pair (.int .i64) (.pair (.int .i64) .unit)))))]) (K : Ex -> List A -> Option (Int × (Int × (Int × (Int × Unit))))) : Option (Int × (Int × (Int × (Int × Unit)))) :=
 zb5 N x.1 x.2.1 x.2.2.1 (fun a3 => (K .normal (mkS [(1, .v (.int .i64)), (0, .box (.pair (.int .i64) (.pair (.int .i64) (.pair (.int .i64) (.pair (.int .i64) .unit))))), (1, .box (.pair (.int .i64) (.pair (.int .i64) (.pair (.int .i64) (.pair (.int .i64) .unit))))), (13, .v .bool)] 19 (x.1, x.2.1, x.2.2.1, a3, ()))))

def zfi (N : Nat) : Hd (Int × (Int × (Int × (Int × Unit)))) := fun st K => (unS [(1, .v (.int .i64)), (0, .box (.pair (.int .i64) (.pair (.int .i64) (.pair (.int .i64) (.pair (.int .i64) .unit))))), (1, .box (.pair (.int .i64) (.pair (.int .i64) (.pair (.int .i64) (.pair (.int .i64) .unit)))))] 33 (restr [2, 1, 4] 0 st)).bind fun x => zfk N x K

def zmt (N : Nat) : Tab (Int × (Int × (Int × (Int × Unit)))) := []

theorem zl0 {N : Nat} {c : Ctx} (hb : Base Go.Proofs.Try.prog (z6t N) c) : z16 Go.Proofs.Try.prog c (zl z3x [0, 0, 1]) (zfi N) :=
  z1a (s := [(1, .v (.int .i64)), (0, .box (.pair (.int .i64) (.pair (.int .i64) (.pair (.int .i64) (.pair (.int .i64) .unit))))), (1, .box (.pair (.int .i64) (.pair (.int .i64) (.pair (.int .i64) (.pair (.int .i64) .unit)))))]) (m := 33) (g := zfk N) [2, 1, 4] (zp hb N (zmt N) z9l z3x TabOk.nil [0, 0, 1] _ rfl) (fun x K => by kernel_rfl)

def zb6 (N : Nat) (now : Int) (b : (Int × (Int × (Int × (Int × Unit))))) (x4 : (Int × (Int × (Int × (Int × Unit))))) (k0 : Option (Int × (Int × (Int × (Int × Unit))))) (k1 : Option (Int × (Int × (Int × (Int × Unit))))) : Option (Int × (Int × (Int × (Int × Unit)))) :=
 zb5 N now b x4
 (fun x18 => cond x18
 (k0)
 (k1))

def zfl (N : Nat) (x : z2a [(1, .v (.int .i64)), (0, .box (.pair (.int .i64) (.pair (.int .i64) (.pair (.int .i64) (.pair (.int .i64) .unit))))), (1, .box (.pair (.int .i64) (.pair (.int .i64) (.pair (.int .i64) (.pair (.int .i64) .unit)))))]) (K : Ex -> List A -> Option (Int × (Int × (Int × (Int × Unit))))) : Option (Int × (Int × (Int × (Int × Unit)))) :=
 zb6 N x.1 x.2.1 x.2.2.1 (K .ret (mkS [(4, .box (.pair (.int .i64) (.pair (.int .i64) (.pair (.int .i64) (.pair (.int .i64) .unit)))))] 33 (x.2.1, ()))) (K .normal (mkS [(1, .v (.int .i64)), (0, .box (.pair (.int .i64) (.pair (.int .i64) (.pair (.int .i64) (.pair (.int .i64) .unit))))), (1, .box (.pair (.int .i64) (.pair (.int .i64) (.pair (.int .i64) (.pair (.int .i64) .unit)))))] 33 (x.1, x.2.1, x.2.2.1, ())))

def zfj (N : Nat) : Hd (Int × (Int × (Int × (Int × Unit)))) := fun st K => (unS [(1, .v (.int .i64)), (0, .box (.pair (.int .i64) (.pair (.int .i64) (.pair (.int .i64) (.pair (.int .i64) .unit))))), (1, .box (.pair (.int .i64) (.pair (.int .i64) (.pair (.int .i64) (.pair (.int .i64) .unit)))))] 33 (restr [2, 1, 4] 0 st)).bind fun x => zfl N x K

def zmu (N : Nat) : Tab (Int × (Int × (Int × (Int × Unit)))) := [([0, 0, 1], zfi N)]

theorem zl1 {N : Nat} {c : Ctx} (hb : Base Go.Proofs.Try.prog (z6t N) c) : z16 Go.Proofs.Try.prog c (zl z3x [0, 1]) (zfj N) :=
  z1a (s := [(1, .v (.int .i64)), (0, .box (.pair (.int .i64) (.pair (.int .i64) (.pair (.int .i64) (.pair (.int .i64) .unit))))), (1, .box (.pair (.int .i64) (.pair (.int .i64) (.pair (.int .i64) (.pair (.int .i64) .unit)))))]) (m := 33) (g := zfl N) [2, 1, 4] (zp hb N (zmu N) z9l z3x (TabOk.cons (zl0 hb) TabOk.nil) [0, 1] _ rfl) (fun x K => by kernel_rfl)

def z3y (N : Nat) (b : (Int × (Int × (Int × (Int × Unit))))) (now : Int) : Option (Int × (Int × (Int × (Int × Unit)))) :=
 zb6 N now b ((0 : Int), ((0 : Int), ((0 : Int), ((0 : Int), ()))))
 (some b)
 ((zgn N b.2.1 (Go.IntKind.wrap Go.IntKind.i64 (now - b.2.2.2.1))).bind fun y =>
 (zgp N b.2.2.1 y).bind fun y1 =>
 some (b.1, (b.2.1, ((if (b.1 < y1) then b.1 else y1), (now, b.2.2.2.2)))))

def zi0 (N : Nat) : Tab (Int × (Int × (Int × (Int × Unit)))) := [([0, 1], zfj N)]

theorem ziv (N : Nat) (x : z2a [(0, .v (.pair (.int .i64) (.pair (.int .i64) (.pair (.int .i64) (.pair (.int .i64) .unit))))), (0, .v (.int .i64))]) : zbl (z6t N) N (zi0 N) z9l Go.Proofs.Try.f24 (mkS [(0, .v (.pair (.int .i64) (.pair (.int .i64) (.pair (.int .i64) (.pair (.int .i64) .unit))))), (0, .v (.int .i64))] 0 x) (z5m (.v (.pair (.int .i64) (.pair (.int .i64) (.pair (.int .i64) (.pair (.int .i64) .unit))))) 2) = z3y N x.1 x.2.1 := by kernel_rfl

def z9k (N : Nat) : List A -> Res := z1u [(0, .v (.pair (.int .i64) (.pair (.int .i64) (.pair (.int .i64) (.pair (.int .i64) .unit))))), (0, .v (.int .i64))] (fun x => z3y N x.1 x.2.1) (za8 (.v (.pair (.int .i64) (.pair (.int .i64) (.pair (.int .i64) (.pair (.int .i64) .unit))))) 2)

theorem zb7 (N : Nat) : Contract Go.Proofs.Try.prog zk 24 (z9k N) :=
  Contract.of (E := z6t N) (H := zi0 N) (L := z9l) (N := N) (body := z3x) (K := (z5m (.v (.pair (.int .i64) (.pair (.int .i64) (.pair (.int .i64) (.pair (.int .i64) .unit))))) 2)) (zl2 N) Go.Proofs.Try.func24 (by kernel_rfl) (by decide) (fun _ hb => (TabOk.cons (zl1 hb) TabOk.nil)) (fun x y h => by rw [ziv]; exact h) (z1l (s := (.v (.pair (.int .i64) (.pair (.int .i64) (.pair (.int .i64) (.pair (.int .i64) .unit)))))) (m := 2))

def zfu : Code := (Go.Proofs.Try.f30.body).getD .skip

def zcz : List (List Nat × List Nat) := [([0], [2, 1]), ([0, 1], [3]), ([1, 1], [3])]

def z8x (N : Nat) : Env := z4q tys zk [] [] [] [] false [] []

theorem zgz (N : Nat) : EnvOk Go.Proofs.Try.prog (z8x N) := zw mixed z29 (FnsOk.nil) (ItsOk.nil)

def zh0 (N : Nat) (c : ((List UInt8) × (Int × (Int × Unit)))) (x1 : (List UInt8)) : Option Bool :=
 some (c.1 == x1)

def zcy (N : Nat) : Tab Bool := []

theorem zft (N : Nat) (x : z2a [(0, .v (.pair .str (.pair (.int .i64) (.pair (.int .i64) .unit)))), (0, .v (.ptr .str))]) : zbl (z8x N) N (zcy N) zcz Go.Proofs.Try.f30 (mkS [(0, .v (.pair .str (.pair (.int .i64) (.pair (.int .i64) .unit)))), (0, .v (.ptr .str))] 0 x) (z5m (.v .bool) 2) = zh0 N x.1 x.2.1 := by kernel_rfl

def z67 (N : Nat) : List A -> Res := z1u [(0, .v (.pair .str (.pair (.int .i64) (.pair (.int .i64) .unit)))), (0, .v (.ptr .str))] (fun x => zh0 N x.1 x.2.1) (za8 (.v .bool) 2)

theorem zbw (N : Nat) : Contract Go.Proofs.Try.prog zk 30 (z67 N) :=
  Contract.of (E := z8x N) (H := zcy N) (L := zcz) (N := N) (body := zfu) (K := (z5m (.v .bool) 2)) (zgz N) Go.Proofs.Try.func30 (by kernel_rfl) (by decide) (fun _ hb => TabOk.nil) (fun x y h => by rw [zft]; exact h) (z1l (s := (.v .bool)) (m := 2))

def z6o : Code := (Go.Proofs.Try.f29.body).getD .skip

def zaw : List (List Nat × List Nat) := [([0], [0, 1]), ([0, 0, 1], [8, 7, 1, 0]), ([0, 1, 0, 1], [8, 7, 1, 0]), ([0, 0, 0, 1, 0, 1], [9, 8, 1, 0, 7]), ([0, 1, 0, 0, 1, 0, 1], [8, 1, 0, 7]), ([1, 0, 1, 0, 0, 1, 0, 1], []), ([0, 0, 0, 1, 1, 0, 0, 1, 0, 1], [1, 0, 5, 8, 7]), ([0, 1, 0, 0, 1, 1, 0, 0, 1, 0, 1], [16, 5, 8, 7, 1, 0]), ([1, 1, 0, 0, 1, 1, 0, 0, 1, 0, 1], [8, 7, 1, 0]), ([0, 0, 1, 1, 0, 0, 1, 1, 0, 0, 1, 0, 1], [4]), ([1, 0, 1, 1, 0, 0, 1, 1, 0, 0, 1, 0, 1], [4]), ([0, 1, 1, 0, 0, 1, 0, 1], [8, 7, 1, 0]), ([1, 1, 1, 0, 0, 1, 0, 1], [8, 7, 1, 0]), ([1, 0, 1], []), ([0, 1, 1], [4]), ([1, 1, 1], [4])]

def z7e (N : Nat) : Env := z4q tys zk [(30, z67 N)] [] [] [] false [] []

theorem zim (N : Nat) : EnvOk Go.Proofs.Try.prog (z7e N) := zw mixed z29 (FnsOk.cons (zbw N) (FnsOk.nil)) (ItsOk.nil)

def z9e (N : Nat) (s : (List ((List UInt8) × (Int × (Int × Unit))))) (f : ((List UInt8) × Unit)) (x7 : Int) (x8 : Int) (rec : Int -> Option Int) (k0 : Int -> Option Int) (k1 : Option Int) : Option Int :=
 cond (decide (x8 < x7))
 (cond (Go.Lift.inR x8 (List.length s))
 (cond ((List.getD s (Int.toNat x8) (([] : List UInt8), ((0 : Int), ((0 : Int), ())))).1 == f.1)
 (k0 x8)
 (rec (Go.IntKind.wrap Go.IntKind.i64 (x8 + (1 : Int)))))
 (none))
 (k1)

def zdf (N : Nat) (s : (List ((List UInt8) × (Int × (Int × Unit))))) (f : ((List UInt8) × Unit)) (x7 : Int) (x8 : Int) (k0 : Int -> Option Int) (k1 : Option Int) : Option Int :=
 iter (fun (v : Int) r => z9e N s f x7 v (fun x8 => (r x8)) k0 k1) N x8

def zdh (N : Nat) (i : ((List ((List UInt8) × (Int × (Int × Unit)))) × ((List UInt8) × Unit) × Int)) (v : Int) (r : Int -> Option Int) (K : Ex -> List A -> Option Int) : Option Int :=
 z9e N i.1 i.2.1 i.2.2 v (fun x8 => (r x8)) (fun a0 => (K .ret (mkS [(4, .v (.int .i64))] 14 (a0, ())))) (K (.exit 0) (mkS [] 19 ()))

def zdg (N : Nat) : Hd Int := fun st K => (unS [(0, .v (.sl (.pair .str (.pair (.int .i64) (.pair (.int .i64) .unit))))), (0, .v (.fn 30 (.pair (.ptr .str) .unit))), (5, .v (.int .i64)), (0, .v (.int .i64))] 10 (restr [8, 7, 1, 0] 0 st)).bind fun x => iter (fun v r => zdh N ((fun x => (x.1, x.2.1, x.2.2.1)) x) v r K) N ((fun x => x.2.2.2.1) x)

def zkq (N : Nat) : Tab Int := []

theorem zil {N : Nat} {c : Ctx} (hb : Base Go.Proofs.Try.prog (z7e N) c) : z16 Go.Proofs.Try.prog c (zl z6o [0, 1, 0, 1]) (zdg N) :=
  zkm (s := [(0, .v (.sl (.pair .str (.pair (.int .i64) (.pair (.int .i64) .unit))))), (0, .v (.fn 30 (.pair (.ptr .str) .unit))), (5, .v (.int .i64)), (0, .v (.int .i64))]) (m := 10) (zdh N) [8, 7, 1, 0] N (fun x => (x.1, x.2.1, x.2.2.1)) (fun x => x.2.2.2.1) (fun i v => (i.1, i.2.1, i.2.2, v, ())) (fun _ => rfl) (zp hb N (zkq N) zaw z6o TabOk.nil [0, 0, 1, 0, 1] _ rfl) (fun i v r K => by kernel_rfl)

def zbj (N : Nat) (s : (List ((List UInt8) × (Int × (Int × Unit))))) (f : ((List UInt8) × Unit)) : Option Int :=
 zdf N s f (((List.length s) : Nat) : Int) (0 : Int)
 (fun x4 => some x4)
 (some (-(1 : Int)))

def zfb (N : Nat) : Tab Int := [([0, 1, 0, 1], zdg N)]

theorem zhm (N : Nat) (x : z2a [(0, .v (.sl (.pair .str (.pair (.int .i64) (.pair (.int .i64) .unit))))), (0, .v (.fn 30 (.pair (.ptr .str) .unit)))]) : zbl (z7e N) N (zfb N) zaw Go.Proofs.Try.f29 (mkS [(0, .v (.sl (.pair .str (.pair (.int .i64) (.pair (.int .i64) .unit))))), (0, .v (.fn 30 (.pair (.ptr .str) .unit)))] 0 x) (z5m (.v (.int .i64)) 2) = zbj N x.1 x.2.1 := by kernel_rfl

def zc0 (N : Nat) : List A -> Res := z1u [(0, .v (.sl (.pair .str (.pair (.int .i64) (.pair (.int .i64) .unit))))), (0, .v (.fn 30 (.pair (.ptr .str) .unit)))] (fun x => zbj N x.1 x.2.1) (za8 (.v (.int .i64)) 2)

theorem zkr (N : Nat) : Contract Go.Proofs.Try.prog zk 29 (zc0 N) :=
  Contract.of (E := z7e N) (H := zfb N) (L := zaw) (N := N) (body := z6o) (K := (z5m (.v (.int .i64)) 2)) (zim N) Go.Proofs.Try.func29 (by kernel_rfl) (by decide) (fun _ hb => (TabOk.cons (zil hb) TabOk.nil)) (fun x y h => by rw [zhm]; exact h) (z1l (s := (.v (.int .i64))) (m := 2))

def zia : Code := (Go.Proofs.Try.f19.body).getD .skip

def zgy : List (List Nat × List Nat) := [([0], [0, 3]), ([0, 1], [4]), ([1, 1], [4])]

def zcb (N : Nat) : Env := z4q tys zk [(29, zc0 N), (30, z67 N)] [] [] [] false [] []

theorem zk7 (N : Nat) : EnvOk Go.Proofs.Try.prog (zcb N) := zw mixed z29 (FnsOk.cons (zkr N) (FnsOk.cons (zbw N) (FnsOk.nil))) (ItsOk.nil)

def z68 (N : Nat) (l : (List ((List UInt8) × (Int × (Int × Unit))))) (class_ : (List UInt8)) : Option Int :=
 (zbj N l (class_, ())).bind fun y =>
 some y

def zgx (N : Nat) : Tab Int := []

theorem zi9 (N : Nat) (x : z2a [(0, .v (.sl (.pair .str (.pair (.int .i64) (.pair (.int .i64) .unit))))), (0, .v .str)]) : zbl (zcb N) N (zgx N) zgy Go.Proofs.Try.f19 (mkS [(0, .v (.sl (.pair .str (.pair (.int .i64) (.pair (.int .i64) .unit))))), (0, .v .str)] 0 x) (z5m (.v (.int .i64)) 2) = z68 N x.1 x.2.1 := by kernel_rfl

def z8w (N : Nat) : List A -> Res := z1u [(0, .v (.sl (.pair .str (.pair (.int .i64) (.pair (.int .i64) .unit))))), (0, .v .str)] (fun x => z68 N x.1 x.2.1) (za8 (.v (.int .i64)) 2)

theorem zf2 (N : Nat) : Contract Go.Proofs.Try.prog zk 19 (z8w N) :=
  Contract.of (E := zcb N) (H := zgx N) (L := zgy) (N := N) (body := zia) (K := (z5m (.v (.int .i64)) 2)) (zk7 N) Go.Proofs.Try.func19 (by kernel_rfl) (by decide) (fun _ hb => TabOk.nil) (fun x y h => by rw [zi9]; exact h) (z1l (s := (.v (.int .i64))) (m := 2))

def zhz : Code := (Go.Proofs.Try.f31.body).getD .skip

def zfh : List (List Nat × List Nat) := [([0], [2, 1, 4]), ([0, 1], [4]), ([1, 1], [4])]

def zb4 (N : Nat) : Env := z4q tys zk [] [] [] [] false [] []

theorem ziu (N : Nat) : EnvOk Go.Proofs.Try.prog (zb4 N) := zw mixed z29 (FnsOk.nil) (ItsOk.nil)

def zjw (N : Nat) (c : ((List UInt8) × (Int × (Int × Unit)))) (now : Int) : Option (Int × (Int × (Int × (Int × Unit)))) :=
 some (c.2.1, (c.2.2.1, ((0 : Int), (now, ()))))

def zfg (N : Nat) : Tab (Int × (Int × (Int × (Int × Unit)))) := []

theorem zhy (N : Nat) (x : z2a [(0, .v (.pair .str (.pair (.int .i64) (.pair (.int .i64) .unit)))), (0, .v (.int .i64))]) : zbl (zb4 N) N (zfg N) zfh Go.Proofs.Try.f31 (mkS [(0, .v (.pair .str (.pair (.int .i64) (.pair (.int .i64) .unit)))), (0, .v (.int .i64))] 0 x) (z5m (.v (.pair (.int .i64) (.pair (.int .i64) (.pair (.int .i64) (.pair (.int .i64) .unit))))) 2) = zjw N x.1 x.2.1 := by kernel_rfl

def zc6 (N : Nat) : List A -> Res := z1u [(0, .v (.pair .str (.pair (.int .i64) (.pair (.int .i64) .unit)))), (0, .v (.int .i64))] (fun x => zjw N x.1 x.2.1) (za8 (.v (.pair (.int .i64) (.pair (.int .i64) (.pair (.int .i64) (.pair (.int .i64) .unit))))) 2)

theorem zkz (N : Nat) : Contract Go.Proofs.Try.prog zk 31 (zc6 N) :=
  Contract.of (E := zb4 N) (H := zfg N) (L := zfh) (N := N) (body := zhz) (K := (z5m (.v (.pair (.int .i64) (.pair (.int .i64) (.pair (.int .i64) (.pair (.int .i64) .unit))))) 2)) (ziu N) Go.Proofs.Try.func31 (by kernel_rfl) (by decide) (fun _ hb => TabOk.nil) (fun x y h => by rw [zhy]; exact h) (z1l (s := (.v (.pair (.int .i64) (.pair (.int .i64) (.pair (.int .i64) (.pair (.int .i64) .unit)))))) (m := 2))

def zal : Code := (Go.Proofs.Try.f23.body).getD .skip

def z7a : List (List Nat × List Nat) := [([0], [0, 3, 4]), ([0, 1], [6, 4, 0]), ([0, 0, 1, 1], [15, 4, 0, 6]), ([1, 0, 1, 1], [0, 6, 4]), ([0, 0, 1, 0, 1, 1], [4, 5, 0]), ([1, 0, 1, 0, 1, 1], [4, 5, 0]), ([0, 1, 1, 1], [4, 5, 0]), ([1, 1, 1, 1], [4, 5, 0])]

def z4g (N : Nat) : Env := z4q tys zk [(31, zc6 N), (19, z8w N)] [] [] [0] false [(13, .unit)] []

theorem zbq (N : Nat) : EnvOk Go.Proofs.Try.prog (z4g N) := zw mixed z29 (FnsOk.cons (zkz N) (FnsOk.cons (zf2 N) (FnsOk.nil))) (ItsOk.nil)

def z1k (N : Nat) (r_ : ((List ((List UInt8) × (Int × (Int × Unit)))) × (Int × (Go.Value × Unit)))) (o : ((List UInt8) × ((List UInt8) × Unit))) : Option (((Int × (Int × (Int × (Int × Unit)))) × Bool × Unit) × (((List ((List UInt8) × (Int × (Int × Unit)))) × (Int × (Go.Value × Unit))) × Unit)) :=
 (z68 N r_.1 o.2.1).bind fun y =>
 cond (decide (y < (0 : Int)))
 (some ((((0 : Int), ((0 : Int), ((0 : Int), ((0 : Int), ())))), (false, ())), (r_, ())))
 (cond (Go.Lift.inR y (List.length r_.1))
 (cond (decide ((Int.toNat y) < (List.length r_.1)))
 (some ((((List.getD r_.1 (Int.toNat y) (([] : List UInt8), ((0 : Int), ((0 : Int), ())))).2.1, ((List.getD r_.1 (Int.toNat y) (([] : List UInt8), ((0 : Int), ((0 : Int), ())))).2.2.1, ((0 : Int), (r_.2.1, ())))), (true, ())), (r_, ())))
 (none))
 (none))

def z79 (N : Nat) : Tab (((Int × (Int × (Int × (Int × Unit)))) × Bool × Unit) × (((List ((List UInt8) × (Int × (Int × Unit)))) × (Int × (Go.Value × Unit))) × Unit)) := []

theorem zak (N : Nat) (x : z2a [(0, .box (.pair (.own (.pair .str (.pair (.int .i64) (.pair (.int .i64) .unit)))) (.pair (.int .i64) (.pair .opq .unit)))), (0, .v (.pair .str (.pair .str .unit)))]) : zbl (z4g N) N (z79 N) z7a Go.Proofs.Try.f23 (mkS [(0, .box (.pair (.own (.pair .str (.pair (.int .i64) (.pair (.int .i64) .unit)))) (.pair (.int .i64) (.pair .opq .unit)))), (0, .v (.pair .str (.pair .str .unit)))] 0 x) (zm6 (.tup [(.pair (.int .i64) (.pair (.int .i64) (.pair (.int .i64) (.pair (.int .i64) .unit)))), .bool]) [(0, .box (.pair (.own (.pair .str (.pair (.int .i64) (.pair (.int .i64) .unit)))) (.pair (.int .i64) (.pair .opq .unit))))] 1) = z1k N x.1 x.2.1 := by kernel_rfl

def z3d (N : Nat) : List A -> Res := z1u [(0, .box (.pair (.own (.pair .str (.pair (.int .i64) (.pair (.int .i64) .unit)))) (.pair (.int .i64) (.pair .opq .unit)))), (0, .v (.pair .str (.pair .str .unit)))] (fun x => z1k N x.1 x.2.1) (zpx (.tup [(.pair (.int .i64) (.pair (.int .i64) (.pair (.int .i64) (.pair (.int .i64) .unit)))), .bool]) [(0, .box (.pair (.own (.pair .str (.pair (.int .i64) (.pair (.int .i64) .unit)))) (.pair (.int .i64) (.pair .opq .unit))))] 1)

theorem z42 (N : Nat) : Contract Go.Proofs.Try.prog zk 23 (z3d N) :=
  Contract.of (E := z4g N) (H := z79 N) (L := z7a) (N := N) (body := zal) (K := (zm6 (.tup [(.pair (.int .i64) (.pair (.int .i64) (.pair (.int .i64) (.pair (.int .i64) .unit)))), .bool]) [(0, .box (.pair (.own (.pair .str (.pair (.int .i64) (.pair (.int .i64) .unit)))) (.pair (.int .i64) (.pair .opq .unit))))] 1)) (zbq N) Go.Proofs.Try.func23 (by kernel_rfl) (by decide) (fun _ hb => TabOk.nil) (fun x y h => by rw [zak]; exact h) (zko (s := (.tup [(.pair (.int .i64) (.pair (.int .i64) (.pair (.int .i64) (.pair (.int .i64) .unit)))), .bool])) (os := [(0, .box (.pair (.own (.pair .str (.pair (.int .i64) (.pair (.int .i64) .unit)))) (.pair (.int .i64) (.pair .opq .unit))))]) (m := 1))

def zhe : Code := (Go.Proofs.Try.f35.body).getD .skip

def zf6 : List (List Nat × List Nat) := [([0], [0]), ([0, 1], [2]), ([1, 1], [2])]

def zas (N : Nat) : Env := z4q tys zk [] [] [] [] false [] []

theorem zif (N : Nat) : EnvOk Go.Proofs.Try.prog (zas N) := zw mixed z29 (FnsOk.nil) (ItsOk.nil)

def zbi (N : Nat) (c : Int) : Option Bool :=
 cond (decide ((48 : Int) <= c))
 (some (decide (c <= (57 : Int))))
 (some false)

def zf5 (N : Nat) : Tab Bool := []

theorem zhd (N : Nat) (x : z2a [(0, .v (.int .i32))]) : zbl (zas N) N (zf5 N) zf6 Go.Proofs.Try.f35 (mkS [(0, .v (.int .i32))] 0 x) (z5m (.v .bool) 1) = zbi N x.1 := by kernel_rfl

def zbz (N : Nat) : List A -> Res := z1u [(0, .v (.int .i32))] (fun x => zbi N x.1) (za8 (.v .bool) 1)

theorem zkh (N : Nat) : Contract Go.Proofs.Try.prog zk 35 (zbz N) :=
  Contract.of (E := zas N) (H := zf5 N) (L := zf6) (N := N) (body := zhe) (K := (z5m (.v .bool) 1)) (zif N) Go.Proofs.Try.func35 (by kernel_rfl) (by decide) (fun _ hb => TabOk.nil) (fun x y h => by rw [zhd]; exact h) (z1l (s := (.v .bool)) (m := 1))

def z4m : Code := (Go.Proofs.Try.f28.body).getD .skip

def z6l : List (List Nat × List Nat) := [([0], [0, 1]), ([0, 1], [5, 0, 1]), ([0, 1, 1], [4]), ([1, 1, 1], [4])]

def z4n (N : Nat) : Env := z4q tys zk [(35, zbz N)] [] [] [] false [] []

theorem zed (N : Nat) : EnvOk Go.Proofs.Try.prog (z4n N) := zw mixed z29 (FnsOk.cons (zkh N) (FnsOk.nil)) (ItsOk.nil)

def z5q (N : Nat) (c : Int) (first : Bool) (k0 : Bool -> Option Bool) : Option Bool :=
 cond (decide ((97 : Int) <= c))
 (k0 (decide (c <= (122 : Int))))
 (k0 false)

def z9s (N : Nat) (x : z2a [(0, .v (.int .i32)), (0, .v .bool)]) (K : Ex -> List A -> Option Bool) : Option Bool :=
 z5q N x.1 x.2.1 (fun a2 => (K .normal (mkS [(0, .v (.int .i32)), (0, .v .bool), (3, .v .bool)] 19 (x.1, x.2.1, a2, ()))))

def z9r (N : Nat) : Hd Bool := fun st K => (unS [(0, .v (.int .i32)), (0, .v .bool)] 23 (restr [0, 1] 0 st)).bind fun x => z9s N x K

def zfv (N : Nat) : Tab Bool := []

theorem zec {N : Nat} {c : Ctx} (hb : Base Go.Proofs.Try.prog (z4n N) c) : z16 Go.Proofs.Try.prog c (zl z4m [0, 1]) (z9r N) :=
  z1a (s := [(0, .v (.int .i32)), (0, .v .bool)]) (m := 23) (g := z9s N) [0, 1] (zp hb N (zfv N) z6l z4m TabOk.nil [0, 1] _ rfl) (fun x K => by kernel_rfl)

def z4o (N : Nat) (c : Int) (first : Bool) : Option Bool :=
 z5q N c first
 (fun letter => cond letter
 (some true)
 ((zbi N c).bind fun y =>
 cond y
 (some (!first))
 (cond (c == (45 : Int))
 (some (!first))
 (some false))))

def zar (N : Nat) : Tab Bool := [([0, 1], z9r N)]

theorem zdb (N : Nat) (x : z2a [(0, .v (.int .i32)), (0, .v .bool)]) : zbl (z4n N) N (zar N) z6l Go.Proofs.Try.f28 (mkS [(0, .v (.int .i32)), (0, .v .bool)] 0 x) (z5m (.v .bool) 2) = z4o N x.1 x.2.1 := by kernel_rfl

def z52 (N : Nat) : List A -> Res := z1u [(0, .v (.int .i32)), (0, .v .bool)] (fun x => z4o N x.1 x.2.1) (za8 (.v .bool) 2)

theorem z9t (N : Nat) : Contract Go.Proofs.Try.prog zk 28 (z52 N) :=
  Contract.of (E := z4n N) (H := zar N) (L := z6l) (N := N) (body := z4m) (K := (z5m (.v .bool) 2)) (zed N) Go.Proofs.Try.func28 (by kernel_rfl) (by decide) (fun _ hb => (TabOk.cons (zec hb) TabOk.nil)) (fun x y h => by rw [zdb]; exact h) (z1l (s := (.v .bool)) (m := 2))

def z1b : Code := (Go.Proofs.Try.f27.body).getD .skip

def z35 : List (List Nat × List Nat) := [([0], [0, 1]), ([0, 0, 1], [13, 0, 1]), ([1, 0, 1], [0, 1]), ([0, 0, 1, 0, 1], [4]), ([1, 0, 1, 0, 1], [4]), ([0, 0, 1, 1], [15, 1]), ([0, 1, 0, 1, 1], [15, 1]), ([0, 0, 0, 1, 0, 1, 1], [17, 16, 1, 15]), ([0, 1, 0, 0, 1, 0, 1, 1], [16, 1, 15]), ([1, 0, 1, 0, 0, 1, 0, 1, 1], []), ([0, 0, 1, 1, 0, 0, 1, 0, 1, 1], [1, 6, 5, 15]), ([0, 1, 0, 1, 1, 0, 0, 1, 0, 1, 1], [25, 15, 1]), ([1, 1, 0, 1, 1, 0, 0, 1, 0, 1, 1], [15, 1]), ([0, 0, 1, 1, 0, 1, 1, 0, 0, 1, 0, 1, 1], [4]), ([1, 0, 1, 1, 0, 1, 1, 0, 0, 1, 0, 1, 1], [4]), ([1, 1, 0, 0, 1, 0, 1, 1], [15, 1]), ([1, 0, 1, 1], []), ([0, 1, 1, 1], [4]), ([1, 1, 1, 1], [4])]

def z2c (N : Nat) : Env := z4q tys zk [(28, z52 N)] [] [] [] false [] []

theorem zeh (N : Nat) : EnvOk Go.Proofs.Try.prog (z2c N) := zw mixed z29 (FnsOk.cons (z9t N) (FnsOk.nil)) (ItsOk.nil)

def z5s (N : Nat) (s : (List UInt8)) (k0 : Bool -> Option Bool) : Option Bool :=
 cond (s == ([] : List UInt8))
 (k0 true)
 (k0 (decide ((32 : Int) < (((List.length s) : Nat) : Int))))

def z9z (N : Nat) (x : z2a [(0, .v .str), (0, .fnc 28)]) (K : Ex -> List A -> Option Bool) : Option Bool :=
 z5s N x.1 (fun a1 => (K .normal (mkS [(0, .v .str), (0, .fnc 28), (11, .v .bool)] 12 (x.1, (), a1, ()))))

def z9w (N : Nat) : Hd Bool := fun st K => (unS [(0, .v .str), (0, .fnc 28)] 24 (restr [0, 1] 0 st)).bind fun x => z9z N x K

def zfx (N : Nat) : Tab Bool := []

theorem zef {N : Nat} {c : Ctx} (hb : Base Go.Proofs.Try.prog (z2c N) c) : z16 Go.Proofs.Try.prog c (zl z1b [0, 0, 1]) (z9w N) :=
  z1a (s := [(0, .v .str), (0, .fnc 28)]) (m := 24) (g := z9z N) [0, 1] (zp hb N (zfx N) z35 z1b TabOk.nil [0, 0, 1] _ rfl) (fun x K => by kernel_rfl)

def z5t (N : Nat) (s : (List UInt8)) (k0 : Bool -> Option Bool) (k1 : Option Bool) : Option Bool :=
 z5s N s
 (fun x13 => cond x13
 (k0 false)
 (k1))

def za0 (N : Nat) (x : z2a [(0, .v .str), (0, .fnc 28)]) (K : Ex -> List A -> Option Bool) : Option Bool :=
 z5t N x.1 (fun a0 => (K .ret (mkS [(4, .v .bool)] 21 (a0, ())))) (K .normal (mkS [(0, .v .str), (0, .fnc 28)] 24 (x.1, (), ())))

def z9x (N : Nat) : Hd Bool := fun st K => (unS [(0, .v .str), (0, .fnc 28)] 24 (restr [0, 1] 0 st)).bind fun x => za0 N x K

def zfy (N : Nat) : Tab Bool := [([0, 0, 1], z9w N)]

theorem zeg {N : Nat} {c : Ctx} (hb : Base Go.Proofs.Try.prog (z2c N) c) : z16 Go.Proofs.Try.prog c (zl z1b [0, 1]) (z9x N) :=
  z1a (s := [(0, .v .str), (0, .fnc 28)]) (m := 24) (g := za0 N) [0, 1] (zp hb N (zfy N) z35 z1b (TabOk.cons (zef hb) TabOk.nil) [0, 1] _ rfl) (fun x K => by kernel_rfl)

def z5r (N : Nat) (x15 : (List UInt8 × Nat)) (rec : (List UInt8 × Nat) -> Option Bool) (k0 : Bool -> Option Bool) (k1 : Option Bool) : Option Bool :=
 cond (decide (x15.2 < (List.length x15.1)))
 ((z4o N (((Go.Lift.runeAt x15.1 x15.2).1 : Nat) : Int) (((x15.2 : Nat) : Int) == (0 : Int))).bind fun y =>
 cond (!y)
 (k0 false)
 (rec (x15.1, (x15.2 + (Go.Lift.runeAt x15.1 x15.2).2))))
 (k1)

def z9u (N : Nat) (x15 : (List UInt8 × Nat)) (k0 : Bool -> Option Bool) (k1 : Option Bool) : Option Bool :=
 iter (fun (v : (List UInt8 × Nat)) r => z5r N v (fun x15 => (r x15)) k0 k1) N x15

def z9y (N : Nat) (i : Unit) (v : (List UInt8 × Nat)) (r : (List UInt8 × Nat) -> Option Bool) (K : Ex -> List A -> Option Bool) : Option Bool :=
 z5r N v (fun x15 => (r x15)) (fun a0 => (K .ret (mkS [(4, .v .bool)] 21 (a0, ())))) (K (.exit 0) (mkS [] 26 ()))

def z9v (N : Nat) : Hd Bool := fun st K => (unS [(1, .fnc 28), (13, .iter)] 10 (restr [15, 1] 0 st)).bind fun x => iter (fun v r => z9y N ((fun x => ()) x) v r K) N ((fun x => x.2.1) x)

def zfw (N : Nat) : Tab Bool := []

theorem zee {N : Nat} {c : Ctx} (hb : Base Go.Proofs.Try.prog (z2c N) c) : z16 Go.Proofs.Try.prog c (zl z1b [0, 1, 0, 1, 1]) (z9v N) :=
  zkm (s := [(1, .fnc 28), (13, .iter)]) (m := 10) (z9y N) [15, 1] N (fun x => ()) (fun x => x.2.1) (fun i v => ((), v, ())) (fun _ => rfl) (zp hb N (zfw N) z35 z1b TabOk.nil [0, 0, 1, 0, 1, 1] _ rfl) (fun i v r K => by kernel_rfl)

def z4p (N : Nat) (s : (List UInt8)) : Option Bool :=
 z5t N s
 (fun x4 => some x4)
 (z9u N (s, 0)
 (fun x41 => some x41)
 (some true))

def zat (N : Nat) : Tab Bool := [([0, 1], z9x N), ([0, 1, 0, 1, 1], z9v N)]

theorem zdc (N : Nat) (x : z2a [(0, .v .str), (0, .fnc 28)]) : zbl (z2c N) N (zat N) z35 Go.Proofs.Try.f27 (mkS [(0, .v .str), (0, .fnc 28)] 0 x) (z5m (.v .bool) 2) = z4p N x.1 := by kernel_rfl

def z8f (N : Nat) : List A -> Res := z1u [(0, .v .str), (0, .fnc 28)] (fun x => z4p N x.1) (za8 (.v .bool) 2)

theorem zfz (N : Nat) : Contract Go.Proofs.Try.prog zk 27 (z8f N) :=
  Contract.of (E := z2c N) (H := zat N) (L := z35) (N := N) (body := z1b) (K := (z5m (.v .bool) 2)) (zeh N) Go.Proofs.Try.func27 (by kernel_rfl) (by decide) (fun _ hb => (TabOk.cons (zeg hb) (TabOk.cons (zee hb) TabOk.nil))) (fun x y h => by rw [zdc]; exact h) (z1l (s := (.v .bool)) (m := 2))

def zih : Code := (Go.Proofs.Try.f18.body).getD .skip

def zhg : List (List Nat × List Nat) := [([0], [0]), ([0, 1], [2]), ([1, 1], [2])]

def zcf (N : Nat) : Env := z4q tys zk [(27, z8f N), (28, z52 N)] [] [] [] false [] []

theorem zki (N : Nat) : EnvOk Go.Proofs.Try.prog (zcf N) := zw mixed z29 (FnsOk.cons (zfz N) (FnsOk.cons (z9t N) (FnsOk.nil))) (ItsOk.nil)

def zau (N : Nat) (s : (List UInt8)) : Option Bool :=
 (z4p N s).bind fun y =>
 some y

def zhf (N : Nat) : Tab Bool := []

theorem zig (N : Nat) (x : z2a [(0, .v .str)]) : zbl (zcf N) N (zhf N) zhg Go.Proofs.Try.f18 (mkS [(0, .v .str)] 0 x) (z5m (.v .bool) 1) = zau N x.1 := by kernel_rfl

def zdd (N : Nat) : List A -> Res := z1u [(0, .v .str)] (fun x => zau N x.1) (za8 (.v .bool) 1)

theorem zm1 (N : Nat) : Contract Go.Proofs.Try.prog zk 18 (zdd N) :=
  Contract.of (E := zcf N) (H := zhf N) (L := zhg) (N := N) (body := zih) (K := (z5m (.v .bool) 1)) (zki N) Go.Proofs.Try.func18 (by kernel_rfl) (by decide) (fun _ hb => TabOk.nil) (fun x y h => by rw [zig]; exact h) (z1l (s := (.v .bool)) (m := 1))

def z34 : Code := (Go.Proofs.Try.f8.body).getD .skip

def z7c : List (List Nat × List Nat) := [([0], [0]), ([0, 0, 1], [7, 0]), ([1, 0, 1], [0]), ([0, 0, 1, 0, 1], [2]), ([1, 0, 1, 0, 1], [2]), ([0, 0, 1, 1], [10, 9, 8, 0]), ([0, 1, 0, 1, 1], [10, 9, 8, 0]), ([0, 0, 0, 1, 0, 1, 1], [11, 10, 8, 0, 9]), ([0, 1, 0, 0, 1, 0, 1, 1], [10, 8, 0, 9]), ([1, 0, 1, 0, 0, 1, 0, 1, 1], []), ([0, 0, 0, 1, 1, 0, 0, 1, 0, 1, 1], [4, 0, 3, 10, 9, 8]), ([0, 0, 1, 0, 0, 1, 1, 0, 0, 1, 0, 1, 1], [15, 4, 0, 3, 10, 9, 8]), ([1, 0, 1, 0, 0, 1, 1, 0, 0, 1, 0, 1, 1], [10, 9, 8, 0]), ([0, 1, 1, 0, 1, 0, 0, 1, 1, 0, 0, 1, 0, 1, 1], [20, 0, 3, 4, 10, 9, 8]), ([1, 1, 1, 0, 1, 0, 0, 1, 1, 0, 0, 1, 0, 1, 1], [10, 9, 8, 0]), ([0, 1, 1, 1, 1, 0, 1, 0, 0, 1, 1, 0, 0, 1, 0, 1, 1], [31, 10, 9, 8, 0]), ([1, 1, 1, 1, 1, 0, 1, 0, 0, 1, 1, 0, 0, 1, 0, 1, 1], [10, 9, 8, 0]), ([0, 0, 1, 1, 1, 1, 1, 0, 1, 0, 0, 1, 1, 0, 0, 1, 0, 1, 1], [2]), ([1, 0, 1, 1, 1, 1, 1, 0, 1, 0, 0, 1, 1, 0, 0, 1, 0, 1, 1], [2]), ([0, 0, 1, 1, 1, 0, 1, 0, 0, 1, 1, 0, 0, 1, 0, 1, 1], [2]), ([1, 0, 1, 1, 1, 0, 1, 0, 0, 1, 1, 0, 0, 1, 0, 1, 1], [2]), ([0, 0, 1, 0, 1, 0, 0, 1, 1, 0, 0, 1, 0, 1, 1], [2]), ([1, 0, 1, 0, 1, 0, 0, 1, 1, 0, 0, 1, 0, 1, 1], [2]), ([1, 0, 0, 1, 1, 0, 0, 1, 0, 1, 1], [10, 9, 8, 0]), ([0, 1, 1, 0, 0, 1, 0, 1, 1], [10, 9, 8, 0]), ([1, 1, 1, 0, 0, 1, 0, 1, 1], [10, 9, 8, 0]), ([1, 0, 1, 1], []), ([0, 1, 1, 1], [2]), ([1, 1, 1, 1], [2])]

def z5i (N : Nat) : Env := z4q tys zk [(18, zdd N), (19, z8w N), (16, z2y N)] [] [] [] false [] []

theorem zid (N : Nat) : EnvOk Go.Proofs.Try.prog (z5i N) := zw mixed z29 (FnsOk.cons (zm1 N) (FnsOk.cons (zf2 N) (FnsOk.cons (z56 N) (FnsOk.nil)))) (ItsOk.nil)

def z97 (N : Nat) (l : (List ((List UInt8) × (Int × (Int × Unit))))) (i : Int) (c : ((List UInt8) × (Int × (Int × Unit)))) (x8 : (List ((List UInt8) × (Int × (Int × Unit))))) (x9 : Int) (x10 : Int) (k0 : Bool -> Option Int) : Option Int :=
 (z2z N c.2.1).bind fun y =>
 cond (!y)
 (k0 true)
 ((z2z N c.2.2.1).bind fun y1 =>
 k0 (!y1))

def zd5 (N : Nat) (x : z2a [(0, .v (.sl (.pair .str (.pair (.int .i64) (.pair (.int .i64) .unit))))), (2, .v (.int .i64)), (0, .box (.pair .str (.pair (.int .i64) (.pair (.int .i64) .unit)))), (3, .v (.sl (.pair .str (.pair (.int .i64) (.pair (.int .i64) .unit))))), (0, .v (.int .i64)), (0, .v (.int .i64))]) (K : Ex -> List A -> Option Int) : Option Int :=
 z97 N x.1 x.2.1 x.2.2.1 x.2.2.2.1 x.2.2.2.2.1 x.2.2.2.2.2.1 (fun a6 => (K .normal (mkS [(0, .v (.sl (.pair .str (.pair (.int .i64) (.pair (.int .i64) .unit))))), (2, .v (.int .i64)), (0, .box (.pair .str (.pair (.int .i64) (.pair (.int .i64) .unit)))), (3, .v (.sl (.pair .str (.pair (.int .i64) (.pair (.int .i64) .unit))))), (0, .v (.int .i64)), (0, .v (.int .i64)), (9, .v .bool)] 19 (x.1, x.2.1, x.2.2.1, x.2.2.2.1, x.2.2.2.2.1, x.2.2.2.2.2.1, a6, ()))))

def zd3 (N : Nat) : Hd Int := fun st K => (unS [(0, .v (.sl (.pair .str (.pair (.int .i64) (.pair (.int .i64) .unit))))), (2, .v (.int .i64)), (0, .box (.pair .str (.pair (.int .i64) (.pair (.int .i64) .unit)))), (3, .v (.sl (.pair .str (.pair (.int .i64) (.pair (.int .i64) .unit))))), (0, .v (.int .i64)), (0, .v (.int .i64))] 29 (restr [4, 0, 3, 10, 9, 8] 0 st)).bind fun x => zd5 N x K

def zka (N : Nat) : Tab Int := []

theorem zib {N : Nat} {c : Ctx} (hb : Base Go.Proofs.Try.prog (z5i N) c) : z16 Go.Proofs.Try.prog c (zl z34 [0, 1, 1, 0, 1, 0, 0, 1, 1, 0, 0, 1, 0, 1, 1]) (zd3 N) :=
  z1a (s := [(0, .v (.sl (.pair .str (.pair (.int .i64) (.pair (.int .i64) .unit))))), (2, .v (.int .i64)), (0, .box (.pair .str (.pair (.int .i64) (.pair (.int .i64) .unit)))), (3, .v (.sl (.pair .str (.pair (.int .i64) (.pair (.int .i64) .unit))))), (0, .v (.int .i64)), (0, .v (.int .i64))]) (m := 29) (g := zd5 N) [4, 0, 3, 10, 9, 8] (zp hb N (zka N) z7c z34 TabOk.nil [0, 1, 1, 0, 1, 0, 0, 1, 1, 0, 0, 1, 0, 1, 1] _ rfl) (fun x K => by kernel_rfl)

def z96 (N : Nat) (l : (List ((List UInt8) × (Int × (Int × Unit))))) (x8 : (List ((List UInt8) × (Int × (Int × Unit))))) (x9 : Int) (x10 : Int) (rec : Int -> Option Int) (k0 : Int -> Option Int) (k1 : Option Int) : Option Int :=
 cond (decide (x10 < x9))
 (cond (Go.Lift.inR x10 (List.length x8))
 ((zau N (List.getD x8 (Int.toNat x10) (([] : List UInt8), ((0 : Int), ((0 : Int), ())))).1).bind fun y =>
 cond (!y)
 (k0 (4 : Int))
 (z97 N l x10 (List.getD x8 (Int.toNat x10) (([] : List UInt8), ((0 : Int), ((0 : Int), ())))) x8 x9 x10
 (fun x20 => cond x20
 (k0 (7 : Int))
 (cond (decide (((0 : Int) <= x10) /\ (x10 <= (((List.length l) : Nat) : Int))))
 ((z68 N (Go.Lift.cut l 0 (Int.toNat x10)) (List.getD x8 (Int.toNat x10) (([] : List UInt8), ((0 : Int), ((0 : Int), ())))).1).bind fun y1 =>
 cond (decide ((0 : Int) <= y1))
 (k0 (5 : Int))
 (rec (Go.IntKind.wrap Go.IntKind.i64 (x10 + (1 : Int)))))
 (none)))))
 (none))
 (k1)

def zd2 (N : Nat) (l : (List ((List UInt8) × (Int × (Int × Unit))))) (x8 : (List ((List UInt8) × (Int × (Int × Unit))))) (x9 : Int) (x10 : Int) (k0 : Int -> Option Int) (k1 : Option Int) : Option Int :=
 iter (fun (v : Int) r => z96 N l x8 x9 v (fun x10 => (r x10)) k0 k1) N x10

def zd6 (N : Nat) (i : ((List ((List UInt8) × (Int × (Int × Unit)))) × (List ((List UInt8) × (Int × (Int × Unit)))) × Int)) (v : Int) (r : Int -> Option Int) (K : Ex -> List A -> Option Int) : Option Int :=
 z96 N i.1 i.2.1 i.2.2 v (fun x10 => (r x10)) (fun a0 => (K .ret (mkS [(2, .v (.int .i64))] 37 (a0, ())))) (K (.exit 0) (mkS [] 40 ()))

def zd4 (N : Nat) : Hd Int := fun st K => (unS [(0, .v (.sl (.pair .str (.pair (.int .i64) (.pair (.int .i64) .unit))))), (7, .v (.sl (.pair .str (.pair (.int .i64) (.pair (.int .i64) .unit))))), (0, .v (.int .i64)), (0, .v (.int .i64))] 29 (restr [10, 9, 8, 0] 0 st)).bind fun x => iter (fun v r => zd6 N ((fun x => (x.1, x.2.1, x.2.2.1)) x) v r K) N ((fun x => x.2.2.2.1) x)

def zkb (N : Nat) : Tab Int := [([0, 1, 1, 0, 1, 0, 0, 1, 1, 0, 0, 1, 0, 1, 1], zd3 N)]

theorem zic {N : Nat} {c : Ctx} (hb : Base Go.Proofs.Try.prog (z5i N) c) : z16 Go.Proofs.Try.prog c (zl z34 [0, 1, 0, 1, 1]) (zd4 N) :=
  zkm (s := [(0, .v (.sl (.pair .str (.pair (.int .i64) (.pair (.int .i64) .unit))))), (7, .v (.sl (.pair .str (.pair (.int .i64) (.pair (.int .i64) .unit))))), (0, .v (.int .i64)), (0, .v (.int .i64))]) (m := 29) (zd6 N) [10, 9, 8, 0] N (fun x => (x.1, x.2.1, x.2.2.1)) (fun x => x.2.2.2.1) (fun i v => (i.1, i.2.1, i.2.2, v, ())) (fun _ => rfl) (zp hb N (zkb N) z7c z34 (TabOk.cons (zib hb) TabOk.nil) [0, 0, 1, 0, 1, 1] _ rfl) (fun i v r K => by kernel_rfl)

def z8d (N : Nat) (l : (List ((List UInt8) × (Int × (Int × Unit))))) : Option Int :=
 cond (decide ((8 : Int) < (((List.length l) : Nat) : Int)))
 (some (3 : Int))
 (zd2 N l l (((List.length l) : Nat) : Int) (0 : Int)
 (fun x2 => some x2)
 (some (0 : Int)))

def zf3 (N : Nat) : Tab Int := [([0, 1, 0, 1, 1], zd4 N)]

theorem zh2 (N : Nat) (x : z2a [(0, .v (.sl (.pair .str (.pair (.int .i64) (.pair (.int .i64) .unit)))))]) : zbl (z5i N) N (zf3 N) z7c Go.Proofs.Try.f8 (mkS [(0, .v (.sl (.pair .str (.pair (.int .i64) (.pair (.int .i64) .unit)))))] 0 x) (z5m (.v (.int .i64)) 1) = z8d N x.1 := by kernel_rfl

def zbx (N : Nat) : List A -> Res := z1u [(0, .v (.sl (.pair .str (.pair (.int .i64) (.pair (.int .i64) .unit)))))] (fun x => z8d N x.1) (za8 (.v (.int .i64)) 1)

theorem zkc (N : Nat) : Contract Go.Proofs.Try.prog zk 8 (zbx N) :=
  Contract.of (E := z5i N) (H := zf3 N) (L := z7c) (N := N) (body := z34) (K := (z5m (.v (.int .i64)) 1)) (zid N) Go.Proofs.Try.func8 (by kernel_rfl) (by decide) (fun _ hb => (TabOk.cons (zic hb) TabOk.nil)) (fun x y h => by rw [zh2]; exact h) (z1l (s := (.v (.int .i64))) (m := 1))

def Calm (w : World) (S : Hp) (w' : World) : Prop := ∃ S', WF w (fun _ => False) w' /\ Lift.Sub S S' /\ Lift.Sub S' (hp w') /\ ∀ k, S' k ≠ none -> S k ≠ none \/ w.heap.size <= k

theorem Calm.refl {w : World} {S : Hp} (h : Lift.Sub S (hp w)) : Calm w S w := ⟨S, WF.refl _ _, Lift.Sub.refl S, h, fun _ h => .inl h⟩

theorem Calm.cell {w w' : World} {S : Hp} {p : Addr} {v : Value} (h : Calm w S w') (hc : w.cell? p = some v) : w'.cell? p = some v := by
  obtain ⟨S', h1, _⟩ := h
  have hlt : p.block < w.heap.size := by
    cases hh : w.heap[p.block]? with
    | none => simp [World.cell?, hh] at hc
    | some o => exact (Array.getElem?_eq_some_iff.1 hh).1
  have := h1.same p.block hlt (fun h => h)
  simp only [World.cell?] at hc ⊢
  rw [this]
  exact hc

abbrev ClassT : T := .pair .str (.pair (.int .i64) (.pair (.int .i64) .unit))

def zx7 : Go.Shelf.Ren := ⟨fun | 41 => 17 | n => n, fun | 4 => 4 | 22 => 22 | 23 => 43 | n => n, fun n => n⟩

theorem zwl : Go.Proofs.SlLaysE0.n41 Try.prog zx7 where
  mixed := by kernel_rfl
  f41 := ⟨"slices.Clone[[]porter/api.Class,porter/api.Class]", by decide, Try.func17.trans (congrArg some (by kernel_rfl))⟩
  t4 := Try.underlying4
  a4 := Try.isAgg4
  z4 := Try.sizeOf4
  v4 := Try.zeroValue4
  t22 := Try.underlying22
  a22 := Try.isAgg22
  z22 := Try.sizeOf22
  v22 := Try.zeroValue22

def zck (N : Nat) (l : List ClassT.den) : Option (List ClassT.den) := cond (decide (l.length * 32 <= 140737488355328)) (some l) none

def zaz (N : Nat) : List A -> Res := z1u [(0, .v (.sl ClassT))] (fun x => zck N x.1) (za8 (.row ClassT) 1)

theorem zis (N : Nat) : Contract Try.prog zk 17 (zaz N) :=
  zug zwl (ee := ty43) zqy (by decide) (by decide) zk

def zk9 : Code := (Go.Proofs.Try.f7.body).getD .skip

def zjf : List (List Nat × List Nat) := [([0], [0, 1]), ([0, 0, 1], [6, 1, 0]), ([0, 1, 0, 1], [10, 6, 1, 0]), ([1, 1, 0, 1], [1, 0]), ([0, 0, 1, 1, 0, 1], [4, 5]), ([1, 0, 1, 1, 0, 1], [4, 5]), ([0, 0, 1, 1], [14, 0, 1]), ([1, 0, 1, 1], [0, 1]), ([0, 0, 1, 0, 1, 1], [4, 5]), ([1, 0, 1, 0, 1, 1], [4, 5]), ([0, 1, 1, 1], [4, 5]), ([1, 1, 1, 1], [4, 5])]

def ze7 (N : Nat) : Env := z4q tys zk [(17, zaz N), (8, zbx N), (16, z2y N)] [] [] [] false [(4, (.pair (.own (.pair .str (.pair (.int .i64) (.pair (.int .i64) .unit)))) (.pair (.int .i64) (.pair (.mp (.pair .str (.pair .str .unit)) (.pair (.int .i64) (.pair (.int .i64) (.pair (.int .i64) (.pair (.int .i64) .unit))))) .unit)))), (19, (.pair (.own (.pair .str (.pair (.int .i64) (.pair (.int .i64) .unit)))) (.pair (.int .i64) (.pair (.mp (.pair .str (.pair .str .unit)) (.pair (.int .i64) (.pair (.int .i64) (.pair (.int .i64) (.pair (.int .i64) .unit))))) .unit)))), (20, (.pair (.own (.pair .str (.pair (.int .i64) (.pair (.int .i64) .unit)))) (.pair (.int .i64) (.pair (.mp (.pair .str (.pair .str .unit)) (.pair (.int .i64) (.pair (.int .i64) (.pair (.int .i64) (.pair (.int .i64) .unit))))) .unit))))] [] [(.nb (.pair (.own (.pair .str (.pair (.int .i64) (.pair (.int .i64) .unit)))) (.pair (.int .i64) (.pair (.mp (.pair .str (.pair .str .unit)) (.pair (.int .i64) (.pair (.int .i64) (.pair (.int .i64) (.pair (.int .i64) .unit))))) .unit)))), (.int .i64)]

theorem zao (N : Nat) : EnvOk Go.Proofs.Try.prog (ze7 N) := zw mixed z29 (FnsOk.cons (zis N) (FnsOk.cons (zkc N) (FnsOk.cons (z56 N) (FnsOk.nil)))) (ItsOk.nil)

def zbg (N : Nat) (l : (List ((List UInt8) × (Int × (Int × Unit))))) (now : Int) : Option ((Option ((List ((List UInt8) × (Int × (Int × Unit)))) × (Int × ((Option (List (((List UInt8) × ((List UInt8) × Unit)) × (Int × (Int × (Int × (Int × Unit))))))) × Unit)))) × Int × Unit) :=
 (z8d N l).bind fun y =>
 cond (y != (0 : Int))
 (some ((Option.none), (y, ())))
 ((z2z N now).bind fun y1 =>
 cond (!y1)
 (some ((Option.none), ((7 : Int), ())))
 ((zck N l).bind fun y2 =>
 some ((Option.some (y2, (now, ((Option.some ([] : List (((List UInt8) × ((List UInt8) × Unit)) × (Int × (Int × (Int × (Int × Unit))))))), ())))), ((0 : Int), ()))))

def zje (N : Nat) : Tab ((Option ((List ((List UInt8) × (Int × (Int × Unit)))) × (Int × ((Option (List (((List UInt8) × ((List UInt8) × Unit)) × (Int × (Int × (Int × (Int × Unit))))))) × Unit)))) × Int × Unit) := []

theorem zk8 (N : Nat) (x : z2a [(0, .v (.sl (.pair .str (.pair (.int .i64) (.pair (.int .i64) .unit))))), (0, .v (.int .i64))]) : zbl (ze7 N) N (zje N) zjf Go.Proofs.Try.f7 (mkS [(0, .v (.sl (.pair .str (.pair (.int .i64) (.pair (.int .i64) .unit))))), (0, .v (.int .i64))] 0 x) (z5m (.otup [(.nb (.pair (.own (.pair .str (.pair (.int .i64) (.pair (.int .i64) .unit)))) (.pair (.int .i64) (.pair (.mp (.pair .str (.pair .str .unit)) (.pair (.int .i64) (.pair (.int .i64) (.pair (.int .i64) (.pair (.int .i64) .unit))))) .unit)))), (.int .i64)]) 2) = zbg N x.1 x.2.1 := by kernel_rfl

def zan (N : Nat) : List A -> Res := z1u [(0, .v (.sl (.pair .str (.pair (.int .i64) (.pair (.int .i64) .unit))))), (0, .v (.int .i64))] (fun x => zbg N x.1 x.2.1) (za8 (.otup [(.nb (.pair (.own (.pair .str (.pair (.int .i64) (.pair (.int .i64) .unit)))) (.pair (.int .i64) (.pair (.mp (.pair .str (.pair .str .unit)) (.pair (.int .i64) (.pair (.int .i64) (.pair (.int .i64) (.pair (.int .i64) .unit))))) .unit)))), (.int .i64)]) 2)

theorem zh1 (N : Nat) : Contract Go.Proofs.Try.prog zk 7 (zan N) :=
  Contract.of (E := ze7 N) (H := zje N) (L := zjf) (N := N) (body := zk9) (K := (z5m (.otup [(.nb (.pair (.own (.pair .str (.pair (.int .i64) (.pair (.int .i64) .unit)))) (.pair (.int .i64) (.pair (.mp (.pair .str (.pair .str .unit)) (.pair (.int .i64) (.pair (.int .i64) (.pair (.int .i64) (.pair (.int .i64) .unit))))) .unit)))), (.int .i64)]) 2)) (zao N) Go.Proofs.Try.func7 (by kernel_rfl) (by decide) (fun _ hb => TabOk.nil) (fun x y h => by rw [zk8]; exact h) (z1l (s := (.otup [(.nb (.pair (.own (.pair .str (.pair (.int .i64) (.pair (.int .i64) .unit)))) (.pair (.int .i64) (.pair (.mp (.pair .str (.pair .str .unit)) (.pair (.int .i64) (.pair (.int .i64) (.pair (.int .i64) (.pair (.int .i64) .unit))))) .unit)))), (.int .i64)])) (m := 2))

def z5v : Code := (Go.Proofs.Try.f26.body).getD .skip

def z9j : List (List Nat × List Nat) := [([0], [2, 1, 4]), ([0, 1], [6, 4]), ([0, 1, 1], [6, 7, 4]), ([0, 0, 1, 1, 1], [13, 6, 7, 4]), ([1, 0, 1, 1, 1], [7, 6, 4]), ([0, 1, 0, 1, 1, 1], [7, 6, 4]), ([0, 1, 1, 1, 1], [4, 5]), ([1, 1, 1, 1, 1], [4, 5])]

def z60 (N : Nat) : Env := z4q tys zk [(24, z9k N), (32, z5w N)] [] [] [] false [] []

theorem zhx (N : Nat) : EnvOk Go.Proofs.Try.prog (z60 N) := zw mixed z29 (FnsOk.cons (zb7 N) (FnsOk.cons (zb3 N) (FnsOk.nil))) (ItsOk.nil)

def z7r (N : Nat) (x4 : (Int × (Int × (Int × (Int × Unit))))) (later : (Int × (Int × (Int × (Int × Unit))))) (rest : (Int × (Int × (Int × (Int × Unit))))) (k0 : (Int × (Int × (Int × (Int × Unit)))) -> Option ((Int × (Int × (Int × (Int × Unit)))) × Bool × Unit)) : Option ((Int × (Int × (Int × (Int × Unit)))) × Bool × Unit) :=
 (z4d N later).bind fun y =>
 cond y
 (k0 (rest.1, (rest.2.1, ((if ((0 : Int) > (Go.IntKind.wrap Go.IntKind.i64 (later.2.2.1 - (1 : Int)))) then (0 : Int) else (Go.IntKind.wrap Go.IntKind.i64 (later.2.2.1 - (1 : Int)))), rest.2.2.2))))
 (k0 rest)

def zc2 (N : Nat) (x : z2a [(4, .box (.pair (.int .i64) (.pair (.int .i64) (.pair (.int .i64) (.pair (.int .i64) .unit))))), (1, .box (.pair (.int .i64) (.pair (.int .i64) (.pair (.int .i64) (.pair (.int .i64) .unit))))), (0, .box (.pair (.int .i64) (.pair (.int .i64) (.pair (.int .i64) (.pair (.int .i64) .unit)))))]) (K : Ex -> List A -> Option ((Int × (Int × (Int × (Int × Unit)))) × Bool × Unit)) : Option ((Int × (Int × (Int × (Int × Unit)))) × Bool × Unit) :=
 z7r N x.1 x.2.1 x.2.2.1 (fun a2 => (K .normal (mkS [(4, .box (.pair (.int .i64) (.pair (.int .i64) (.pair (.int .i64) (.pair (.int .i64) .unit))))), (1, .box (.pair (.int .i64) (.pair (.int .i64) (.pair (.int .i64) (.pair (.int .i64) .unit))))), (0, .box (.pair (.int .i64) (.pair (.int .i64) (.pair (.int .i64) (.pair (.int .i64) .unit)))))] 15 (x.1, x.2.1, a2, ()))))

def zc1 (N : Nat) : Hd ((Int × (Int × (Int × (Int × Unit)))) × Bool × Unit) := fun st K => (unS [(4, .box (.pair (.int .i64) (.pair (.int .i64) (.pair (.int .i64) (.pair (.int .i64) .unit))))), (1, .box (.pair (.int .i64) (.pair (.int .i64) (.pair (.int .i64) (.pair (.int .i64) .unit))))), (0, .box (.pair (.int .i64) (.pair (.int .i64) (.pair (.int .i64) (.pair (.int .i64) .unit)))))] 15 (restr [6, 7, 4] 0 st)).bind fun x => zc2 N x K

def zit (N : Nat) : Tab ((Int × (Int × (Int × (Int × Unit)))) × Bool × Unit) := []

theorem zhw {N : Nat} {c : Ctx} (hb : Base Go.Proofs.Try.prog (z60 N) c) : z16 Go.Proofs.Try.prog c (zl z5v [0, 1, 1, 1]) (zc1 N) :=
  z1a (s := [(4, .box (.pair (.int .i64) (.pair (.int .i64) (.pair (.int .i64) (.pair (.int .i64) .unit))))), (1, .box (.pair (.int .i64) (.pair (.int .i64) (.pair (.int .i64) (.pair (.int .i64) .unit))))), (0, .box (.pair (.int .i64) (.pair (.int .i64) (.pair (.int .i64) (.pair (.int .i64) .unit)))))]) (m := 15) (g := zc2 N) [6, 7, 4] (zp hb N (zit N) z9j z5v TabOk.nil [0, 1, 1, 1] _ rfl) (fun x K => by kernel_rfl)

def z2n (N : Nat) (b : (Int × (Int × (Int × (Int × Unit))))) (now : Int) : Option ((Int × (Int × (Int × (Int × Unit)))) × Bool × Unit) :=
 (z3y N b now).bind fun y =>
 z7r N ((0 : Int), ((0 : Int), ((0 : Int), ((0 : Int), ())))) y y
 (fun rest => some (rest, ((!(Go.Lift.eqD (Go.Lift.T.pair (Go.Lift.T.int Go.IntKind.i64) (Go.Lift.T.pair (Go.Lift.T.int Go.IntKind.i64) (Go.Lift.T.pair (Go.Lift.T.int Go.IntKind.i64) (Go.Lift.T.pair (Go.Lift.T.int Go.IntKind.i64) Go.Lift.T.unit)))) rest y)), ())))

def zdq (N : Nat) : Tab ((Int × (Int × (Int × (Int × Unit)))) × Bool × Unit) := [([0, 1, 1, 1], zc1 N)]

theorem zg2 (N : Nat) (x : z2a [(0, .v (.pair (.int .i64) (.pair (.int .i64) (.pair (.int .i64) (.pair (.int .i64) .unit))))), (0, .v (.int .i64))]) : zbl (z60 N) N (zdq N) z9j Go.Proofs.Try.f26 (mkS [(0, .v (.pair (.int .i64) (.pair (.int .i64) (.pair (.int .i64) (.pair (.int .i64) .unit))))), (0, .v (.int .i64))] 0 x) (z5m (.tup [(.pair (.int .i64) (.pair (.int .i64) (.pair (.int .i64) (.pair (.int .i64) .unit)))), .bool]) 2) = z2n N x.1 x.2.1 := by kernel_rfl

def zb2 (N : Nat) : List A -> Res := z1u [(0, .v (.pair (.int .i64) (.pair (.int .i64) (.pair (.int .i64) (.pair (.int .i64) .unit))))), (0, .v (.int .i64))] (fun x => z2n N x.1 x.2.1) (za8 (.tup [(.pair (.int .i64) (.pair (.int .i64) (.pair (.int .i64) (.pair (.int .i64) .unit)))), .bool]) 2)

theorem zc3 (N : Nat) : Contract Go.Proofs.Try.prog zk 26 (zb2 N) :=
  Contract.of (E := z60 N) (H := zdq N) (L := z9j) (N := N) (body := z5v) (K := (z5m (.tup [(.pair (.int .i64) (.pair (.int .i64) (.pair (.int .i64) (.pair (.int .i64) .unit)))), .bool]) 2)) (zhx N) Go.Proofs.Try.func26 (by kernel_rfl) (by decide) (fun _ hb => (TabOk.cons (zhw hb) TabOk.nil)) (fun x y h => by rw [zg2]; exact h) (z1l (s := (.tup [(.pair (.int .i64) (.pair (.int .i64) (.pair (.int .i64) (.pair (.int .i64) .unit)))), .bool])) (m := 2))

abbrev OwT : T := .pair .str (.pair .str .unit)

abbrev BkT : T := .pair (.int .i64) (.pair (.int .i64) (.pair (.int .i64) (.pair (.int .i64) .unit)))

abbrev RtT : T := .pair (.own ClassT) (.pair (.int .i64) (.pair (.mp OwT BkT) .unit))

abbrev RtA : T := .pair (.own ClassT) (.pair (.int .i64) (.pair .opq .unit))

theorem zbk (S : Hp) : GlobOk zk S := fun g d h => by cases h

theorem zrr (S : Hp) (t c : List UInt8) : VR S OwT (t, (c, ())) (.agg #[.string ⟨⟨t⟩⟩, .string ⟨⟨c⟩⟩]) :=
  show ∃ cs, _ = Value.agg cs /\ Rd S OwT (t, (c, ())) cs.toList from ⟨_, rfl, [.string ⟨⟨t⟩⟩], _, rfl, rfl, [.string ⟨⟨c⟩⟩], [], rfl, rfl, rfl⟩

abbrev bkV (a b c d : Int) : Value := .agg #[.int .i64 a, .int .i64 b, .int .i64 c, .int .i64 d]

theorem ztc (S : Hp) (a b c d : Int) : VR S BkT (a, (b, (c, (d, ())))) (bkV a b c d) :=
  show ∃ cs, _ = Value.agg cs /\ Rd S BkT (a, (b, (c, (d, ())))) cs.toList from
    ⟨_, rfl, [.int .i64 a], _, rfl, rfl, [.int .i64 b], _, rfl, rfl, [.int .i64 c], _, rfl, rfl, [.int .i64 d], [], rfl, rfl, rfl⟩

theorem ztd {S : Hp} {a b c d : Int} {v : Value} (h : VR S BkT (a, (b, (c, (d, ())))) v) : v = bkV a b c d := by
  have h' : ∃ cs, v = .agg cs /\ Rd S BkT (a, (b, (c, (d, ())))) cs.toList := h
  obtain ⟨cs, rfl, c1, c2, hc, k1, c3, c4, hc', k2, c5, c6, hc'', k3, c7, c8, hc3, k4, k5⟩ := h'
  have e1 : c1 = [.int .i64 a] := k1
  have e2 : c3 = [.int .i64 b] := k2
  have e3 : c5 = [.int .i64 c] := k3
  have e4 : c7 = [.int .i64 d] := k4
  have e5 : c8 = [] := k5
  congr 1
  apply Array.toList_inj.1
  rw [hc, hc', hc'', hc3, e1, e2, e3, e4, e5]
  rfl

theorem zr0 {h S : Hp} {a b c d : Int} {ok : Bool} {v : Value} {o : List Nat} (hr : ARel h S (fun _ => undef) (.tup [⟨BkT, (a, (b, (c, (d, ()))))⟩, ⟨.bool, ok⟩]) v o) : v = .tuple #[bkV a b c d, .bool ok] := by
  obtain ⟨_, vs, rfl, ht⟩ := hr
  generalize hvs : vs.toList = l at ht
  cases ht with
  | cons h1 ht =>
  cases ht with
  | cons h2 ht =>
  cases ht
  congr 1
  apply Array.toList_inj.1
  rw [hvs, ztd h1, VR.bool_inv h2]

theorem zoh {h S : Hp} {cls : List ClassT.den} {start : Int} {m : Option (List (OwT.den × BkT.den))} {v : Value} {o : List Nat} (hr : ARel h S (fun _ => undef) (.box RtT (cls, (start, (m, ())))) v o) :
    ∃ b sv mv E fr b1 b2, o = b :: (b1 ++ b2) /\ v = .pointer (some ⟨b, 0, none⟩) /\ h b = some (.cells #[sv, .int .i64 start, mv] E fr) /\ Free #[sv, .int .i64 start, mv] fr /\ RowRel h S ClassT cls sv b1 /\ MpRel h S OwT BkT m mv b2 := by
  obtain ⟨b, cs, E, fr, bs, rfl, rfl, hb, hf, c1, c2, b1, b2, hc, hbs, ⟨sv, hsv, hrow⟩, c3, c4, b3, b4, hc', hbs', ⟨hb3, hi⟩, c5, c6, b5, b6, hc'', hbs'', ⟨mv, hmv, hmp⟩, ⟨hb6, hu⟩⟩ := hr
  have e3 : c3 = [.int .i64 start] := hi
  have e6 : c6 = [] := hu
  have ecs : cs = #[sv, .int .i64 start, mv] := by
    apply Array.toList_inj.1
    rw [hc, hc', hc'', hsv, e3, hmv, e6]; rfl
  subst ecs
  exact ⟨b, sv, mv, E, fr, b1, b5, by rw [hbs, hbs', hbs'', hb3, hb6]; simp, rfl, hb, hf, hrow, hmp⟩

theorem zwy {h S : Hp} {cls : List ClassT.den} {start : Int} {m : Option (List (OwT.den × BkT.den))} {b E : Nat} {fr : Nat × Nat} {sv mv : Value} {b1 b2 : List Nat} (hb : h b = some (.cells #[sv, .int .i64 start, mv] E fr)) (hf : Free #[sv, .int .i64 start, mv] fr)
    (h1 : RowRel h S ClassT cls sv b1) (h2 : MpRel h S OwT BkT m mv b2) : ARel h S (fun _ => undef) (.box RtT (cls, (start, (m, ())))) (.pointer (some ⟨b, 0, none⟩)) (b :: (b1 ++ b2)) :=
  ⟨b, _, E, fr, _, rfl, rfl, hb, hf, [sv], [.int .i64 start, mv], b1, b2, rfl, rfl, ⟨sv, rfl, h1⟩, [.int .i64 start], [mv], [], b2, rfl, rfl, ⟨rfl, rfl⟩, [mv], [], b2, [], rfl, by simp, ⟨mv, rfl, h2⟩, ⟨rfl, rfl⟩⟩

theorem zlu {w0 : World} {w : World} {S0 : Hp} {ob0 : List Nat} {bf : Nat} {L : List (Nat × Array Value × Nat)} {cls : List ClassT.den} {start : Int} {xs : List (OwT.den × BkT.den)} (h : BSt RtT w0 S0 ob0 bf w (cls, (start, (some xs, ()))) L) : ∃ mb, w.cell? ⟨bf, 2, none⟩ = some (.map (some mb)) := by
  obtain ⟨S, o, h1, h2, h3, h4, h5, h6, h7, hL⟩ := h
  obtain ⟨b, sv, mv, E, fr, b1, b2, rfl, e, hb, hf, hrow, hmp⟩ := zoh h5
  cases e
  rcases hmp with ⟨e, _⟩ | ⟨xs', mb, es, cl, e, e1, e2, e3, _⟩
  . cases e
  . subst e2
    have hb' : w.heap[bf]? = _ := hb
    exact ⟨mb, by simp [World.cell?, hb']⟩

theorem zrd {w0 : World} {w : World} {S0 : Hp} {ob0 : List Nat} {bf : Nat} {L : List (Nat × Array Value × Nat)} (N : Nat) {cls : List ClassT.den} {start : Int} {xs : List (OwT.den × BkT.den)} {mb : Nat} (t c : List UInt8) (h : BSt RtT w0 S0 ob0 bf w (cls, (start, (some xs, ()))) L) (hc : w.cell? ⟨bf, 2, none⟩ = some (.map (some mb))) :
    ∃ a1 a2 a3 a4, (z3w (eqD OwT) (t, (c, ())) xs).getD (0, (0, (0, (0, ())))) = (a1, (a2, (a3, (a4, ())))) /\ (Instr.lookup 46 (.map (some mb)) (.agg #[.string ⟨⟨t⟩⟩, .string ⟨⟨c⟩⟩]) true).run Try.prog w = .ok (.tuple #[bkV a1 a2 a3 a4, .bool (z3w (eqD OwT) (t, (c, ())) xs).isSome]) w := by
  obtain ⟨S, o, h1, h2, h3, h4, h5, h6, h7, hL⟩ := h
  obtain ⟨b, sv, mv, E, fr, b1, b2, rfl, e, hb, hf, hrow, hmp⟩ := zoh h5
  cases e
  have hb' : w.heap[bf]? = _ := hb
  have hmv : mv = .map (some mb) := by simpa [World.cell?, hb'] using hc
  subst hmv
  rcases hmp with ⟨e, _⟩ | ⟨xs', mb', es, cl, e, e1, e2, e3, e4, _⟩
  . cases e
  . cases e; cases e2
    obtain ⟨u, hu, hrun⟩ := znb (zao N) (S := S) (t := 46) (ki := 58) (ke := ty58) (ve := ty54) (by kernel_rfl) (zrr S t c) e3 e4
    generalize hq : (z3w (eqD OwT) (t, (c, ())) xs).getD (0, (0, (0, (0, ())))) = q
    obtain ⟨a1, a2, a3, a4, ⟨⟩⟩ := q
    refine ⟨a1, a2, a3, a4, rfl, ?_⟩
    have hu' : VR S BkT (a1, (a2, (a3, (a4, ())))) u := by rw [<- hq]; exact hu
    rw [ztd hu'] at hrun
    exact hrun

theorem ztf {w : World} {S : Hp} : ArgsRel (hp w) S [] [] (fun _ => []) := ⟨rfl, (fun i y hy => by simp at hy), fun _ _ => rfl, (fun i j b hb => by cases hb), fun _ => .nil, (fun i b hb => by cases hb)⟩

theorem zup {w : World} {S : Hp} {a : A} {v : Value} (h : ARel (hp w) S (fun _ => undef) a v []) (hr : a.refs = []) : ArgsRel (hp w) S [a] [v] (fun _ => []) := by
  refine ⟨rfl, fun i y hy => ?_, fun _ _ => rfl, (fun i j b hb => by cases hb), fun _ => .nil, (fun i b hb => by cases hb)⟩
  cases i with
  | zero => simp at hy; subst hy; exact ⟨⟨v, rfl, h⟩, hr⟩
  | succ i => simp at hy

theorem zp4 {w : World} {S : Hp} {a b : A} {v u : Value} (h : ARel (hp w) S (fun _ => undef) a v []) (hr : a.refs = []) (h2 : ARel (hp w) S (fun _ => undef) b u []) (hr2 : b.refs = []) : ArgsRel (hp w) S [a, b] [v, u] (fun _ => []) := by
  refine ⟨rfl, fun i y hy => ?_, fun _ _ => rfl, (fun i j b hb => by cases hb), fun _ => .nil, (fun i b hb => by cases hb)⟩
  cases i with
  | zero => simp at hy; subst hy; exact ⟨⟨v, rfl, h⟩, hr⟩
  | succ i =>
    cases i with
    | zero => simp at hy; subst hy; exact ⟨⟨u, rfl, h2⟩, hr2⟩
    | succ i => simp at hy

theorem z8h {w0 : World} {w : World} {S0 : Hp} {ob0 : List Nat} {bf : Nat} {L : List (Nat × Array Value × Nat)} (N : Nat) {cls : List ClassT.den} {start : Int} {m : Option (List (OwT.den × BkT.den))} (h : BSt RtT w0 S0 ob0 bf w (cls, (start, (m, ()))) L) :
    Calls Try.prog 21 #[.pointer (some ⟨bf, 0, none⟩)] w fun e w' => e = .returned (.bool m.isSome) /\ BSt RtT w0 S0 ob0 bf w' (cls, (start, (m, ()))) L := by
  have hy : z6a N (cls, (start, (m, ()))) = some (m.isSome, ((cls, (start, (m, ()))), ())) := by
    show some (!(!m.isSome), _) = _
    rw [Bool.not_not]
  refine (BSt.boxed (z78 N) zbk h (args := []) (vals := []) (fun S _ => ztf) (y := (m.isSome, ((cls, (start, (m, ()))), ()))) hy rfl).mono ?_
  rintro e w' ⟨v, S', o', rfl, hr, h'⟩
  exact ⟨by rw [VR.bool_inv hr.1], h'⟩

def zdi (N : Nat) (cls : List ClassT.den) (start : Int) (o : OwT.den) : Option (BkT.den × (Bool × Unit)) := (z1k N (cls, (start, (.nilIface, ()))) o).map (·.1)

theorem zsm (N : Nat) (cls : List ClassT.den) (start : Int) (v : Value) (o : OwT.den) : z1k N (cls, (start, (v, ()))) o = (zdi N cls start o).bind fun q => some (q, ((cls, (start, (v, ()))), ())) := by
  unfold zdi z1k
  dsimp only
  cases z68 N cls o.2.1 with
  | none => rfl
  | some y =>
    simp only [Option.bind_some]
    cases decide (y < 0) with
    | true => rfl
    | false =>
      simp only [cond_false]
      cases inR y (List.length cls) with
      | false => rfl
      | true =>
        simp only [cond_true]
        cases decide (Int.toNat y < List.length cls) <;> rfl

theorem zqe {w0 : World} {w : World} {S0 : Hp} {ob0 : List Nat} {bf : Nat} {L : List (Nat × Array Value × Nat)} (N : Nat) {cls : List ClassT.den} {start : Int} {xs : List (OwT.den × BkT.den)} {mb : Nat} {t c : List UInt8} {a1 a2 a3 a4 : Int} {ok : Bool} (h : BSt RtT w0 S0 ob0 bf w (cls, (start, (some xs, ()))) L) (hc : w.cell? ⟨bf, 2, none⟩ = some (.map (some mb)))
    (hy : zdi N cls start (t, (c, ())) = some ((a1, (a2, (a3, (a4, ())))), (ok, ()))) :
    Calls Try.prog 23 #[.pointer (some ⟨bf, 0, none⟩), .agg #[.string ⟨⟨t⟩⟩, .string ⟨⟨c⟩⟩]] w fun e w' => e = .returned (.tuple #[bkV a1 a2 a3 a4, .bool ok]) /\ BSt RtT w0 S0 ob0 bf w' (cls, (start, (some xs, ()))) L /\ w'.cell? ⟨bf, 2, none⟩ = some (.map (some mb)) := by
  obtain ⟨S, o, h1, h2, h3, h4, h5, h6, h7, hL⟩ := h
  obtain ⟨b, sv, mv, E, fr, p1, p2, rfl, e, hb, hf, hrow, hmp⟩ := zoh h5
  cases e
  have hb' : w.heap[bf]? = _ := hb
  have hmv : mv = .map (some mb) := by simpa [World.cell?, hb'] using hc
  subst hmv
  have hmp' := hmp
  rcases hmp with ⟨e, _⟩ | ⟨xs', mb', es, cl, e, e1, e2, e3, e4, e5, e6⟩
  . cases e
  cases e; cases e2
  subst e1
  have h6' := h6
  rw [List.nodup_cons, List.nodup_append] at h6'
  obtain ⟨n1, n2, n3, n4⟩ := h6'
  have hbm : bf ≠ mb := fun e => n1 (by simp [e])
  have hpm : mb ∉ p1 := fun hm => n4 mb hm mb (by simp) rfl
  have hms : mb < w.heap.size := by
    have : w.heap[mb]? = _ := e3
    exact (Array.getElem?_eq_some_iff.1 this).1
  have h5' : ARel (hp w) S (fun _ => undef) (.box RtA (cls, (start, (.map (some mb), ())))) (.pointer (some ⟨bf, 0, none⟩)) (bf :: p1) :=
    ⟨bf, _, E, fr, _, rfl, rfl, hb, hf, [sv], [.int .i64 start, .map (some mb)], p1, [], rfl, by simp, ⟨sv, rfl, hrow⟩, [.int .i64 start], [.map (some mb)], [], [], rfl, rfl, ⟨rfl, rfl⟩, [.map (some mb)], [], [], [], rfl, rfl, ⟨rfl, rfl, rfl⟩, ⟨rfl, rfl⟩⟩
  have har := zp5 h5' (List.nodup_cons.2 ⟨fun hm => n1 (by simp [hm]), n2⟩) (fun k hk => (h7 k (by simp at hk ⊢; rcases hk with hk | hk <;> simp [hk])).1) (zup (a := .v OwT (t, (c, ()))) (v := .agg #[.string ⟨⟨t⟩⟩, .string ⟨⟨c⟩⟩]) ⟨zrr S t c, rfl⟩ rfl)
  have hy' : z1k N (cls, (start, (.map (some mb), ()))) (t, (c, ())) = some (((a1, (a2, (a3, (a4, ())))), (ok, ())), ((cls, (start, (.map (some mb), ()))), ())) := by
    rw [zsm, hy]; rfl
  refine ((z42 N).2 w S _ _ _ har h3 (zbk S) (((a1, (a2, (a3, (a4, ())))), (ok, ())), ((cls, (start, (.map (some mb), ()))), ())) hy').mono ?_
  rintro e w' ⟨v, S', q, ob', rfl, hwf, hSS, hSw, hnew, ⟨hr, _⟩, hq, _, hbox, hob1, hob2, hob3, _⟩
  have hin : ∀ k, (∃ i, k ∈ (fun i => if i = 0 then bf :: p1 else []) i) -> k ∈ bf :: p1 := by
    rintro k ⟨i, hi⟩
    by_cases hi0 : i = 0
    . simpa [hi0] using hi
    . simp [hi0] at hi
  have hmn : mb ∉ bf :: p1 := by
    intro hm
    rcases List.mem_cons.1 hm with hm | hm
    . exact hbm hm.symm
    . exact hpm hm
  obtain ⟨x2, v2, g1, g2, _, g4⟩ := hbox 0 _ rfl rfl
  cases g1
  simp at g2
  subst g2
  obtain ⟨b', cs', E', fr', bs', eo, ev, hb2, hf2, c1, c2, q1, q2, hcs, hbs, ⟨sv', hsv, hrow'⟩, c3, c4, q3, q4, hcs', hbs', ⟨hq3, hi⟩, c5, c6, q5, q6, hcs'', hbs'', ⟨hq5, hop, _⟩, ⟨hq6, hu⟩⟩ := g4
  cases ev
  have i3 : c3 = [.int .i64 start] := hi
  have i6 : c6 = [] := hu
  have ecs : cs' = #[sv', .int .i64 start, .map (some mb)] := by
    apply Array.toList_inj.1
    rw [hcs, hcs', hcs'', hsv, i3, hop, i6]; rfl
  subst ecs
  have ebs : bs' = q1 := by rw [hbs, hbs', hbs'', hq3, hq5, hq6]; simp
  subst ebs
  have hsame : hp w' mb = hp w mb := hwf.same mb hms (fun hh => hmn (hin mb hh))
  have hnd := hob3 0
  rw [eo] at hnd
  have hfar : ∀ k ∈ bf :: bs', k ≠ mb := by
    rintro k hk rfl
    have := (hob1 0 k (by rw [eo]; exact hk)).1
    rcases this with h | h
    . exact hmn (hin k h)
    . omega
  refine ⟨by rw [zr0 hr], zt8 h1 h2 h4 h7 hL (S' := S') (o' := bf :: (bs' ++ [mb])) ⟨hwf.size, fun k hk hn => hwf.same k hk (fun hh => hn (by have := hin k hh; simp at this ⊢; rcases this with h | h <;> simp [h])), hwf.tape, hwf.os, hwf.output⟩ hSS hSw (fun k hk => ?_) ?_ ?_ (fun k hk => ?_), ?_⟩
  . rcases hnew k hk with h | h | h
    . exact .inl h
    . exact .inr (.inl (by have := hin k h; simp at this ⊢; rcases this with h | h <;> simp [h]))
    . exact .inr (.inr h)
  . exact zwy hb2 hf2 hrow' (hmp'.mono hSS (fun k hk => by rw [List.mem_singleton.1 hk]; exact hsame))
  . rw [<- List.cons_append, List.nodup_append]
    exact ⟨hnd, by simp, fun k hk u hu => by rw [List.mem_singleton.1 hu]; exact hfar k hk⟩
  . have hk' : k ∈ bf :: bs' \/ k = mb := by simp at hk ⊢; rcases hk with h | h | h <;> simp [h]
    rcases hk' with hk' | rfl
    . obtain ⟨z1, z2, _⟩ := hob1 0 k (by rw [eo]; exact hk')
      refine ⟨z2, ?_⟩
      rcases z1 with h | h
      . exact .inl (by have := hin k h; simp at this ⊢; rcases this with h | h <;> simp [h])
      . exact .inr h
    . refine ⟨?_, .inl (by simp)⟩
      cases hs : S' k with
      | none => rfl
      | some u =>
        rcases hnew k (by rw [hs]; simp) with h | h | h
        . exact absurd (h7 k (by simp)).1 h
        . exact absurd (hin k h) hmn
        . omega
  . have hb2' : w'.heap[bf]? = _ := hb2
    simp [World.cell?, hb2']

theorem zqn {w0 : World} {w : World} {S0 : Hp} {ob0 : List Nat} {bf : Nat} {L : List (Nat × Array Value × Nat)} (N : Nat) {x : RtT.den} {a1 a2 a3 a4 b1 b2 b3 b4 now : Int} {ok : Bool} (h : BSt RtT w0 S0 ob0 bf w x L) (hy : z2n N (a1, (a2, (a3, (a4, ())))) now = some ((b1, (b2, (b3, (b4, ())))), (ok, ()))) :
    Calls Try.prog 26 #[bkV a1 a2 a3 a4, .int .i64 now] w fun e w' => e = .returned (.tuple #[bkV b1 b2 b3 b4, .bool ok]) /\ BSt RtT w0 S0 ob0 bf w' x L := by
  refine (BSt.plain (zc3 N) zbk h (args := [.v BkT (a1, (a2, (a3, (a4, ())))), .v (.int .i64) now]) (vals := [bkV a1 a2 a3 a4, .int .i64 now]) (fun S _ => zp4 ⟨ztc S a1 a2 a3 a4, rfl⟩ rfl ⟨VR.int, rfl⟩ rfl) (y := ((b1, (b2, (b3, (b4, ())))), (ok, ()))) hy).mono ?_
  rintro e w' ⟨v, S', o', rfl, hr, h'⟩
  exact ⟨by rw [zr0 hr], h'⟩

theorem zum {w0 : World} {w : World} {S0 : Hp} {ob0 : List Nat} {bf : Nat} {L : List (Nat × Array Value × Nat)} (N : Nat) {x : RtT.den} {a1 a2 a3 a4 b1 b2 b3 b4 now : Int} (h : BSt RtT w0 S0 ob0 bf w x L) (hy : z3y N (a1, (a2, (a3, (a4, ())))) now = some (b1, (b2, (b3, (b4, ()))))) :
    Calls Try.prog 24 #[bkV a1 a2 a3 a4, .int .i64 now] w fun e w' => e = .returned (.agg #[.int .i64 b1, .int .i64 b2, .int .i64 b3, .int .i64 b4]) /\ BSt RtT w0 S0 ob0 bf w' x L := by
  refine (BSt.plain (zb7 N) zbk h (args := [.v BkT (a1, (a2, (a3, (a4, ())))), .v (.int .i64) now]) (vals := [bkV a1 a2 a3 a4, .int .i64 now]) (fun S _ => zp4 ⟨ztc S a1 a2 a3 a4, rfl⟩ rfl ⟨VR.int, rfl⟩ rfl) (y := (b1, (b2, (b3, (b4, ()))))) hy).mono ?_
  rintro e w' ⟨v, S', o', rfl, hr, h'⟩
  exact ⟨by rw [ztd hr.1], h'⟩

def z1m (N : Nat) (r : RtT.den) (o : OwT.den) : Option ((BkT.den × (Bool × Unit)) × RtT.den) := match z3w (eqD OwT) o (r.2.2.1.getD []) with
  | some b => some ((b, (true, ())), r)
  | none => (zdi N r.1 r.2.1 o).bind fun q => some (q, r)

theorem z28 {w : World} {cs : Array Value} {E : Nat} {p : Addr} {v : Value} (h : w.cell? p = some v) : (w.alloc (.cells cs E)).cell? p = some v := Go.Lib.cell?_alloc_some _ h

theorem zl6 {w : World} {cs : Array Value} {E i : Nat} {v : Value} (h : cs[i]? = some v) : (w.alloc (.cells cs E)).cell? ⟨w.heap.size, i, none⟩ = some v := by
  have hh : (w.alloc (.cells cs E)).heap = w.heap.push (.cells cs E (0, 0)) := rfl
  simp [World.cell?, hh, h]

theorem zxa (w : World) (cs : Array Value) (E : Nat) : (w.alloc (.cells cs E)).heap.size = w.heap.size + 1 := Array.size_push ..

theorem zxb {w : World} {A cs : Array Value} {F E i : Nat} {v : Value} (h : cs[i]? = some v) : ((w.alloc (.cells A F)).alloc (.cells cs E)).cell? ⟨w.heap.size + 1, i, none⟩ = some v := by
  have := zl6 (w := w.alloc (.cells A F)) (E := E) h
  rwa [zxa] at this

theorem zdr {w : World} {p : Addr} {v : Value} (hc : w.cell? p = some v) : p.block < w.heap.size := by
  cases hh : w.heap[p.block]? with
  | none => simp [World.cell?, hh] at hc
  | some o => exact (Array.getElem?_eq_some_iff.1 hh).1

theorem z1o {w : World} {p q : Addr} {x : Value} (h : q.block ≠ p.block) : (w.setCell p x).cell? q = w.cell? q := by
  simp only [World.setCell, World.cell?]
  rw [Array.getElem?_modify, if_neg (Ne.symm h)]

theorem zot {w : World} {n : Nat} {tmps : Array Value} {a1 a2 a3 a4 : Int} {ok : Bool} (h6 : tmps.getD 6 undef = .pointer (some ⟨n, 0, none⟩)) (h7 : tmps.getD 7 undef = .bool ok)
    (c0 : w.cell? ⟨n, 0, none⟩ = some (.int .i64 a1)) (c1 : w.cell? ⟨n, 1, none⟩ = some (.int .i64 a2)) (c2 : w.cell? ⟨n, 2, none⟩ = some (.int .i64 a3)) (c3 : w.cell? ⟨n, 3, none⟩ = some (.int .i64 a4)) :
    (results Try.f22 tmps).run Try.prog w = .ok (.tuple #[bkV a1 a2 a3 a4, .bool ok]) w := by
  rw [results_cell_tmp rfl, h6, h7]
  simp [asAddr, Go.loadVar, go_sem, c0, c1, c2, c3]

set_option maxHeartbeats 4000000 in
theorem zq1 (N : Nat) {w0 w : World} {S0 : Hp} {ob0 : List Nat} {bf : Nat} {L : List (Nat × Array Value × Nat)} {cls : List ClassT.den} {start : Int} {xs : List (OwT.den × BkT.den)} {mb : Nat} {t c : List UInt8} {a1 a2 a3 a4 : Int} {fv : Value}
    (h : BSt RtT w0 S0 ob0 bf w (cls, (start, (some xs, ()))) L) (hc : w.cell? ⟨bf, 2, none⟩ = some (.map (some mb)))
    (hl : z3w (eqD OwT) (t, (c, ())) xs = some (a1, (a2, (a3, (a4, ()))))) {R : Ending -> World -> Prop} (HR : ∀ w', BSt RtT w0 S0 ob0 bf w' (cls, (start, (some xs, ()))) L -> w'.cell? ⟨bf, 2, none⟩ = some (.map (some mb)) -> R (.returned (.tuple #[bkV a1 a2 a3 a4, .bool true])) w') :
    Calls Try.prog 22 #[.map (some mb), .agg #[.string ⟨⟨t⟩⟩, .string ⟨⟨c⟩⟩], fv] w R := by
  have HH := Go.Lib.hid HR
  have H1 := (h.alloc #[.string ⟨⟨t⟩⟩, .string ⟨⟨c⟩⟩] 58).alloc #[.int .i64 0, .int .i64 0, .int .i64 0, .int .i64 0] 54
  obtain ⟨b1, b2, b3, b4, e1, e2⟩ := zrd N t c H1 (z28 (z28 hc))
  rw [hl] at e1 e2
  cases e1
  have HS := Go.Lib.hid h
  have HC := Go.Lib.hid hc
  clear HR H1 h hl hc
  go_enter Try.func22, Try.ntmps22
  go_wp2
  refine bodyPost_ret (zot (n := w.heap.size + 1) (a1 := a1) (a2 := a2) (a3 := a3) (a4 := a4) (ok := true) rfl rfl ?_ ?_ ?_ ?_) rfl ?_
  iterate 4 · exact z28 (zxb rfl)
  exact HH.out _ ((((HS.out.alloc _ _).alloc _ _).alloc _ _).swap (fun p hp => by simp [hp])) (z28 (z28 (z28 HC.out)))

set_option maxHeartbeats 4000000 in
theorem zq0 (N : Nat) {w0 w : World} {S0 : Hp} {ob0 : List Nat} {bf : Nat} {L : List (Nat × Array Value × Nat)} {cls : List ClassT.den} {start : Int} {xs : List (OwT.den × BkT.den)} {mb : Nat} {t c : List UInt8} {a1 a2 a3 a4 : Int} {ok : Bool}
    (h : BSt RtT w0 S0 ob0 bf w (cls, (start, (some xs, ()))) L) (hc : w.cell? ⟨bf, 2, none⟩ = some (.map (some mb)))
    (hl : z3w (eqD OwT) (t, (c, ())) xs = none) (hy : zdi N cls start (t, (c, ())) = some ((a1, (a2, (a3, (a4, ())))), (ok, ()))) {R : Ending -> World -> Prop} (HR : ∀ w', BSt RtT w0 S0 ob0 bf w' (cls, (start, (some xs, ()))) L -> w'.cell? ⟨bf, 2, none⟩ = some (.map (some mb)) -> R (.returned (.tuple #[bkV a1 a2 a3 a4, .bool ok])) w') :
    Calls Try.prog 22 #[.map (some mb), .agg #[.string ⟨⟨t⟩⟩, .string ⟨⟨c⟩⟩], .func (.func 23) #[.pointer (some ⟨bf, 0, none⟩)] #[]] w R := by
  have HH := Go.Lib.hid HR
  have HD := Go.Lib.hid (fun (q : Nat × Array Value × Nat) (hq : q ∈ L) => (Nat.ne_of_lt (Nat.lt_succ_of_lt (h.lt q hq)) : q.1 ≠ w.heap.size + 1))
  have H1 := (h.alloc #[.string ⟨⟨t⟩⟩, .string ⟨⟨c⟩⟩] 58).alloc #[.int .i64 0, .int .i64 0, .int .i64 0, .int .i64 0] 54
  obtain ⟨b1, b2, b3, b4, e1, e2⟩ := zrd N t c H1 (z28 (z28 hc))
  rw [hl] at e1 e2
  cases e1
  have H2 := (H1.alloc #[.int .i64 0, .int .i64 0, .int .i64 0, .int .i64 0] 54)
  simp only [zxa] at H2
  have HF := zqe N H2 (z28 (z28 (z28 hc))) hy
  have HL := Go.Lib.hid (zdr hc)
  clear HR H1 h hl hc H2 hy
  go_enter Try.func22, Try.ntmps22
  go_wp2_with (go_at_call 23; refine HF.mono ?_; rintro r w2 ⟨rfl, hq, hm⟩; have Q := Go.Lib.hid hq; have QM := Go.Lib.hid hm; have q0 := hq.cell (p := w.heap.size + 1) (cs := #[.int .i64 0, .int .i64 0, .int .i64 0, .int .i64 0]) (E := 54) (i := 0) (v := .int .i64 0) (by simp) rfl; have q1 := hq.cell (p := w.heap.size + 1) (cs := #[.int .i64 0, .int .i64 0, .int .i64 0, .int .i64 0]) (E := 54) (i := 1) (v := .int .i64 0) (by simp) rfl; have q2 := hq.cell (p := w.heap.size + 1) (cs := #[.int .i64 0, .int .i64 0, .int .i64 0, .int .i64 0]) (E := 54) (i := 2) (v := .int .i64 0) (by simp) rfl; have q3 := hq.cell (p := w.heap.size + 1) (cs := #[.int .i64 0, .int .i64 0, .int .i64 0, .int .i64 0]) (E := 54) (i := 3) (v := .int .i64 0) (by simp) rfl; have f0 := hq.free (p := w.heap.size + 1) (cs := #[.int .i64 0, .int .i64 0, .int .i64 0, .int .i64 0]) (E := 54) (i := 0) (by simp); have f1 := hq.free (p := w.heap.size + 1) (cs := #[.int .i64 0, .int .i64 0, .int .i64 0, .int .i64 0]) (E := 54) (i := 1) (by simp); have f2 := hq.free (p := w.heap.size + 1) (cs := #[.int .i64 0, .int .i64 0, .int .i64 0, .int .i64 0]) (E := 54) (i := 2) (by simp); have f3 := hq.free (p := w.heap.size + 1) (cs := #[.int .i64 0, .int .i64 0, .int .i64 0, .int .i64 0]) (E := 54) (i := 3) (by simp); clear HF hq hm)
  have F := (((((Q.out.swap (L' := (w.heap.size + 1, #[.int .i64 0, .int .i64 0, .int .i64 0, .int .i64 0], 54) :: L) (fun p hp => by rcases List.mem_cons.1 hp with rfl | hp <;> simp [*])).setCell HD.out 0 (.int .i64 a1)).setCell HD.out 1 (.int .i64 a2)).setCell HD.out 2 (.int .i64 a3)).setCell HD.out 3 (.int .i64 a4))
  exact bodyPost_ret (zot (n := w.heap.size + 1) (a1 := a1) (a2 := a2) (a3 := a3) (a4 := a4) (ok := ok) rfl rfl (F.cell (List.mem_cons_self ..) rfl) (F.cell (List.mem_cons_self ..) rfl) (F.cell (List.mem_cons_self ..) rfl) (F.cell (List.mem_cons_self ..) rfl)) rfl (HH.out _ (F.swap (fun p hp => by simp [hp])) (by have := HL.out; rw [z1o, z1o, z1o, z1o]; exact QM.out; all_goals (dsimp only at this ⊢; omega)))

theorem z8i (N : Nat) {w0 w : World} {S0 : Hp} {ob0 : List Nat} {bf : Nat} {L : List (Nat × Array Value × Nat)} {cls : List ClassT.den} {start : Int} {xs : List (OwT.den × BkT.den)} {mb : Nat} {t c : List UInt8} {a1 a2 a3 a4 : Int} {ok : Bool} {x' : RtT.den}
    (h : BSt RtT w0 S0 ob0 bf w (cls, (start, (some xs, ()))) L) (hc : w.cell? ⟨bf, 2, none⟩ = some (.map (some mb)))
    (hy : z1m N (cls, (start, (some xs, ()))) (t, (c, ())) = some (((a1, (a2, (a3, (a4, ())))), (ok, ())), x')) :
    Calls Try.prog 22 #[.map (some mb), .agg #[.string ⟨⟨t⟩⟩, .string ⟨⟨c⟩⟩], .func (.func 23) #[.pointer (some ⟨bf, 0, none⟩)] #[]] w fun e w' => e = .returned (.tuple #[bkV a1 a2 a3 a4, .bool ok]) /\ x' = (cls, (start, (some xs, ()))) /\ BSt RtT w0 S0 ob0 bf w' (cls, (start, (some xs, ()))) L /\ w'.cell? ⟨bf, 2, none⟩ = some (.map (some mb)) := by
  unfold z1m at hy
  dsimp only [Option.getD_some] at hy
  cases hl : z3w (eqD OwT) (t, (c, ())) xs with
  | some b =>
    rw [hl] at hy
    cases hy
    exact zq1 N h hc hl (fun w' h' hm => ⟨rfl, rfl, h', hm⟩)
  | none =>
    rw [hl] at hy
    dsimp only at hy
    cases hf : zdi N cls start (t, (c, ())) with
    | none => rw [hf] at hy; cases hy
    | some q =>
      rw [hf] at hy
      cases hy
      exact zq0 N h hc hl hf (fun w' h' hm => ⟨rfl, rfl, h', hm⟩)

theorem fld_a (b1 b2 b3 b4 : Int) (w : World) : (Instr.field 54 (.agg #[.int .i64 b1, .int .i64 b2, .int .i64 b3, .int .i64 b4]) 2).run Try.prog w = .ok (.int .i64 b3) w := by
  kernel_rfl

set_option maxHeartbeats 4000000 in
theorem zsc (N : Nat) {w0 w : World} {S0 : Hp} {ob0 : List Nat} {bf : Nat} {cls : List ClassT.den} {start : Int} {xs : List (OwT.den × BkT.den)} {t c : List UInt8} {now : Int} {a1 a2 a3 a4 b1 b2 b3 b4 : Int} {x' : RtT.den}
    (h : BSt RtT w0 S0 ob0 bf w (cls, (start, (some xs, ()))) [])
    (hy : z1m N (cls, (start, (some xs, ()))) (t, (c, ())) = some (((a1, (a2, (a3, (a4, ())))), (true, ())), x')) (hz : z3y N (a1, (a2, (a3, (a4, ())))) now = some (b1, (b2, (b3, (b4, ()))))) :
    Calls Try.prog 12 #[.pointer (some ⟨bf, 0, none⟩), .string ⟨⟨t⟩⟩, .string ⟨⟨c⟩⟩, .int .i64 now] w fun e w' => e = .returned (.int .i64 b3) /\ BSt RtT w0 S0 ob0 bf w' x' [] := by
  suffices HX : ∀ R : Ending -> World -> Prop, Go.RowKit.Hid (∀ w', BSt RtT w0 S0 ob0 bf w' x' [] -> R (.returned (.int .i64 b3)) w') -> Calls Try.prog 12 #[.pointer (some ⟨bf, 0, none⟩), .string ⟨⟨t⟩⟩, .string ⟨⟨c⟩⟩, .int .i64 now] w R from HX _ (Go.Lib.hid (fun w' h => ⟨rfl, h⟩))
  intro R HR
  have HM := z8h N h
  have HY := Go.Lib.hid hy
  have HZ := Go.Lib.hid hz
  have hfd := fld_a b1 b2 b3 b4
  clear h hy hz
  go_enter Try.func12, Try.ntmps12
  go_wp2_with (first
    | (go_at_call 21; refine HM.mono ?_; rintro r w1 ⟨rfl, hq⟩; obtain ⟨mb, c2⟩ := zlu hq; have HL := z8i N hq c2 HY.out; clear HM hq)
    | (go_at_call 22; refine HL.mono ?_; rintro r w2 ⟨rfl, rfl, hq, hm⟩; have HA := zum N (hq.alloc #[.int .i64 a1, .int .i64 a2, .int .i64 a3, .int .i64 a4] 54) HZ.out; clear HL hq hm)
    | (go_at_call 24; refine HA.mono ?_; rintro r w3 ⟨rfl, hq⟩; have HE := Go.Lib.hid hq; clear HA hq))
  try go_ret
  exact HR.out _ (HE.out.swap (fun p hp => by cases hp))

set_option maxHeartbeats 4000000 in
theorem zwa (N : Nat) {w0 w : World} {S0 : Hp} {ob0 : List Nat} {bf : Nat} {cls : List ClassT.den} {start : Int} {xs : List (OwT.den × BkT.den)} {t c : List UInt8} {now : Int} {a1 a2 a3 a4 : Int} {x' : RtT.den}
    (h : BSt RtT w0 S0 ob0 bf w (cls, (start, (some xs, ()))) [])
    (hy : z1m N (cls, (start, (some xs, ()))) (t, (c, ())) = some (((a1, (a2, (a3, (a4, ())))), (false, ())), x')) :
    Calls Try.prog 12 #[.pointer (some ⟨bf, 0, none⟩), .string ⟨⟨t⟩⟩, .string ⟨⟨c⟩⟩, .int .i64 now] w fun e w' => e = .returned (.int .i64 0) /\ BSt RtT w0 S0 ob0 bf w' x' [] := by
  suffices HX : ∀ R : Ending -> World -> Prop, Go.RowKit.Hid (∀ w', BSt RtT w0 S0 ob0 bf w' x' [] -> R (.returned (.int .i64 0)) w') -> Calls Try.prog 12 #[.pointer (some ⟨bf, 0, none⟩), .string ⟨⟨t⟩⟩, .string ⟨⟨c⟩⟩, .int .i64 now] w R from HX _ (Go.Lib.hid (fun w' h => ⟨rfl, h⟩))
  intro R HR
  have HM := z8h N h
  have HY := Go.Lib.hid hy
  clear h hy
  go_enter Try.func12, Try.ntmps12
  go_wp2_with (first
    | (go_at_call 21; refine HM.mono ?_; rintro r w1 ⟨rfl, hq⟩; obtain ⟨mb, c2⟩ := zlu hq; have HL := z8i N hq c2 HY.out; clear HM hq)
    | (go_at_call 22; refine HL.mono ?_; rintro r w2 ⟨rfl, rfl, hq, hm⟩; have HE := Go.Lib.hid (hq.alloc #[.int .i64 a1, .int .i64 a2, .int .i64 a3, .int .i64 a4] 54); clear HL hq hm))
  try go_ret
  exact HR.out _ (HE.out.swap (fun p hp => by cases hp))

set_option maxHeartbeats 4000000 in
theorem zsd (N : Nat) {w0 w : World} {S0 : Hp} {ob0 : List Nat} {bf : Nat} {cls : List ClassT.den} {start : Int} {t c : List UInt8} {now : Int}
    (h : BSt RtT w0 S0 ob0 bf w (cls, (start, (none, ()))) []) :
    Calls Try.prog 12 #[.pointer (some ⟨bf, 0, none⟩), .string ⟨⟨t⟩⟩, .string ⟨⟨c⟩⟩, .int .i64 now] w fun e w' => e = .returned (.int .i64 0) /\ BSt RtT w0 S0 ob0 bf w' (cls, (start, (none, ()))) [] := by
  suffices HX : ∀ R : Ending -> World -> Prop, Go.RowKit.Hid (∀ w', BSt RtT w0 S0 ob0 bf w' (cls, (start, (none, ()))) [] -> R (.returned (.int .i64 0)) w') -> Calls Try.prog 12 #[.pointer (some ⟨bf, 0, none⟩), .string ⟨⟨t⟩⟩, .string ⟨⟨c⟩⟩, .int .i64 now] w R from HX _ (Go.Lib.hid (fun w' h => ⟨rfl, h⟩))
  intro R HR
  have HM := z8h N h
  clear h
  go_enter Try.func12, Try.ntmps12
  go_wp2_with (go_at_call 21; refine HM.mono ?_; rintro r w1 ⟨rfl, hq⟩; have HE := Go.Lib.hid hq; clear HM hq)
  try go_ret
  exact HR.out _ HE.out

def z6d (N : Nat) (r : RtT.den) (t c : List UInt8) (now : Int) : Option (Int × (RtT.den × Unit)) := match r.2.2.1 with
  | none => some (0, (r, ()))
  | some _ => (z1m N r (t, (c, ()))).bind fun q => cond q.1.2.1 ((z3y N q.1.1 now).bind fun b => some (b.2.2.1, (q.2, ()))) (some (0, (q.2, ())))

def z6c (N : Nat) : List A -> Res := z1u [(0, .box RtT), (0, .v .str), (0, .v .str), (0, .v (.int .i64))] (fun x => z6d N x.1 x.2.1 x.2.2.1 x.2.2.2.1) (zpx (.v (.int .i64)) [(0, .box RtT)] 3)

theorem zse (N : Nat) {w0 w : World} {S0 : Hp} {ob0 : List Nat} {bf : Nat} {x x' : RtT.den} {t c : List UInt8} {now v : Int} (h : BSt RtT w0 S0 ob0 bf w x []) (hy : z6d N x t c now = some (v, (x', ()))) :
    Calls Try.prog 12 #[.pointer (some ⟨bf, 0, none⟩), .string ⟨⟨t⟩⟩, .string ⟨⟨c⟩⟩, .int .i64 now] w fun e w' => e = .returned (.int .i64 v) /\ BSt RtT w0 S0 ob0 bf w' x' [] := by
  obtain ⟨cls, start, m, ⟨⟩⟩ := x
  cases m with
  | none => cases hy; exact zsd N h
  | some xs =>
    replace hy : ((z1m N (cls, (start, (some xs, ()))) (t, (c, ()))).bind fun q => cond q.1.2.1 ((z3y N q.1.1 now).bind fun b => some (b.2.2.1, (q.2, ()))) (some (0, (q.2, ())))) = some (v, (x', ())) := hy
    cases hl : z1m N (cls, (start, (some xs, ()))) (t, (c, ())) with
    | none => rw [hl] at hy; cases hy
    | some q =>
      rw [hl, Option.bind_some] at hy
      obtain ⟨⟨⟨a1, a2, a3, a4, ⟨⟩⟩, ok, ⟨⟩⟩, x2⟩ := q
      cases ok with
      | false => cases hy; exact zwa N h hl
      | true =>
        simp only [cond_true] at hy
        cases hz : z3y N (a1, (a2, (a3, (a4, ())))) now with
        | none => rw [hz] at hy; cases hy
        | some b =>
          rw [hz] at hy
          obtain ⟨b1, b2, b3, b4, ⟨⟩⟩ := b
          cases hy
          exact zsc N h hl hz

theorem zte {w : World} {S : Hp} {x : RtT.den} {t c : List UInt8} {now : Int} {vals : List Value} {ob : Nat -> List Nat} (har : ArgsRel (hp w) S [.box RtT x, .v .str t, .v .str c, .v (.int .i64) now] vals ob) (hS : Lift.Sub S (hp w)) :
    ∃ bf, vals = [.pointer (some ⟨bf, 0, none⟩), .string ⟨⟨t⟩⟩, .string ⟨⟨c⟩⟩, .int .i64 now] /\ ob 0 ≠ [] /\ (∀ i, ob (i + 1) = []) /\ BSt RtT w S (ob 0) bf w x [] := by
  obtain ⟨bf, vs, rfl, hne, hB⟩ := BSt.start har hS
  have hl := har.len
  match vs, hl with
  | [v1, v2, v3], _ =>
    obtain ⟨⟨u1, e1, r1⟩, _⟩ := har.rel 1 _ rfl
    obtain ⟨⟨u2, e2, r2⟩, _⟩ := har.rel 2 _ rfl
    obtain ⟨⟨u3, e3, r3⟩, _⟩ := har.rel 3 _ rfl
    cases e1; cases e2; cases e3
    refine ⟨bf, ?_, hne, fun i => ?_, hB⟩
    . rw [VR.str_inv r1.1, VR.str_inv r2.1, VR.int_inv r3.1]
    . match i with
      | 0 => exact r1.2
      | 1 => exact r2.2
      | 2 => exact r3.2
      | i + 3 => exact har.out _ (by simp)

theorem zd1 (N : Nat) : Contract Try.prog zk 12 (z6c N) := by
  refine Contract.hand ⟨_, Try.func12, by kernel_rfl, by decide⟩ ?_
  rintro w S vals ob ⟨x, t, c, now, ⟨⟩⟩ ⟨v, x', ⟨⟩⟩ har hS hg hy
  obtain ⟨bf, rfl, hne, hob, hB⟩ := zte har hS
  refine (zse N hB hy).mono ?_
  rintro e w' ⟨rfl, h'⟩
  exact h'.ends hob hne (by intro y hy; have hy : y ∈ [A.v .str t, A.v .str c, A.v (.int .i64) now] := hy; simp at hy; rcases hy with rfl | rfl | rfl <;> rfl) (fun S' => ⟨VR.int, rfl⟩) rfl

theorem zux (N : Nat) {w0 w : World} {S0 : Hp} {ob0 : List Nat} {bf : Nat} {L : List (Nat × Array Value × Nat)} {cls : List ClassT.den} {start : Int} {xs : List (OwT.den × BkT.den)} {mb : Nat} (t c : List UInt8) (b1 b2 b3 b4 : Int)
    (h : BSt RtT w0 S0 ob0 bf w (cls, (start, (some xs, ()))) L) (hc : w.cell? ⟨bf, 2, none⟩ = some (.map (some mb))) :
    ∃ w', (Instr.mapUpdate 46 (.map (some mb)) (.agg #[.string ⟨⟨t⟩⟩, .string ⟨⟨c⟩⟩]) (.agg #[.int .i64 b1, .int .i64 b2, .int .i64 b3, .int .i64 b4])).run Try.prog w = .ok () w' /\ BSt RtT w0 S0 ob0 bf w' (cls, (start, (some (zi6 (eqD OwT) (t, (c, ())) (b1, (b2, (b3, (b4, ())))) xs), ()))) L /\ w'.cell? ⟨bf, 2, none⟩ = some (.map (some mb)) := by
  obtain ⟨S, o, h1, h2, h3, h4, h5, h6, h7, hL⟩ := h
  obtain ⟨b, sv, mv, E, fr, p1, p2, rfl, e, hb, hf, hrow, hmp⟩ := zoh h5
  cases e
  have hb' : w.heap[bf]? = _ := hb
  have hmv : mv = .map (some mb) := by simpa [World.cell?, hb'] using hc
  subst hmv
  rcases hmp with ⟨e, _⟩ | ⟨xs', mb', es, cl, e, e1, e2, e3, e4, e5, e6⟩
  . cases e
  . cases e; cases e2
    subst e1
    obtain ⟨es', cl', hrun, g1, g2, g3⟩ := zn9 (zao N) (S := S) (t := 46) (ki := 58) (ke := ty58) (ve := ty54) (by kernel_rfl) (zrr S t c) (ztc S b1 b2 b3 b4) e3 e4 e5 e6
    refine ⟨_, hrun, ?_, ?_⟩
    rotate_left
    . have hbm : bf ≠ mb := by
        rw [List.nodup_cons] at h6
        exact fun e => h6.1 (by simp [e])
      have := zd (w := w) (o := .map es' cl') hbm
      have hb2 : (zq w mb (.map es' cl')).heap[bf]? = w.heap[bf]? := this
      simp [World.cell?, hb2, hb']
    have hne : ∀ k, k ≠ mb -> (zq w mb (.map es' cl')).heap[k]? = w.heap[k]? := fun k hk => zd (w := w) (o := .map es' cl') hk
    have hsz : (zq w mb (.map es' cl')).heap.size = w.heap.size := by simp [zq]
    have hnd : bf ≠ mb /\ mb ∉ p1 := by
      have h6' := h6
      rw [List.nodup_cons] at h6'
      refine ⟨fun e => h6'.1 (by simp [e]), fun hm => ?_⟩
      have := (List.nodup_append.1 h6'.2).2.2 mb hm mb (by simp)
      exact this rfl
    refine zt8 h1 h2 h4 h7 hL (S' := S) (o' := bf :: (p1 ++ [mb])) ⟨Nat.le_of_eq hsz.symm, fun k hk hn => hne k (fun e => hn (by simp [e])), rfl, rfl, rfl⟩ (Lift.Sub.refl S) (fun k q hq => ?_) (fun k hk => .inl hk) ?_ h6 (fun k hk => ⟨(h7 k hk).1, .inl hk⟩)
    . have := h3 k q hq
      simp only [hp] at this ⊢
      rw [hne k (fun e => ?_)]
      . exact this
      . subst e
        rw [(h7 k (by simp)).1] at hq
        cases hq
    . refine zwy (b := bf) (sv := sv) (mv := .map (some mb)) (E := E) (fr := fr) ?_ hf (hrow.mono (Lift.Sub.refl S) (fun k hk => hne k (fun e => hnd.2 (e ▸ hk)))) (.inr ⟨_, mb, es', cl', rfl, rfl, rfl, z1c e3, g1, g2, g3⟩)
      show (zq w mb (.map es' cl')).heap[bf]? = _
      rw [hne bf hnd.1]; exact hb'

theorem sK {w0 w : World} {S0 : Hp} {ob0 : List Nat} {bf n p E F mb : Nat} {x : RtT.den} {t c : Value} {zs : Array Value} (h : BSt RtT w0 S0 ob0 bf w x [(p, zs, E), (n, #[t, c], F)]) (hm : w.cell? ⟨bf, 2, none⟩ = some (.map (some mb))) :
    BSt RtT w0 S0 ob0 bf w x [(n, #[t, c], F)] /\ w.cell? ⟨n, 0, none⟩ = some t /\ w.cell? ⟨n, 1, none⟩ = some c /\ w.cell? ⟨bf, 2, none⟩ = some (.map (some mb)) :=
  ⟨h.swap (fun p hp => by simp at hp; simp [hp]), h.cell (p := n) (cs := #[t, c]) (E := F) (by simp) rfl, h.cell (p := n) (cs := #[t, c]) (E := F) (by simp) rfl, hm⟩

theorem s4b {w0 w : World} {S0 : Hp} {ob0 : List Nat} {bf n p E F : Nat} {x : RtT.den} {t c : Value} {zs : Array Value} (h : BSt RtT w0 S0 ob0 bf w x [(p, zs, E), (n, #[t, c], F)]) (hn : n ≠ p) (a b d e : Value) :
    BSt RtT w0 S0 ob0 bf ((((w.setCell ⟨p, 0, none⟩ a).setCell ⟨p, 1, none⟩ b).setCell ⟨p, 2, none⟩ d).setCell ⟨p, 3, none⟩ e) x [(p, (((zs.setIfInBounds 0 a).setIfInBounds 1 b).setIfInBounds 2 d).setIfInBounds 3 e, E), (n, #[t, c], F)] := by
  have hd : ∀ q ∈ [(n, #[t, c], F)], q.1 ≠ p := fun q hq => by rw [List.mem_singleton.1 hq]; exact hn
  exact (((h.setCell hd 0 a).setCell hd 1 b).setCell hd 2 d).setCell hd 3 e

theorem s4 {w0 w : World} {S0 : Hp} {ob0 : List Nat} {bf n p E F mb : Nat} {x : RtT.den} {t c : Value} {zs : Array Value} (h : BSt RtT w0 S0 ob0 bf w x [(p, zs, E), (n, #[t, c], F)]) (hm : w.cell? ⟨bf, 2, none⟩ = some (.map (some mb))) (hn : n ≠ p) (hb : bf ≠ p) (a b d e : Value) :
    BSt RtT w0 S0 ob0 bf ((((w.setCell ⟨p, 0, none⟩ a).setCell ⟨p, 1, none⟩ b).setCell ⟨p, 2, none⟩ d).setCell ⟨p, 3, none⟩ e) x [(n, #[t, c], F)] /\ ((((w.setCell ⟨p, 0, none⟩ a).setCell ⟨p, 1, none⟩ b).setCell ⟨p, 2, none⟩ d).setCell ⟨p, 3, none⟩ e).cell? ⟨n, 0, none⟩ = some t /\ ((((w.setCell ⟨p, 0, none⟩ a).setCell ⟨p, 1, none⟩ b).setCell ⟨p, 2, none⟩ d).setCell ⟨p, 3, none⟩ e).cell? ⟨n, 1, none⟩ = some c /\ ((((w.setCell ⟨p, 0, none⟩ a).setCell ⟨p, 1, none⟩ b).setCell ⟨p, 2, none⟩ d).setCell ⟨p, 3, none⟩ e).cell? ⟨bf, 2, none⟩ = some (.map (some mb)) :=
  sK (s4b h hn a b d e) (by rw [z1o hb, z1o hb, z1o hb, z1o hb]; exact hm)

theorem sC {w0 w : World} {S0 : Hp} {ob0 : List Nat} {bf n p5 E F mb' : Nat} {x : RtT.den} {t c : List UInt8} {b1 b2 b3 b4 : Int} (h : BSt RtT w0 S0 ob0 bf w x [(p5, #[.int .i64 b1, .int .i64 b2, .int .i64 b3, .int .i64 b4], E), (n, #[.string ⟨⟨t⟩⟩, .string ⟨⟨c⟩⟩], F)]) (hm : w.cell? ⟨bf, 2, none⟩ = some (.map (some mb'))) :
    World.cell? w ⟨n, 0, none⟩ = some (.string ⟨⟨t⟩⟩) /\ World.cell? w ⟨n, 1, none⟩ = some (.string ⟨⟨c⟩⟩) /\ World.cell? w ⟨bf, 2, none⟩ = some (.map (some mb')) /\ World.cell? w ⟨p5, 0, none⟩ = some (.int .i64 b1) /\ World.cell? w ⟨p5, 1, none⟩ = some (.int .i64 b2) /\ World.cell? w ⟨p5, 2, none⟩ = some (.int .i64 b3) /\ World.cell? w ⟨p5, 3, none⟩ = some (.int .i64 b4) :=
  ⟨h.cell (p := n) (cs := #[.string ⟨⟨t⟩⟩, .string ⟨⟨c⟩⟩]) (E := F) (by simp) rfl, h.cell (p := n) (cs := #[.string ⟨⟨t⟩⟩, .string ⟨⟨c⟩⟩]) (E := F) (by simp) rfl, hm, h.cell (List.mem_cons_self ..) rfl, h.cell (List.mem_cons_self ..) rfl, h.cell (List.mem_cons_self ..) rfl, h.cell (List.mem_cons_self ..) rfl⟩

attribute [local irreducible] BSt in
set_option maxHeartbeats 4000000 in
theorem zr2 (N : Nat) {w0 w : World} {S0 : Hp} {ob0 : List Nat} {bf : Nat} {cls : List ClassT.den} {start : Int} {xs : List (OwT.den × BkT.den)} {t c : List UInt8} {now : Int} {a1 a2 a3 a4 b1 b2 b3 b4 : Int} {ok : Bool}
    (h : BSt RtT w0 S0 ob0 bf w (cls, (start, (some xs, ()))) [])
    (hy : z1m N (cls, (start, (some xs, ()))) (t, (c, ())) = some (((a1, (a2, (a3, (a4, ())))), (true, ())), (cls, (start, (some xs, ()))))) (hz : z2n N (a1, (a2, (a3, (a4, ())))) now = some ((b1, (b2, (b3, (b4, ())))), (ok, ()))) :
    Calls Try.prog 15 #[.pointer (some ⟨bf, 0, none⟩), .string ⟨⟨t⟩⟩, .string ⟨⟨c⟩⟩, .int .i64 now] w fun e w' => e = .returned (.int .i64 (if ok then 0 else 17)) /\ BSt RtT w0 S0 ob0 bf w' (cls, (start, (some (zi6 (eqD OwT) (t, (c, ())) (b1, (b2, (b3, (b4, ())))) xs), ()))) [] := by
  suffices HX : ∀ R : Ending -> World -> Prop, Go.RowKit.Hid (∀ w', BSt RtT w0 S0 ob0 bf w' (cls, (start, (some (zi6 (eqD OwT) (t, (c, ())) (b1, (b2, (b3, (b4, ())))) xs), ()))) [] -> R (.returned (.int .i64 (if ok then 0 else 17))) w') -> Calls Try.prog 15 #[.pointer (some ⟨bf, 0, none⟩), .string ⟨⟨t⟩⟩, .string ⟨⟨c⟩⟩, .int .i64 now] w R from HX _ (Go.Lib.hid (fun w' h => ⟨rfl, h⟩))
  intro R HR
  have HM := z8h N h
  have HY := Go.Lib.hid hy
  have HZ := Go.Lib.hid hz
  clear h hy hz
  go_enter Try.func15, Try.ntmps15
  go_wp2_with (go_at_call 21; refine HM.mono ?_; rintro r w1 ⟨rfl, hq⟩; obtain ⟨mb, c2⟩ := zlu hq; have HB := Go.Lib.hid hq; clear HM hq)
  obtain ⟨W, hW⟩ : ∃ W, W = w1.alloc (.cells #[.string ⟨⟨t⟩⟩, .string ⟨⟨c⟩⟩] 58) := ⟨_, rfl⟩
  have y0 := HB.out.alloc #[.string ⟨⟨t⟩⟩, .string ⟨⟨c⟩⟩] 58
  have m2 := z28 (cs := #[.string ⟨⟨t⟩⟩, .string ⟨⟨c⟩⟩]) (E := 58) c2
  have o0 := zl6 (w := w1) (cs := #[.string ⟨⟨t⟩⟩, .string ⟨⟨c⟩⟩]) (E := 58) (i := 0) (v := .string ⟨⟨t⟩⟩) rfl
  have o1 := zl6 (w := w1) (cs := #[.string ⟨⟨t⟩⟩, .string ⟨⟨c⟩⟩]) (E := 58) (i := 1) (v := .string ⟨⟨c⟩⟩) rfl
  rw [<- hW] at y0 m2 o0 o1 ⊢
  obtain ⟨n, hn⟩ : ∃ n, n = w1.heap.size := ⟨_, rfl⟩
  rw [<- hn] at y0 o0 o1 ⊢
  have np : n ≠ W.heap.size := Nat.ne_of_lt (zdr o0)
  have bp : bf ≠ W.heap.size := Nat.ne_of_lt (zdr m2)
  clear hW hn c2 HB
  have hS0 : BSt RtT w0 S0 ob0 bf W (cls, (start, (some xs, ()))) [(n, #[.string ⟨⟨t⟩⟩, .string ⟨⟨c⟩⟩], 58)] /\ World.cell? W ⟨n, 0, none⟩ = some (.string ⟨⟨t⟩⟩) /\ World.cell? W ⟨n, 1, none⟩ = some (.string ⟨⟨c⟩⟩) /\ World.cell? W ⟨bf, 2, none⟩ = some (.map (some mb)) := ⟨y0, o0, o1, m2⟩
  have hSD : BSt RtT w0 S0 ob0 bf W.drew (cls, (start, (some xs, ()))) [(n, #[.string ⟨⟨t⟩⟩, .string ⟨⟨c⟩⟩], 58)] /\ World.cell? W.drew ⟨n, 0, none⟩ = some (.string ⟨⟨t⟩⟩) /\ World.cell? W.drew ⟨n, 1, none⟩ = some (.string ⟨⟨c⟩⟩) /\ World.cell? W.drew ⟨bf, 2, none⟩ = some (.map (some mb)) := ⟨y0.drew, o0, o1, m2⟩
  have yA := (y0.alloc #[.int .i64 0, .int .i64 0, .int .i64 0, .int .i64 0] 54).drew
  have mA : (W.alloc (.cells #[.int .i64 0, .int .i64 0, .int .i64 0, .int .i64 0] 54)).drew.cell? ⟨bf, 2, none⟩ = some (.map (some mb)) := z28 m2
  have hSA : BSt RtT w0 S0 ob0 bf (W.alloc (.cells #[.int .i64 0, .int .i64 0, .int .i64 0, .int .i64 0] 54)).drew (cls, (start, (some xs, ()))) [(n, #[.string ⟨⟨t⟩⟩, .string ⟨⟨c⟩⟩], 58)] /\ World.cell? (W.alloc (.cells #[.int .i64 0, .int .i64 0, .int .i64 0, .int .i64 0] 54)).drew ⟨n, 0, none⟩ = some (.string ⟨⟨t⟩⟩) /\ World.cell? (W.alloc (.cells #[.int .i64 0, .int .i64 0, .int .i64 0, .int .i64 0] 54)).drew ⟨n, 1, none⟩ = some (.string ⟨⟨c⟩⟩) /\ World.cell? (W.alloc (.cells #[.int .i64 0, .int .i64 0, .int .i64 0, .int .i64 0] 54)).drew ⟨bf, 2, none⟩ = some (.map (some mb)) := sK yA mA
  have hL1 := z8i N y0.drew m2 HY.out
  have hL2 := z8i N yA mA HY.out
  clear y0 m2 yA mA
  go_region_held3 (fun w' => BSt RtT w0 S0 ob0 bf w' (cls, (start, (some xs, ()))) [(n, #[.string ⟨⟨t⟩⟩, .string ⟨⟨c⟩⟩], 58)] /\ World.cell? w' ⟨n, 0, none⟩ = some (.string ⟨⟨t⟩⟩) /\ World.cell? w' ⟨n, 1, none⟩ = some (.string ⟨⟨c⟩⟩) /\ World.cell? w' ⟨bf, 2, none⟩ = some (.map (some mb)))
    (first
      | assumption
      | exact hSB _ _)
    (first
      | (go_at_call 22; refine hL1.mono ?_; rintro r w2 ⟨rfl, _, hq, hm⟩; have hSW : BSt RtT w0 S0 ob0 bf w2 (cls, (start, (some xs, ()))) [(n, #[.string ⟨⟨t⟩⟩, .string ⟨⟨c⟩⟩], 58)] /\ World.cell? w2 ⟨n, 0, none⟩ = some (.string ⟨⟨t⟩⟩) /\ World.cell? w2 ⟨n, 1, none⟩ = some (.string ⟨⟨c⟩⟩) /\ World.cell? w2 ⟨bf, 2, none⟩ = some (.map (some mb)) := ⟨hq, hq.cell (List.mem_cons_self ..) rfl, hq.cell (List.mem_cons_self ..) rfl, hm⟩; have hSB : ∀ (cs : Array Value) (E : Nat), BSt RtT w0 S0 ob0 bf (w2.alloc (.cells cs E)) (cls, (start, (some xs, ()))) [(n, #[.string ⟨⟨t⟩⟩, .string ⟨⟨c⟩⟩], 58)] /\ World.cell? (w2.alloc (.cells cs E)) ⟨n, 0, none⟩ = some (.string ⟨⟨t⟩⟩) /\ World.cell? (w2.alloc (.cells cs E)) ⟨n, 1, none⟩ = some (.string ⟨⟨c⟩⟩) /\ World.cell? (w2.alloc (.cells cs E)) ⟨bf, 2, none⟩ = some (.map (some mb)) := fun cs E => ⟨(hq.alloc cs E).swap (fun p hp => by simp at hp; simp [hp]), z28 hSW.2.1, z28 hSW.2.2.1, z28 hm⟩; clear hq hm hL1 hL2)
      | (go_at_call 22; refine hL2.mono ?_; rintro r w2 ⟨rfl, _, hq, hm⟩; have hSW : BSt RtT w0 S0 ob0 bf w2 (cls, (start, (some xs, ()))) [(n, #[.string ⟨⟨t⟩⟩, .string ⟨⟨c⟩⟩], 58)] /\ World.cell? w2 ⟨n, 0, none⟩ = some (.string ⟨⟨t⟩⟩) /\ World.cell? w2 ⟨n, 1, none⟩ = some (.string ⟨⟨c⟩⟩) /\ World.cell? w2 ⟨bf, 2, none⟩ = some (.map (some mb)) := sK hq hm; have hST := s4 hq hm np bp (.int .i64 a1) (.int .i64 a2) (.int .i64 a3) (.int .i64 a4); have q0 := hq.cell (List.mem_cons_self ..) (i := 0) rfl; have q1 := hq.cell (List.mem_cons_self ..) (i := 1) rfl; have q2 := hq.cell (List.mem_cons_self ..) (i := 2) rfl; have q3 := hq.cell (List.mem_cons_self ..) (i := 3) rfl; have f0 := hq.free (List.mem_cons_self ..) (i := 0); have f1 := hq.free (List.mem_cons_self ..) (i := 1); have f2 := hq.free (List.mem_cons_self ..) (i := 2); have f3 := hq.free (List.mem_cons_self ..) (i := 3); clear hm hL1 hL2))
  all_goals (first
    | (have U := hSB #[.int .i64 a1, .int .i64 a2, .int .i64 a3, .int .i64 a4] 54; have u0 := zl6 (w := w2) (cs := #[.int .i64 a1, .int .i64 a2, .int .i64 a3, .int .i64 a4]) (E := 54) (i := 0) (v := .int .i64 a1) rfl; have u1 := zl6 (w := w2) (cs := #[.int .i64 a1, .int .i64 a2, .int .i64 a3, .int .i64 a4]) (E := 54) (i := 1) (v := .int .i64 a2) rfl; have u2 := zl6 (w := w2) (cs := #[.int .i64 a1, .int .i64 a2, .int .i64 a3, .int .i64 a4]) (E := 54) (i := 2) (v := .int .i64 a3) rfl; have u3 := zl6 (w := w2) (cs := #[.int .i64 a1, .int .i64 a2, .int .i64 a3, .int .i64 a4]) (E := 54) (i := 3) (v := .int .i64 a4) rfl; generalize (w2.alloc (.cells #[.int .i64 a1, .int .i64 a2, .int .i64 a3, .int .i64 a4] 54)) = w3 at U u0 u1 u2 u3 ⊢; generalize w2.heap.size = p at u0 u1 u2 u3 ⊢; clear hSB hSW)
    | (have U := hST; have Y := s4b hq np (.int .i64 a1) (.int .i64 a2) (.int .i64 a3) (.int .i64 a4); have u0 := Y.cell (List.mem_cons_self ..) (i := 0) (v := .int .i64 a1) rfl; have u1 := Y.cell (List.mem_cons_self ..) (i := 1) (v := .int .i64 a2) rfl; have u2 := Y.cell (List.mem_cons_self ..) (i := 2) (v := .int .i64 a3) rfl; have u3 := Y.cell (List.mem_cons_self ..) (i := 3) (v := .int .i64 a4) rfl; generalize ((((w2.setCell ⟨W.heap.size, 0, none⟩ (.int .i64 a1)).setCell ⟨W.heap.size, 1, none⟩ (.int .i64 a2)).setCell ⟨W.heap.size, 2, none⟩ (.int .i64 a3)).setCell ⟨W.heap.size, 3, none⟩ (.int .i64 a4)) = w3 at U u0 u1 u2 u3 ⊢; generalize W.heap.size = p at u0 u1 u2 u3 ⊢; clear Y hST q0 q1 q2 q3 f0 f1 f2 f3 hq hSW))
  all_goals have HT := zqn N U.1 HZ.out
  all_goals clear U hS0 hSD hSA o0 o1 np bp
  all_goals go_wp2_with (go_at_call 26; refine HT.mono ?_; rintro r w4 ⟨rfl, hq⟩; have HQ := Go.Lib.hid hq; clear HT hq u0 u1 u2 u3)
  all_goals have y5 := HQ.out.alloc #[.int .i64 b1, .int .i64 b2, .int .i64 b3, .int .i64 b4] 54
  all_goals generalize w4.alloc (.cells #[.int .i64 b1, .int .i64 b2, .int .i64 b3, .int .i64 b4] 54) = W5 at y5 ⊢
  all_goals generalize w4.heap.size = p5 at y5 ⊢
  all_goals clear HQ
  all_goals obtain ⟨mb', m5⟩ := zlu y5
  all_goals obtain ⟨w6, r6, g6, k6⟩ := zux N t c b1 b2 b3 b4 y5 m5
  all_goals obtain ⟨w7, r7, g7, k7⟩ := zux (w := W5.drew) N t c b1 b2 b3 b4 y5.drew m5
  all_goals have hC5 : World.cell? W5 ⟨n, 0, none⟩ = some (.string ⟨⟨t⟩⟩) /\ World.cell? W5 ⟨n, 1, none⟩ = some (.string ⟨⟨c⟩⟩) /\ World.cell? W5 ⟨bf, 2, none⟩ = some (.map (some mb')) /\ World.cell? W5 ⟨p5, 0, none⟩ = some (.int .i64 b1) /\ World.cell? W5 ⟨p5, 1, none⟩ = some (.int .i64 b2) /\ World.cell? W5 ⟨p5, 2, none⟩ = some (.int .i64 b3) /\ World.cell? W5 ⟨p5, 3, none⟩ = some (.int .i64 b4) := sC y5 m5
  all_goals have hC5d : World.cell? W5.drew ⟨n, 0, none⟩ = some (.string ⟨⟨t⟩⟩) /\ World.cell? W5.drew ⟨n, 1, none⟩ = some (.string ⟨⟨c⟩⟩) /\ World.cell? W5.drew ⟨bf, 2, none⟩ = some (.map (some mb')) /\ World.cell? W5.drew ⟨p5, 0, none⟩ = some (.int .i64 b1) /\ World.cell? W5.drew ⟨p5, 1, none⟩ = some (.int .i64 b2) /\ World.cell? W5.drew ⟨p5, 2, none⟩ = some (.int .i64 b3) /\ World.cell? W5.drew ⟨p5, 3, none⟩ = some (.int .i64 b4) := sC y5.drew m5
  all_goals have hC6 : World.cell? w6 ⟨n, 0, none⟩ = some (.string ⟨⟨t⟩⟩) /\ World.cell? w6 ⟨n, 1, none⟩ = some (.string ⟨⟨c⟩⟩) /\ World.cell? w6 ⟨bf, 2, none⟩ = some (.map (some mb')) /\ World.cell? w6 ⟨p5, 0, none⟩ = some (.int .i64 b1) /\ World.cell? w6 ⟨p5, 1, none⟩ = some (.int .i64 b2) /\ World.cell? w6 ⟨p5, 2, none⟩ = some (.int .i64 b3) /\ World.cell? w6 ⟨p5, 3, none⟩ = some (.int .i64 b4) := sC g6 k6
  all_goals have hC7 : World.cell? w7 ⟨n, 0, none⟩ = some (.string ⟨⟨t⟩⟩) /\ World.cell? w7 ⟨n, 1, none⟩ = some (.string ⟨⟨c⟩⟩) /\ World.cell? w7 ⟨bf, 2, none⟩ = some (.map (some mb')) /\ World.cell? w7 ⟨p5, 0, none⟩ = some (.int .i64 b1) /\ World.cell? w7 ⟨p5, 1, none⟩ = some (.int .i64 b2) /\ World.cell? w7 ⟨p5, 2, none⟩ = some (.int .i64 b3) /\ World.cell? w7 ⟨p5, 3, none⟩ = some (.int .i64 b4) := sC g7 k7
  all_goals have G6 := Go.Lib.hid g6
  all_goals have G7 := Go.Lib.hid g7
  all_goals clear g6 g7 k6 k7 m5 y5
  all_goals go_region_held3 (fun w' => World.cell? w' ⟨n, 0, none⟩ = some (.string ⟨⟨t⟩⟩) /\ World.cell? w' ⟨n, 1, none⟩ = some (.string ⟨⟨c⟩⟩) /\ World.cell? w' ⟨bf, 2, none⟩ = some (.map (some mb')) /\ World.cell? w' ⟨p5, 0, none⟩ = some (.int .i64 b1) /\ World.cell? w' ⟨p5, 1, none⟩ = some (.int .i64 b2) /\ World.cell? w' ⟨p5, 2, none⟩ = some (.int .i64 b3) /\ World.cell? w' ⟨p5, 3, none⟩ = some (.int .i64 b4)) (assumption) (fail)
  all_goals cases ok
  all_goals go_wp2
  all_goals (first
    | exact HR.out _ (G6.out.swap (fun p hp => by cases hp))
    | exact HR.out _ (G7.out.swap (fun p hp => by cases hp)))

attribute [local irreducible] BSt in
set_option maxHeartbeats 4000000 in
theorem zvw (N : Nat) {w0 w : World} {S0 : Hp} {ob0 : List Nat} {bf : Nat} {cls : List ClassT.den} {start : Int} {xs : List (OwT.den × BkT.den)} {t c : List UInt8} {now : Int} {a1 a2 a3 a4 : Int}
    (h : BSt RtT w0 S0 ob0 bf w (cls, (start, (some xs, ()))) [])
    (hy : z1m N (cls, (start, (some xs, ()))) (t, (c, ())) = some (((a1, (a2, (a3, (a4, ())))), (false, ())), (cls, (start, (some xs, ()))))) :
    Calls Try.prog 15 #[.pointer (some ⟨bf, 0, none⟩), .string ⟨⟨t⟩⟩, .string ⟨⟨c⟩⟩, .int .i64 now] w fun e w' => e = .returned (.int .i64 6) /\ BSt RtT w0 S0 ob0 bf w' (cls, (start, (some xs, ()))) [] := by
  suffices HX : ∀ R : Ending -> World -> Prop, Go.RowKit.Hid (∀ w', BSt RtT w0 S0 ob0 bf w' (cls, (start, (some xs, ()))) [] -> R (.returned (.int .i64 6)) w') -> Calls Try.prog 15 #[.pointer (some ⟨bf, 0, none⟩), .string ⟨⟨t⟩⟩, .string ⟨⟨c⟩⟩, .int .i64 now] w R from HX _ (Go.Lib.hid (fun w' h => ⟨rfl, h⟩))
  intro R HR
  have HM := z8h N h
  have HY := Go.Lib.hid hy
  clear h hy
  go_enter Try.func15, Try.ntmps15
  go_wp2_with (go_at_call 21; refine HM.mono ?_; rintro r w1 ⟨rfl, hq⟩; obtain ⟨mb, c2⟩ := zlu hq; have HB := Go.Lib.hid hq; clear HM hq)
  obtain ⟨W, hW⟩ : ∃ W, W = w1.alloc (.cells #[.string ⟨⟨t⟩⟩, .string ⟨⟨c⟩⟩] 58) := ⟨_, rfl⟩
  have y0 := HB.out.alloc #[.string ⟨⟨t⟩⟩, .string ⟨⟨c⟩⟩] 58
  have m2 := z28 (cs := #[.string ⟨⟨t⟩⟩, .string ⟨⟨c⟩⟩]) (E := 58) c2
  have o0 := zl6 (w := w1) (cs := #[.string ⟨⟨t⟩⟩, .string ⟨⟨c⟩⟩]) (E := 58) (i := 0) (v := .string ⟨⟨t⟩⟩) rfl
  have o1 := zl6 (w := w1) (cs := #[.string ⟨⟨t⟩⟩, .string ⟨⟨c⟩⟩]) (E := 58) (i := 1) (v := .string ⟨⟨c⟩⟩) rfl
  rw [<- hW] at y0 m2 o0 o1 ⊢
  obtain ⟨n, hn⟩ : ∃ n, n = w1.heap.size := ⟨_, rfl⟩
  rw [<- hn] at y0 o0 o1 ⊢
  have np : n ≠ W.heap.size := Nat.ne_of_lt (zdr o0)
  have bp : bf ≠ W.heap.size := Nat.ne_of_lt (zdr m2)
  clear hW hn c2 HB
  have hS0 : BSt RtT w0 S0 ob0 bf W (cls, (start, (some xs, ()))) [(n, #[.string ⟨⟨t⟩⟩, .string ⟨⟨c⟩⟩], 58)] /\ World.cell? W ⟨n, 0, none⟩ = some (.string ⟨⟨t⟩⟩) /\ World.cell? W ⟨n, 1, none⟩ = some (.string ⟨⟨c⟩⟩) /\ World.cell? W ⟨bf, 2, none⟩ = some (.map (some mb)) := ⟨y0, o0, o1, m2⟩
  have hSD : BSt RtT w0 S0 ob0 bf W.drew (cls, (start, (some xs, ()))) [(n, #[.string ⟨⟨t⟩⟩, .string ⟨⟨c⟩⟩], 58)] /\ World.cell? W.drew ⟨n, 0, none⟩ = some (.string ⟨⟨t⟩⟩) /\ World.cell? W.drew ⟨n, 1, none⟩ = some (.string ⟨⟨c⟩⟩) /\ World.cell? W.drew ⟨bf, 2, none⟩ = some (.map (some mb)) := ⟨y0.drew, o0, o1, m2⟩
  have yA := (y0.alloc #[.int .i64 0, .int .i64 0, .int .i64 0, .int .i64 0] 54).drew
  have mA : (W.alloc (.cells #[.int .i64 0, .int .i64 0, .int .i64 0, .int .i64 0] 54)).drew.cell? ⟨bf, 2, none⟩ = some (.map (some mb)) := z28 m2
  have hSA : BSt RtT w0 S0 ob0 bf (W.alloc (.cells #[.int .i64 0, .int .i64 0, .int .i64 0, .int .i64 0] 54)).drew (cls, (start, (some xs, ()))) [(n, #[.string ⟨⟨t⟩⟩, .string ⟨⟨c⟩⟩], 58)] /\ World.cell? (W.alloc (.cells #[.int .i64 0, .int .i64 0, .int .i64 0, .int .i64 0] 54)).drew ⟨n, 0, none⟩ = some (.string ⟨⟨t⟩⟩) /\ World.cell? (W.alloc (.cells #[.int .i64 0, .int .i64 0, .int .i64 0, .int .i64 0] 54)).drew ⟨n, 1, none⟩ = some (.string ⟨⟨c⟩⟩) /\ World.cell? (W.alloc (.cells #[.int .i64 0, .int .i64 0, .int .i64 0, .int .i64 0] 54)).drew ⟨bf, 2, none⟩ = some (.map (some mb)) := sK yA mA
  have hL1 := z8i N y0.drew m2 HY.out
  have hL2 := z8i N yA mA HY.out
  clear y0 m2 yA mA
  go_region_held3 (fun w' => BSt RtT w0 S0 ob0 bf w' (cls, (start, (some xs, ()))) [(n, #[.string ⟨⟨t⟩⟩, .string ⟨⟨c⟩⟩], 58)] /\ World.cell? w' ⟨n, 0, none⟩ = some (.string ⟨⟨t⟩⟩) /\ World.cell? w' ⟨n, 1, none⟩ = some (.string ⟨⟨c⟩⟩) /\ World.cell? w' ⟨bf, 2, none⟩ = some (.map (some mb)))
    (first
      | assumption
      | exact hSB _ _)
    (first
      | (go_at_call 22; refine hL1.mono ?_; rintro r w2 ⟨rfl, _, hq, hm⟩; have hSW : BSt RtT w0 S0 ob0 bf w2 (cls, (start, (some xs, ()))) [(n, #[.string ⟨⟨t⟩⟩, .string ⟨⟨c⟩⟩], 58)] /\ World.cell? w2 ⟨n, 0, none⟩ = some (.string ⟨⟨t⟩⟩) /\ World.cell? w2 ⟨n, 1, none⟩ = some (.string ⟨⟨c⟩⟩) /\ World.cell? w2 ⟨bf, 2, none⟩ = some (.map (some mb)) := ⟨hq, hq.cell (List.mem_cons_self ..) rfl, hq.cell (List.mem_cons_self ..) rfl, hm⟩; have hSB : ∀ (cs : Array Value) (E : Nat), BSt RtT w0 S0 ob0 bf (w2.alloc (.cells cs E)) (cls, (start, (some xs, ()))) [(n, #[.string ⟨⟨t⟩⟩, .string ⟨⟨c⟩⟩], 58)] /\ World.cell? (w2.alloc (.cells cs E)) ⟨n, 0, none⟩ = some (.string ⟨⟨t⟩⟩) /\ World.cell? (w2.alloc (.cells cs E)) ⟨n, 1, none⟩ = some (.string ⟨⟨c⟩⟩) /\ World.cell? (w2.alloc (.cells cs E)) ⟨bf, 2, none⟩ = some (.map (some mb)) := fun cs E => ⟨(hq.alloc cs E).swap (fun p hp => by simp at hp; simp [hp]), z28 hSW.2.1, z28 hSW.2.2.1, z28 hm⟩; clear hq hm hL1 hL2)
      | (go_at_call 22; refine hL2.mono ?_; rintro r w2 ⟨rfl, _, hq, hm⟩; have hSW : BSt RtT w0 S0 ob0 bf w2 (cls, (start, (some xs, ()))) [(n, #[.string ⟨⟨t⟩⟩, .string ⟨⟨c⟩⟩], 58)] /\ World.cell? w2 ⟨n, 0, none⟩ = some (.string ⟨⟨t⟩⟩) /\ World.cell? w2 ⟨n, 1, none⟩ = some (.string ⟨⟨c⟩⟩) /\ World.cell? w2 ⟨bf, 2, none⟩ = some (.map (some mb)) := sK hq hm; have hST := s4 hq hm np bp (.int .i64 a1) (.int .i64 a2) (.int .i64 a3) (.int .i64 a4); have q0 := hq.cell (List.mem_cons_self ..) (i := 0) rfl; have q1 := hq.cell (List.mem_cons_self ..) (i := 1) rfl; have q2 := hq.cell (List.mem_cons_self ..) (i := 2) rfl; have q3 := hq.cell (List.mem_cons_self ..) (i := 3) rfl; have f0 := hq.free (List.mem_cons_self ..) (i := 0); have f1 := hq.free (List.mem_cons_self ..) (i := 1); have f2 := hq.free (List.mem_cons_self ..) (i := 2); have f3 := hq.free (List.mem_cons_self ..) (i := 3); clear hm hL1 hL2))
  all_goals (first
    | (have U := Go.Lib.hid (hSB #[.int .i64 a1, .int .i64 a2, .int .i64 a3, .int .i64 a4] 54))
    | (have U := Go.Lib.hid hST))
  all_goals go_wp2
  all_goals exact HR.out _ (U.out.1.swap (fun p hp => by cases hp))

set_option maxHeartbeats 4000000 in
theorem zr3 (N : Nat) {w0 w : World} {S0 : Hp} {ob0 : List Nat} {bf : Nat} {cls : List ClassT.den} {start : Int} {t c : List UInt8} {now : Int}
    (h : BSt RtT w0 S0 ob0 bf w (cls, (start, (none, ()))) []) :
    Calls Try.prog 15 #[.pointer (some ⟨bf, 0, none⟩), .string ⟨⟨t⟩⟩, .string ⟨⟨c⟩⟩, .int .i64 now] w fun e w' => e = .returned (.int .i64 21) /\ BSt RtT w0 S0 ob0 bf w' (cls, (start, (none, ()))) [] := by
  suffices HX : ∀ R : Ending -> World -> Prop, Go.RowKit.Hid (∀ w', BSt RtT w0 S0 ob0 bf w' (cls, (start, (none, ()))) [] -> R (.returned (.int .i64 21)) w') -> Calls Try.prog 15 #[.pointer (some ⟨bf, 0, none⟩), .string ⟨⟨t⟩⟩, .string ⟨⟨c⟩⟩, .int .i64 now] w R from HX _ (Go.Lib.hid (fun w' h => ⟨rfl, h⟩))
  intro R HR
  have HM := z8h N h
  clear h
  go_enter Try.func15, Try.ntmps15
  go_wp2_with (go_at_call 21; refine HM.mono ?_; rintro r w1 ⟨rfl, hq⟩; have HE := Go.Lib.hid hq; clear HM hq)
  try go_ret
  exact HR.out _ HE.out

def z19 (N : Nat) (r : RtT.den) (t c : List UInt8) (now : Int) : Option (Int × (RtT.den × Unit)) := match r.2.2.1 with
  | none => some (21, (r, ()))
  | some xs => (z1m N r (t, (c, ()))).bind fun q => cond q.1.2.1 ((z2n N q.1.1 now).bind fun b => some ((if b.2.1 then 0 else 17), ((r.1, (r.2.1, (some (zi6 (eqD OwT) (t, (c, ())) b.1 xs), ()))), ()))) (some (6, (r, ())))

def z6b (N : Nat) : List A -> Res := z1u [(0, .box RtT), (0, .v .str), (0, .v .str), (0, .v (.int .i64))] (fun x => z19 N x.1 x.2.1 x.2.2.1 x.2.2.2.1) (zpx (.v (.int .i64)) [(0, .box RtT)] 3)

theorem zs7 (N : Nat) {r x' : RtT.den} {o : OwT.den} {q : BkT.den × (Bool × Unit)} (h : z1m N r o = some (q, x')) : x' = r := by
  unfold z1m at h
  cases hl : z3w (eqD OwT) o (r.2.2.1.getD []) with
  | some b => rw [hl] at h; cases h; rfl
  | none =>
    rw [hl] at h
    dsimp only at h
    cases hf : zdi N r.1 r.2.1 o with
    | none => rw [hf] at h; cases h
    | some q => rw [hf] at h; cases h; rfl

theorem zr4 (N : Nat) {w0 w : World} {S0 : Hp} {ob0 : List Nat} {bf : Nat} {x x' : RtT.den} {t c : List UInt8} {now v : Int} (h : BSt RtT w0 S0 ob0 bf w x []) (hy : z19 N x t c now = some (v, (x', ()))) :
    Calls Try.prog 15 #[.pointer (some ⟨bf, 0, none⟩), .string ⟨⟨t⟩⟩, .string ⟨⟨c⟩⟩, .int .i64 now] w fun e w' => e = .returned (.int .i64 v) /\ BSt RtT w0 S0 ob0 bf w' x' [] := by
  obtain ⟨cls, start, m, ⟨⟩⟩ := x
  cases m with
  | none => cases hy; exact zr3 N h
  | some xs =>
    replace hy : ((z1m N (cls, (start, (some xs, ()))) (t, (c, ()))).bind fun q => cond q.1.2.1 ((z2n N q.1.1 now).bind fun b => some ((if b.2.1 then 0 else 17), ((cls, (start, (some (zi6 (eqD OwT) (t, (c, ())) b.1 xs), ()))), ()))) (some (6, ((cls, (start, (some xs, ()))), ())))) = some (v, (x', ())) := hy
    cases hl : z1m N (cls, (start, (some xs, ()))) (t, (c, ())) with
    | none => rw [hl] at hy; cases hy
    | some q =>
      rw [hl, Option.bind_some] at hy
      obtain ⟨⟨⟨a1, a2, a3, a4, ⟨⟩⟩, ok, ⟨⟩⟩, x2⟩ := q
      have hx := zs7 N hl
      subst hx
      cases ok with
      | false => cases hy; exact zvw N h hl
      | true =>
        simp only [cond_true] at hy
        cases hz : z2n N (a1, (a2, (a3, (a4, ())))) now with
        | none => rw [hz] at hy; cases hy
        | some b =>
          rw [hz] at hy
          obtain ⟨⟨b1, b2, b3, b4, ⟨⟩⟩, ok, ⟨⟩⟩ := b
          cases hy
          exact zr2 N h hl hz

theorem zd0 (N : Nat) : Contract Try.prog zk 15 (z6b N) := by
  refine Contract.hand ⟨_, Try.func15, by kernel_rfl, by decide⟩ ?_
  rintro w S vals ob ⟨x, t, c, now, ⟨⟩⟩ ⟨v, x', ⟨⟩⟩ har hS hg hy
  obtain ⟨bf, rfl, hne, hob, hB⟩ := zte har hS
  refine (zr4 N hB hy).mono ?_
  rintro e w' ⟨rfl, h'⟩
  exact h'.ends hob hne (by intro y hy; have hy : y ∈ [A.v .str t, A.v .str c, A.v (.int .i64) now] := hy; simp at hy; rcases hy with rfl | rfl | rfl <;> rfl) (fun S' => ⟨VR.int, rfl⟩) rfl

def z87 : Code := (Go.Proofs.Try.f15.body).getD .skip

def z5f : List (List Nat × List Nat) := [([0], [0, 1, 2, 3]), ([0, 0, 1], [16, 1, 2, 0, 3]), ([1, 0, 1], [1, 2, 0, 3]), ([0, 0, 1, 0, 1], [8]), ([1, 0, 1, 0, 1], [8]), ([0, 1, 1], [0, 9, 3]), ([0, 1, 1, 1], [11, 10, 3, 0, 9]), ([0, 0, 1, 1, 1, 1], [32, 10, 3, 0, 9]), ([1, 0, 1, 1, 1, 1], [10, 3, 0, 9]), ([0, 0, 1, 0, 1, 1, 1, 1], [8]), ([1, 0, 1, 0, 1, 1, 1, 1], [8]), ([0, 1, 1, 1, 1, 1], [0, 9, 12, 13]), ([0, 1, 1, 1, 1, 1, 1], [13]), ([0, 0, 1, 1, 1, 1, 1, 1, 1], [46]), ([1, 0, 1, 1, 1, 1, 1, 1, 1], []), ([0, 0, 1, 0, 1, 1, 1, 1, 1, 1, 1], [8]), ([1, 0, 1, 0, 1, 1, 1, 1, 1, 1, 1], [8]), ([0, 1, 1, 1, 1, 1, 1, 1, 1], [8]), ([1, 1, 1, 1, 1, 1, 1, 1, 1], [8])]

def z31 (N : Nat) : Env := z4q tys zk [(26, zb2 N), (23, z3d N), (21, z18 N)] [] [] [] false [] []

theorem z91 (N : Nat) : EnvOk Go.Proofs.Try.prog (z31 N) := zw mixed z29 (FnsOk.cons (zc3 N) (FnsOk.cons (z42 N) (FnsOk.cons (z1h N) (FnsOk.nil)))) (ItsOk.nil)

def z43 (N : Nat) (tenant : (List UInt8)) (class_ : (List UInt8)) (now : Int) : Option Int :=
 some (21 : Int)

def z5e (N : Nat) : Tab Int := []

theorem z86 (N : Nat) (x : z2a [(0, .nilp), (0, .v .str), (0, .v .str), (0, .v (.int .i64))]) : zbl (z31 N) N (z5e N) z5f Go.Proofs.Try.f15 (mkS [(0, .nilp), (0, .v .str), (0, .v .str), (0, .v (.int .i64))] 0 x) (z5m (.v (.int .i64)) 4) = z43 N x.2.1 x.2.2.1 x.2.2.2.1 := by kernel_rfl

def z90 (N : Nat) : List A -> Res := z1u [(0, .nilp), (0, .v .str), (0, .v .str), (0, .v (.int .i64))] (fun x => z43 N x.2.1 x.2.2.1 x.2.2.2.1) (za8 (.v (.int .i64)) 4)

theorem za2 (N : Nat) : Contract Go.Proofs.Try.prog zk 15 (z90 N) :=
  Contract.of (E := z31 N) (H := z5e N) (L := z5f) (N := N) (body := z87) (K := (z5m (.v (.int .i64)) 4)) (z91 N) Go.Proofs.Try.func15 (by kernel_rfl) (by decide) (fun _ hb => TabOk.nil) (fun x y h => by rw [z86]; exact h) (z1l (s := (.v (.int .i64))) (m := 4))

def z2j (N : Nat) : List A -> Res := zjd [(0, .nilp), (0, .v .str), (0, .v .str), (0, .v (.int .i64))] (fun x => z43 N x.2.1 x.2.2.1 x.2.2.2.1) (za8 (.v (.int .i64)) 4) (z6b N)

theorem z3g (N : Nat) : Contract Go.Proofs.Try.prog zk 15 (z2j N) := Contract.alt (za2 N) (zd0 N)

def z89 : Code := (Go.Proofs.Try.f12.body).getD .skip

def z5h : List (List Nat × List Nat) := [([0], [0, 1, 2, 3]), ([0, 0, 1], [13, 0, 1, 2, 3]), ([1, 0, 1], [0, 1, 2, 3]), ([0, 0, 1, 0, 1], [8]), ([1, 0, 1, 0, 1], [8]), ([0, 1, 1], [10, 9, 3]), ([0, 0, 1, 1, 1], [28, 9, 3]), ([1, 0, 1, 1, 1], [9, 3]), ([0, 0, 1, 0, 1, 1, 1], [8]), ([1, 0, 1, 0, 1, 1, 1], [8]), ([0, 1, 1, 1, 1], [8]), ([1, 1, 1, 1, 1], [8])]

def z32 (N : Nat) : Env := z4q tys zk [(23, z3d N), (24, z9k N), (21, z18 N)] [] [] [] false [] []

theorem z93 (N : Nat) : EnvOk Go.Proofs.Try.prog (z32 N) := zw mixed z29 (FnsOk.cons (z42 N) (FnsOk.cons (zb7 N) (FnsOk.cons (z1h N) (FnsOk.nil)))) (ItsOk.nil)

def z44 (N : Nat) (tenant : (List UInt8)) (class_ : (List UInt8)) (now : Int) : Option Int :=
 some (0 : Int)

def z5g (N : Nat) : Tab Int := []

theorem z88 (N : Nat) (x : z2a [(0, .nilp), (0, .v .str), (0, .v .str), (0, .v (.int .i64))]) : zbl (z32 N) N (z5g N) z5h Go.Proofs.Try.f12 (mkS [(0, .nilp), (0, .v .str), (0, .v .str), (0, .v (.int .i64))] 0 x) (z5m (.v (.int .i64)) 4) = z44 N x.2.1 x.2.2.1 x.2.2.2.1 := by kernel_rfl

def z92 (N : Nat) : List A -> Res := z1u [(0, .nilp), (0, .v .str), (0, .v .str), (0, .v (.int .i64))] (fun x => z44 N x.2.1 x.2.2.1 x.2.2.2.1) (za8 (.v (.int .i64)) 4)

theorem za3 (N : Nat) : Contract Go.Proofs.Try.prog zk 12 (z92 N) :=
  Contract.of (E := z32 N) (H := z5g N) (L := z5h) (N := N) (body := z89) (K := (z5m (.v (.int .i64)) 4)) (z93 N) Go.Proofs.Try.func12 (by kernel_rfl) (by decide) (fun _ hb => TabOk.nil) (fun x y h => by rw [z88]; exact h) (z1l (s := (.v (.int .i64))) (m := 4))

def z4h (N : Nat) : List A -> Res := zjd [(0, .nilp), (0, .v .str), (0, .v .str), (0, .v (.int .i64))] (fun x => z44 N x.2.1 x.2.2.1 x.2.2.2.1) (za8 (.v (.int .i64)) 4) (z6c N)

theorem z7h (N : Nat) : Contract Go.Proofs.Try.prog zk 12 (z4h N) := Contract.alt (za3 N) (zd1 N)

def za5 : Code := (Go.Proofs.Try.f6.body).getD .skip

def z6h : List (List Nat × List Nat) := [([0], []), ([0, 1], [2, 1]), ([0, 1, 1], [0]), ([1, 1, 1], [0])]

def z46 (N : Nat) : Env := z4q tys zk [(12, z4h N), (15, z2j N), (7, zan N)] [] [] [] false [(1, (.pair (.own (.pair .str (.pair (.int .i64) (.pair (.int .i64) .unit)))) (.pair (.int .i64) (.pair (.mp (.pair .str (.pair .str .unit)) (.pair (.int .i64) (.pair (.int .i64) (.pair (.int .i64) (.pair (.int .i64) .unit))))) .unit))))] []

theorem zap (N : Nat) : EnvOk Go.Proofs.Try.prog (z46 N) := zw mixed z29 (FnsOk.cons (z7h N) (FnsOk.cons (z3g N) (FnsOk.cons (zh1 N) (FnsOk.nil)))) (ItsOk.nil)

def z1f (N : Nat) : Option Bool :=
 (zbg N ([(([(103 : UInt8), (111 : UInt8), (108 : UInt8), (100 : UInt8)] : List UInt8), ((1 : Int), ((1 : Int), ())))] : List ((List UInt8) × (Int × (Int × Unit)))) (0 : Int)).bind fun y =>
 cond (Option.isSome y.1)
 (cond (y.2.1 == (0 : Int))
 ((z19 N (Option.getD y.1 (([] : List ((List UInt8) × (Int × (Int × Unit)))), ((0 : Int), ((Option.none), ())))) ([(97 : UInt8)] : List UInt8) ([(103 : UInt8), (111 : UInt8), (108 : UInt8), (100 : UInt8)] : List UInt8) (0 : Int)).bind fun y1 =>
 cond (y1.1 == (17 : Int))
 ((z19 N y1.2.1 ([(97 : UInt8)] : List UInt8) ([(103 : UInt8), (111 : UInt8), (108 : UInt8), (100 : UInt8)] : List UInt8) (1 : Int)).bind fun y2 =>
 cond (y2.1 == (0 : Int))
 ((z19 N y2.2.1 ([(97 : UInt8)] : List UInt8) ([(103 : UInt8), (111 : UInt8), (108 : UInt8), (100 : UInt8)] : List UInt8) (1 : Int)).bind fun y3 =>
 cond (y3.1 == (17 : Int))
 ((z19 N y3.2.1 ([(97 : UInt8)] : List UInt8) ([(120 : UInt8)] : List UInt8) (1 : Int)).bind fun y4 =>
 cond (y4.1 == (6 : Int))
 ((z6d N y4.2.1 ([(98 : UInt8)] : List UInt8) ([(103 : UInt8), (111 : UInt8), (108 : UInt8), (100 : UInt8)] : List UInt8) (5 : Int)).bind fun y5 =>
 some (y5.1 == (1 : Int)))
 (some false))
 (some false))
 (some false))
 (some false))
 (some false))
 (none)

def z6g (N : Nat) : Tab Bool := []

theorem za4 (N : Nat) (x : z2a []) : zbl (z46 N) N (z6g N) z6h Go.Proofs.Try.f6 (mkS [] 0 x) (z5m (.v .bool) 0) = z1f N := by kernel_rfl

def z5j (N : Nat) : List A -> Res := z1u [] (fun x => z1f N) (za8 (.v .bool) 0)

theorem zbt (N : Nat) : Contract Go.Proofs.Try.prog zk 6 (z5j N) :=
  Contract.of (E := z46 N) (H := z6g N) (L := z6h) (N := N) (body := za5) (K := (z5m (.v .bool) 0)) (zap N) Go.Proofs.Try.func6 (by kernel_rfl) (by decide) (fun _ hb => TabOk.nil) (fun x y h => by rw [za4]; exact h) (z1l (s := (.v .bool)) (m := 0))

def z7 : Code := (Go.Proofs.Try.f4.body).getD .skip

def zh : List (List Nat × List Nat) := [([0], [3, 1, 5]), ([0, 1], [3, 1, 5]), ([0, 1, 1], [8, 1, 5, 7, 3]), ([0, 0, 1, 1, 1], [47, 7, 1, 5, 3]), ([1, 0, 1, 1, 1], [7, 1, 5, 3]), ([0, 0, 1, 0, 1, 1, 1], [6]), ([1, 0, 1, 0, 1, 1, 1], [6]), ([0, 0, 1, 1, 1, 1], [50, 1, 7, 5, 3]), ([1, 0, 1, 1, 1, 1], [1, 7, 5, 3]), ([0, 0, 1, 0, 1, 1, 1, 1], [6]), ([1, 0, 1, 0, 1, 1, 1, 1], [6]), ([0, 1, 1, 1, 1, 1], [1, 7, 5, 9, 3]), ([0, 1, 1, 1, 1, 1, 1], [1, 10, 7, 5, 9, 3]), ([0, 0, 1, 1, 1, 1, 1, 1, 1], [11, 1, 10, 7, 5, 9, 3]), ([0, 1, 0, 1, 1, 1, 1, 1, 1, 1], [11, 1, 10, 7, 5, 9, 3]), ([0, 0, 0, 0, 1, 0, 1, 1, 1, 1, 1, 1, 1], [54, 1, 11, 10, 7, 5, 9, 3]), ([1, 0, 0, 0, 1, 0, 1, 1, 1, 1, 1, 1, 1], [1, 11, 10, 7, 5, 9, 3]), ([1, 1, 0, 0, 0, 1, 0, 1, 1, 1, 1, 1, 1, 1], [9, 3, 5]), ([0, 0, 0, 1, 0, 0, 1, 0, 1, 1, 1, 1, 1, 1, 1], [12, 10, 7, 11, 1, 5, 9, 3]), ([0, 0, 1, 0, 0, 1, 0, 0, 1, 0, 1, 1, 1, 1, 1, 1, 1], [69, 12, 7, 11, 1, 5, 9, 3]), ([1, 0, 1, 0, 0, 1, 0, 0, 1, 0, 1, 1, 1, 1, 1, 1, 1], [12, 7, 11, 1, 5, 9, 3]), ([0, 0, 1, 0, 1, 0, 0, 1, 0, 0, 1, 0, 1, 1, 1, 1, 1, 1, 1], [6]), ([1, 0, 1, 0, 1, 0, 0, 1, 0, 0, 1, 0, 1, 1, 1, 1, 1, 1, 1], [6]), ([0, 1, 1, 0, 0, 1, 0, 0, 1, 0, 1, 1, 1, 1, 1, 1, 1], [12, 7, 11, 1, 10, 5, 9, 3]), ([0, 0, 1, 1, 1, 0, 0, 1, 0, 0, 1, 0, 1, 1, 1, 1, 1, 1, 1], [75, 7, 12, 11, 1, 10, 5, 9, 3]), ([1, 0, 1, 1, 1, 0, 0, 1, 0, 0, 1, 0, 1, 1, 1, 1, 1, 1, 1], [7, 12, 5, 9, 11, 1, 10, 3]), ([0, 0, 1, 0, 1, 1, 1, 0, 0, 1, 0, 0, 1, 0, 1, 1, 1, 1, 1, 1, 1], [11, 1, 10, 7, 5, 9, 3]), ([1, 0, 1, 0, 1, 1, 1, 0, 0, 1, 0, 0, 1, 0, 1, 1, 1, 1, 1, 1, 1], [11, 1, 10, 7, 5, 9, 3]), ([0, 1, 1, 1, 1, 0, 0, 1, 0, 0, 1, 0, 1, 1, 1, 1, 1, 1, 1], [115, 9, 11, 1, 10, 7, 5, 3]), ([1, 1, 1, 1, 1, 0, 0, 1, 0, 0, 1, 0, 1, 1, 1, 1, 1, 1, 1], [11, 1, 10, 7, 5, 9, 3]), ([0, 1, 1, 1, 1, 1, 0, 0, 1, 0, 0, 1, 0, 1, 1, 1, 1, 1, 1, 1], [11, 1, 10, 7, 5, 9, 3]), ([0, 1, 0, 0, 1, 0, 1, 1, 1, 1, 1, 1, 1], [11, 1, 10, 7, 5, 9, 3]), ([1, 1, 0, 0, 1, 0, 1, 1, 1, 1, 1, 1, 1], [11, 1, 10, 7, 5, 9, 3]), ([1, 0, 1, 1, 1, 1, 1, 1, 1], [9, 3, 5]), ([0, 1, 1, 1, 1, 1, 1, 1, 1], [6]), ([1, 1, 1, 1, 1, 1, 1, 1, 1], [6])]

def zf (N : Nat) : Env := z4q tys zk [(6, z5j N), (15, z2j N), (7, zan N), (10, z4b N)] [] [] [] false [] []

theorem z73 (N : Nat) : EnvOk Go.Proofs.Try.prog (zf N) := zw mixed z29 (FnsOk.cons (zbt N) (FnsOk.cons (z3g N) (FnsOk.cons (zh1 N) (FnsOk.cons (z6u N) (FnsOk.nil))))) (ItsOk.nil)

def z26 (N : Nat) (asked : (List ((List UInt8) × ((List UInt8) × (Int × Unit))))) (c : ((List UInt8) × (Int × (Int × Unit)))) (l : (List Int)) (r_ : (Option ((List ((List UInt8) × (Int × (Int × Unit)))) × (Int × ((Option (List (((List UInt8) × ((List UInt8) × Unit)) × (Int × (Int × (Int × (Int × Unit))))))) × Unit))))) (e : Int) (k0 : Bool -> Option Bool) : Option Bool :=
 cond (e != (0 : Int))
 (k0 true)
 (cond (decide ((60 : Int) < (((List.length asked) : Nat) : Int)))
 (k0 true)
 (cond (decide (0 < (List.length l)))
 (cond (decide ((List.getD l 0 (0 : Int)) < (0 : Int)))
 (k0 true)
 (cond (decide (0 < (List.length l)))
 (cond (decide ((1099511627776 : Int) < (List.getD l 0 (0 : Int))))
 (k0 true)
 (cond (decide (1 < (List.length l)))
 (cond (decide ((List.getD l 1 (0 : Int)) < (0 : Int)))
 (k0 true)
 (cond (decide (1 < (List.length l)))
 (k0 (decide ((1099511627776 : Int) < (List.getD l 1 (0 : Int)))))
 (none)))
 (none)))
 (none)))
 (none)))

def z3u (N : Nat) (x : z2a [(1, .v (.sl (.pair .str (.pair .str (.pair (.int .i64) .unit))))), (1, .box (.pair .str (.pair (.int .i64) (.pair (.int .i64) .unit)))), (1, .box (.arr 2 (.int .i64))), (1, .ov (.nb (.pair (.own (.pair .str (.pair (.int .i64) (.pair (.int .i64) .unit)))) (.pair (.int .i64) (.pair (.mp (.pair .str (.pair .str .unit)) (.pair (.int .i64) (.pair (.int .i64) (.pair (.int .i64) (.pair (.int .i64) .unit))))) .unit))))), (0, .v (.int .i64))]) (K : Ex -> List A -> Option Bool) : Option Bool :=
 z26 N x.1 x.2.1 x.2.2.1 x.2.2.2.1 x.2.2.2.2.1 (fun a4 => (K .normal (mkS [(1, .v (.sl (.pair .str (.pair .str (.pair (.int .i64) .unit))))), (1, .box (.pair .str (.pair (.int .i64) (.pair (.int .i64) .unit)))), (1, .box (.arr 2 (.int .i64))), (1, .ov (.nb (.pair (.own (.pair .str (.pair (.int .i64) (.pair (.int .i64) .unit)))) (.pair (.int .i64) (.pair (.mp (.pair .str (.pair .str .unit)) (.pair (.int .i64) (.pair (.int .i64) (.pair (.int .i64) (.pair (.int .i64) .unit))))) .unit))))), (39, .v .bool)] 96 (x.1, x.2.1, x.2.2.1, x.2.2.2.1, a4, ()))))

def z3n (N : Nat) : Hd Bool := fun st K => (unS [(1, .v (.sl (.pair .str (.pair .str (.pair (.int .i64) .unit))))), (1, .box (.pair .str (.pair (.int .i64) (.pair (.int .i64) .unit)))), (1, .box (.arr 2 (.int .i64))), (1, .ov (.nb (.pair (.own (.pair .str (.pair (.int .i64) (.pair (.int .i64) .unit)))) (.pair (.int .i64) (.pair (.mp (.pair .str (.pair .str .unit)) (.pair (.int .i64) (.pair (.int .i64) (.pair (.int .i64) (.pair (.int .i64) .unit))))) .unit))))), (0, .v (.int .i64))] 135 (restr [8, 1, 5, 7, 3] 0 st)).bind fun x => z3u N x K

def z7o (N : Nat) : Tab Bool := []

theorem z71 {N : Nat} {c : Ctx} (hb : Base Go.Proofs.Try.prog (zf N) c) : z16 Go.Proofs.Try.prog c (zl z7 [0, 0, 1, 1, 1]) (z3n N) :=
  z1a (s := [(1, .v (.sl (.pair .str (.pair .str (.pair (.int .i64) .unit))))), (1, .box (.pair .str (.pair (.int .i64) (.pair (.int .i64) .unit)))), (1, .box (.arr 2 (.int .i64))), (1, .ov (.nb (.pair (.own (.pair .str (.pair (.int .i64) (.pair (.int .i64) .unit)))) (.pair (.int .i64) (.pair (.mp (.pair .str (.pair .str .unit)) (.pair (.int .i64) (.pair (.int .i64) (.pair (.int .i64) (.pair (.int .i64) .unit))))) .unit))))), (0, .v (.int .i64))]) (m := 135) (g := z3u N) [8, 1, 5, 7, 3] (zp hb N (z7o N) zh z7 TabOk.nil [0, 0, 1, 1, 1] _ rfl) (fun x K => by kernel_rfl)

def z27 (N : Nat) (asked : (List ((List UInt8) × ((List UInt8) × (Int × Unit))))) (c : ((List UInt8) × (Int × (Int × Unit)))) (l : (List Int)) (r_ : (Option ((List ((List UInt8) × (Int × (Int × Unit)))) × (Int × ((Option (List (((List UInt8) × ((List UInt8) × Unit)) × (Int × (Int × (Int × (Int × Unit))))))) × Unit))))) (e : Int) (k0 : Bool -> Option Bool) (k1 : Option Bool) : Option Bool :=
 z26 N asked c l r_ e
 (fun x47 => cond x47
 ((z1f N).bind fun y =>
 k0 y)
 (k1))

def z3v (N : Nat) (x : z2a [(1, .v (.sl (.pair .str (.pair .str (.pair (.int .i64) .unit))))), (1, .box (.pair .str (.pair (.int .i64) (.pair (.int .i64) .unit)))), (1, .box (.arr 2 (.int .i64))), (1, .ov (.nb (.pair (.own (.pair .str (.pair (.int .i64) (.pair (.int .i64) .unit)))) (.pair (.int .i64) (.pair (.mp (.pair .str (.pair .str .unit)) (.pair (.int .i64) (.pair (.int .i64) (.pair (.int .i64) (.pair (.int .i64) .unit))))) .unit))))), (0, .v (.int .i64))]) (K : Ex -> List A -> Option Bool) : Option Bool :=
 z27 N x.1 x.2.1 x.2.2.1 x.2.2.2.1 x.2.2.2.2.1 (fun a0 => (K .ret (mkS [(6, .v .bool)] 137 (a0, ())))) (K .normal (mkS [(1, .v (.sl (.pair .str (.pair .str (.pair (.int .i64) .unit))))), (1, .box (.pair .str (.pair (.int .i64) (.pair (.int .i64) .unit)))), (1, .box (.arr 2 (.int .i64))), (1, .ov (.nb (.pair (.own (.pair .str (.pair (.int .i64) (.pair (.int .i64) .unit)))) (.pair (.int .i64) (.pair (.mp (.pair .str (.pair .str .unit)) (.pair (.int .i64) (.pair (.int .i64) (.pair (.int .i64) (.pair (.int .i64) .unit))))) .unit)))))] 136 (x.1, x.2.1, x.2.2.1, x.2.2.2.1, ())))

def z3o (N : Nat) : Hd Bool := fun st K => (unS [(1, .v (.sl (.pair .str (.pair .str (.pair (.int .i64) .unit))))), (1, .box (.pair .str (.pair (.int .i64) (.pair (.int .i64) .unit)))), (1, .box (.arr 2 (.int .i64))), (1, .ov (.nb (.pair (.own (.pair .str (.pair (.int .i64) (.pair (.int .i64) .unit)))) (.pair (.int .i64) (.pair (.mp (.pair .str (.pair .str .unit)) (.pair (.int .i64) (.pair (.int .i64) (.pair (.int .i64) (.pair (.int .i64) .unit))))) .unit))))), (0, .v (.int .i64))] 135 (restr [8, 1, 5, 7, 3] 0 st)).bind fun x => z3v N x K

def z7p (N : Nat) : Tab Bool := [([0, 0, 1, 1, 1], z3n N)]

theorem z72 {N : Nat} {c : Ctx} (hb : Base Go.Proofs.Try.prog (zf N) c) : z16 Go.Proofs.Try.prog c (zl z7 [0, 1, 1, 1]) (z3o N) :=
  z1a (s := [(1, .v (.sl (.pair .str (.pair .str (.pair (.int .i64) .unit))))), (1, .box (.pair .str (.pair (.int .i64) (.pair (.int .i64) .unit)))), (1, .box (.arr 2 (.int .i64))), (1, .ov (.nb (.pair (.own (.pair .str (.pair (.int .i64) (.pair (.int .i64) .unit)))) (.pair (.int .i64) (.pair (.mp (.pair .str (.pair .str .unit)) (.pair (.int .i64) (.pair (.int .i64) (.pair (.int .i64) (.pair (.int .i64) .unit))))) .unit))))), (0, .v (.int .i64))]) (m := 135) (g := z3v N) [8, 1, 5, 7, 3] (zp hb N (z7p N) zh z7 (TabOk.cons (z71 hb) TabOk.nil) [0, 1, 1, 1] _ rfl) (fun x K => by kernel_rfl)

def z21 (N : Nat) (asked : (List ((List UInt8) × ((List UInt8) × (Int × Unit))))) (c : ((List UInt8) × (Int × (Int × Unit)))) (l : (List Int)) (r_ : ((List ((List UInt8) × (Int × (Int × Unit)))) × (Int × ((Option (List (((List UInt8) × ((List UInt8) × Unit)) × (Int × (Int × (Int × (Int × Unit))))))) × Unit)))) (n : Int) (last : Int) (i : Int) (x12 : ((List UInt8) × ((List UInt8) × (Int × Unit)))) (k0 : Bool -> Option Bool) : Option Bool :=
 cond (decide (x12.2.2.1 < last))
 (k0 true)
 (k0 (decide ((1099511627776 : Int) < x12.2.2.1)))

def z3q (N : Nat) (x : z2a [(1, .v (.sl (.pair .str (.pair .str (.pair (.int .i64) .unit))))), (1, .box (.pair .str (.pair (.int .i64) (.pair (.int .i64) .unit)))), (1, .box (.arr 2 (.int .i64))), (1, .box (.pair (.own (.pair .str (.pair (.int .i64) (.pair (.int .i64) .unit)))) (.pair (.int .i64) (.pair (.mp (.pair .str (.pair .str .unit)) (.pair (.int .i64) (.pair (.int .i64) (.pair (.int .i64) (.pair (.int .i64) .unit))))) .unit)))), (1, .v (.int .i64)), (0, .v (.int .i64)), (0, .v (.int .i64)), (0, .box (.pair .str (.pair .str (.pair (.int .i64) .unit))))]) (K : Ex -> List A -> Option Bool) : Option Bool :=
 z21 N x.1 x.2.1 x.2.2.1 x.2.2.2.1 x.2.2.2.2.1 x.2.2.2.2.2.1 x.2.2.2.2.2.2.1 x.2.2.2.2.2.2.2.1 (fun a7 => (K .normal (mkS [(1, .v (.sl (.pair .str (.pair .str (.pair (.int .i64) .unit))))), (1, .box (.pair .str (.pair (.int .i64) (.pair (.int .i64) .unit)))), (1, .box (.arr 2 (.int .i64))), (1, .box (.pair (.own (.pair .str (.pair (.int .i64) (.pair (.int .i64) .unit)))) (.pair (.int .i64) (.pair (.mp (.pair .str (.pair .str .unit)) (.pair (.int .i64) (.pair (.int .i64) (.pair (.int .i64) (.pair (.int .i64) .unit))))) .unit)))), (1, .v (.int .i64)), (1, .v (.int .i64)), (0, .box (.pair .str (.pair .str (.pair (.int .i64) .unit)))), (56, .v .bool)] 74 (x.1, x.2.1, x.2.2.1, x.2.2.2.1, x.2.2.2.2.1, x.2.2.2.2.2.2.1, x.2.2.2.2.2.2.2.1, a7, ()))))

def z3j (N : Nat) : Hd Bool := fun st K => (unS [(1, .v (.sl (.pair .str (.pair .str (.pair (.int .i64) .unit))))), (1, .box (.pair .str (.pair (.int .i64) (.pair (.int .i64) .unit)))), (1, .box (.arr 2 (.int .i64))), (1, .box (.pair (.own (.pair .str (.pair (.int .i64) (.pair (.int .i64) .unit)))) (.pair (.int .i64) (.pair (.mp (.pair .str (.pair .str .unit)) (.pair (.int .i64) (.pair (.int .i64) (.pair (.int .i64) (.pair (.int .i64) .unit))))) .unit)))), (1, .v (.int .i64)), (0, .v (.int .i64)), (0, .v (.int .i64)), (0, .box (.pair .str (.pair .str (.pair (.int .i64) .unit))))] 131 (restr [12, 10, 7, 11, 1, 5, 9, 3] 0 st)).bind fun x => z3q N x K

def z7k (N : Nat) : Tab Bool := []

theorem z6x {N : Nat} {c : Ctx} (hb : Base Go.Proofs.Try.prog (zf N) c) : z16 Go.Proofs.Try.prog c (zl z7 [0, 0, 1, 0, 0, 1, 0, 0, 1, 0, 1, 1, 1, 1, 1, 1, 1]) (z3j N) :=
  z1a (s := [(1, .v (.sl (.pair .str (.pair .str (.pair (.int .i64) .unit))))), (1, .box (.pair .str (.pair (.int .i64) (.pair (.int .i64) .unit)))), (1, .box (.arr 2 (.int .i64))), (1, .box (.pair (.own (.pair .str (.pair (.int .i64) (.pair (.int .i64) .unit)))) (.pair (.int .i64) (.pair (.mp (.pair .str (.pair .str .unit)) (.pair (.int .i64) (.pair (.int .i64) (.pair (.int .i64) (.pair (.int .i64) .unit))))) .unit)))), (1, .v (.int .i64)), (0, .v (.int .i64)), (0, .v (.int .i64)), (0, .box (.pair .str (.pair .str (.pair (.int .i64) .unit))))]) (m := 131) (g := z3q N) [12, 10, 7, 11, 1, 5, 9, 3] (zp hb N (z7k N) zh z7 TabOk.nil [0, 0, 1, 0, 0, 1, 0, 0, 1, 0, 1, 1, 1, 1, 1, 1, 1] _ rfl) (fun x K => by kernel_rfl)

def z24 (N : Nat) (asked : (List ((List UInt8) × ((List UInt8) × (Int × Unit))))) (c : ((List UInt8) × (Int × (Int × Unit)))) (l : (List Int)) (r_ : ((List ((List UInt8) × (Int × (Int × Unit)))) × (Int × ((Option (List (((List UInt8) × ((List UInt8) × Unit)) × (Int × (Int × (Int × (Int × Unit))))))) × Unit)))) (n : Int) (last : Int) (i : Int) (x12 : ((List UInt8) × ((List UInt8) × (Int × Unit)))) (k0 : Bool -> Option Bool) (k1 : Option Bool) : Option Bool :=
 z21 N asked c l r_ n last i x12
 (fun x69 => cond x69
 ((z1f N).bind fun y =>
 k0 y)
 (k1))

def z3r (N : Nat) (x : z2a [(1, .v (.sl (.pair .str (.pair .str (.pair (.int .i64) .unit))))), (1, .box (.pair .str (.pair (.int .i64) (.pair (.int .i64) .unit)))), (1, .box (.arr 2 (.int .i64))), (1, .box (.pair (.own (.pair .str (.pair (.int .i64) (.pair (.int .i64) .unit)))) (.pair (.int .i64) (.pair (.mp (.pair .str (.pair .str .unit)) (.pair (.int .i64) (.pair (.int .i64) (.pair (.int .i64) (.pair (.int .i64) .unit))))) .unit)))), (1, .v (.int .i64)), (0, .v (.int .i64)), (0, .v (.int .i64)), (0, .box (.pair .str (.pair .str (.pair (.int .i64) .unit))))]) (K : Ex -> List A -> Option Bool) : Option Bool :=
 z24 N x.1 x.2.1 x.2.2.1 x.2.2.2.1 x.2.2.2.2.1 x.2.2.2.2.2.1 x.2.2.2.2.2.2.1 x.2.2.2.2.2.2.2.1 (fun a0 => (K .ret (mkS [(6, .v .bool)] 137 (a0, ())))) (K .normal (mkS [(1, .v (.sl (.pair .str (.pair .str (.pair (.int .i64) .unit))))), (1, .box (.pair .str (.pair (.int .i64) (.pair (.int .i64) .unit)))), (1, .box (.arr 2 (.int .i64))), (1, .box (.pair (.own (.pair .str (.pair (.int .i64) (.pair (.int .i64) .unit)))) (.pair (.int .i64) (.pair (.mp (.pair .str (.pair .str .unit)) (.pair (.int .i64) (.pair (.int .i64) (.pair (.int .i64) (.pair (.int .i64) .unit))))) .unit)))), (1, .v (.int .i64)), (1, .v (.int .i64)), (0, .box (.pair .str (.pair .str (.pair (.int .i64) .unit))))] 131 (x.1, x.2.1, x.2.2.1, x.2.2.2.1, x.2.2.2.2.1, x.2.2.2.2.2.2.1, x.2.2.2.2.2.2.2.1, ())))

def z3k (N : Nat) : Hd Bool := fun st K => (unS [(1, .v (.sl (.pair .str (.pair .str (.pair (.int .i64) .unit))))), (1, .box (.pair .str (.pair (.int .i64) (.pair (.int .i64) .unit)))), (1, .box (.arr 2 (.int .i64))), (1, .box (.pair (.own (.pair .str (.pair (.int .i64) (.pair (.int .i64) .unit)))) (.pair (.int .i64) (.pair (.mp (.pair .str (.pair .str .unit)) (.pair (.int .i64) (.pair (.int .i64) (.pair (.int .i64) (.pair (.int .i64) .unit))))) .unit)))), (1, .v (.int .i64)), (0, .v (.int .i64)), (0, .v (.int .i64)), (0, .box (.pair .str (.pair .str (.pair (.int .i64) .unit))))] 131 (restr [12, 10, 7, 11, 1, 5, 9, 3] 0 st)).bind fun x => z3r N x K

def z7l (N : Nat) : Tab Bool := [([0, 0, 1, 0, 0, 1, 0, 0, 1, 0, 1, 1, 1, 1, 1, 1, 1], z3j N)]

theorem z6y {N : Nat} {c : Ctx} (hb : Base Go.Proofs.Try.prog (zf N) c) : z16 Go.Proofs.Try.prog c (zl z7 [0, 1, 0, 0, 1, 0, 0, 1, 0, 1, 1, 1, 1, 1, 1, 1]) (z3k N) :=
  z1a (s := [(1, .v (.sl (.pair .str (.pair .str (.pair (.int .i64) .unit))))), (1, .box (.pair .str (.pair (.int .i64) (.pair (.int .i64) .unit)))), (1, .box (.arr 2 (.int .i64))), (1, .box (.pair (.own (.pair .str (.pair (.int .i64) (.pair (.int .i64) .unit)))) (.pair (.int .i64) (.pair (.mp (.pair .str (.pair .str .unit)) (.pair (.int .i64) (.pair (.int .i64) (.pair (.int .i64) (.pair (.int .i64) .unit))))) .unit)))), (1, .v (.int .i64)), (0, .v (.int .i64)), (0, .v (.int .i64)), (0, .box (.pair .str (.pair .str (.pair (.int .i64) .unit))))]) (m := 131) (g := z3r N) [12, 10, 7, 11, 1, 5, 9, 3] (zp hb N (z7l N) zh z7 (TabOk.cons (z6x hb) TabOk.nil) [0, 1, 0, 0, 1, 0, 0, 1, 0, 1, 1, 1, 1, 1, 1, 1] _ rfl) (fun x K => by kernel_rfl)

def z20 (N : Nat) (asked : (List ((List UInt8) × ((List UInt8) × (Int × Unit))))) (c : ((List UInt8) × (Int × (Int × Unit)))) (l : (List Int)) (r_ : ((List ((List UInt8) × (Int × (Int × Unit)))) × (Int × ((Option (List (((List UInt8) × ((List UInt8) × Unit)) × (Int × (Int × (Int × (Int × Unit))))))) × Unit)))) (n : Int) (last : Int) (i : Int) (x12 : ((List UInt8) × ((List UInt8) × (Int × Unit)))) (k0 : ((List ((List UInt8) × (Int × (Int × Unit)))) × (Int × ((Option (List (((List UInt8) × ((List UInt8) × Unit)) × (Int × (Int × (Int × (Int × Unit))))))) × Unit))) -> Bool -> Option Bool) : Option Bool :=
 (z19 N r_ x12.1 x12.2.1 x12.2.2.1).bind fun y =>
 cond (y.1 == (0 : Int))
 (cond (x12.1 == ([(97 : UInt8)] : List UInt8))
 (cond (x12.2.1 == ([(103 : UInt8), (111 : UInt8), (108 : UInt8), (100 : UInt8)] : List UInt8))
 (cond (decide (0 < (List.length l)))
 (cond (decide ((List.getD l 0 (0 : Int)) <= x12.2.2.1))
 (cond (decide (0 < (List.length l)))
 (cond (decide (1 < (List.length l)))
 (k0 y.2.1 (decide ((Go.IntKind.wrap Go.IntKind.i64 (x12.2.2.1 - (List.getD l 0 (0 : Int)))) <= (List.getD l 1 (0 : Int)))))
 (none))
 (none))
 (k0 y.2.1 false))
 (none))
 (k0 y.2.1 false))
 (k0 y.2.1 false))
 (k0 y.2.1 false)

def z3p (N : Nat) (x : z2a [(1, .v (.sl (.pair .str (.pair .str (.pair (.int .i64) .unit))))), (1, .box (.pair .str (.pair (.int .i64) (.pair (.int .i64) .unit)))), (1, .box (.arr 2 (.int .i64))), (1, .box (.pair (.own (.pair .str (.pair (.int .i64) (.pair (.int .i64) .unit)))) (.pair (.int .i64) (.pair (.mp (.pair .str (.pair .str .unit)) (.pair (.int .i64) (.pair (.int .i64) (.pair (.int .i64) (.pair (.int .i64) .unit))))) .unit)))), (1, .v (.int .i64)), (0, .v (.int .i64)), (0, .v (.int .i64)), (0, .box (.pair .str (.pair .str (.pair (.int .i64) .unit))))]) (K : Ex -> List A -> Option Bool) : Option Bool :=
 z20 N x.1 x.2.1 x.2.2.1 x.2.2.2.1 x.2.2.2.2.1 x.2.2.2.2.2.1 x.2.2.2.2.2.2.1 x.2.2.2.2.2.2.2.1 (fun a3 a7 => (K .normal (mkS [(1, .v (.sl (.pair .str (.pair .str (.pair (.int .i64) .unit))))), (1, .box (.pair .str (.pair (.int .i64) (.pair (.int .i64) .unit)))), (1, .box (.arr 2 (.int .i64))), (1, .box (.pair (.own (.pair .str (.pair (.int .i64) (.pair (.int .i64) .unit)))) (.pair (.int .i64) (.pair (.mp (.pair .str (.pair .str .unit)) (.pair (.int .i64) (.pair (.int .i64) (.pair (.int .i64) (.pair (.int .i64) .unit))))) .unit)))), (1, .v (.int .i64)), (0, .v (.int .i64)), (0, .v (.int .i64)), (103, .v .bool)] 28 (x.1, x.2.1, x.2.2.1, a3, x.2.2.2.2.1, x.2.2.2.2.2.1, x.2.2.2.2.2.2.1, a7, ()))))

def z3i (N : Nat) : Hd Bool := fun st K => (unS [(1, .v (.sl (.pair .str (.pair .str (.pair (.int .i64) .unit))))), (1, .box (.pair .str (.pair (.int .i64) (.pair (.int .i64) .unit)))), (1, .box (.arr 2 (.int .i64))), (1, .box (.pair (.own (.pair .str (.pair (.int .i64) (.pair (.int .i64) .unit)))) (.pair (.int .i64) (.pair (.mp (.pair .str (.pair .str .unit)) (.pair (.int .i64) (.pair (.int .i64) (.pair (.int .i64) (.pair (.int .i64) .unit))))) .unit)))), (1, .v (.int .i64)), (0, .v (.int .i64)), (0, .v (.int .i64)), (0, .box (.pair .str (.pair .str (.pair (.int .i64) .unit))))] 131 (restr [7, 12, 5, 9, 11, 1, 10, 3] 0 st)).bind fun x => z3p N x K

def z7j (N : Nat) : Tab Bool := []

theorem z6w {N : Nat} {c : Ctx} (hb : Base Go.Proofs.Try.prog (zf N) c) : z16 Go.Proofs.Try.prog c (zl z7 [0, 1, 1, 1, 1, 0, 0, 1, 0, 0, 1, 0, 1, 1, 1, 1, 1, 1, 1]) (z3i N) :=
  z1a (s := [(1, .v (.sl (.pair .str (.pair .str (.pair (.int .i64) .unit))))), (1, .box (.pair .str (.pair (.int .i64) (.pair (.int .i64) .unit)))), (1, .box (.arr 2 (.int .i64))), (1, .box (.pair (.own (.pair .str (.pair (.int .i64) (.pair (.int .i64) .unit)))) (.pair (.int .i64) (.pair (.mp (.pair .str (.pair .str .unit)) (.pair (.int .i64) (.pair (.int .i64) (.pair (.int .i64) (.pair (.int .i64) .unit))))) .unit)))), (1, .v (.int .i64)), (0, .v (.int .i64)), (0, .v (.int .i64)), (0, .box (.pair .str (.pair .str (.pair (.int .i64) .unit))))]) (m := 131) (g := z3p N) [7, 12, 5, 9, 11, 1, 10, 3] (zp hb N (z7j N) zh z7 TabOk.nil [0, 1, 1, 1, 1, 0, 0, 1, 0, 0, 1, 0, 1, 1, 1, 1, 1, 1, 1] _ rfl) (fun x K => by kernel_rfl)

def z25 (N : Nat) (asked : (List ((List UInt8) × ((List UInt8) × (Int × Unit))))) (c : ((List UInt8) × (Int × (Int × Unit)))) (l : (List Int)) (r_ : ((List ((List UInt8) × (Int × (Int × Unit)))) × (Int × ((Option (List (((List UInt8) × ((List UInt8) × Unit)) × (Int × (Int × (Int × (Int × Unit))))))) × Unit)))) (n : Int) (last : Int) (i : Int) (k0 : Bool -> Option Bool) (k1 : ((List ((List UInt8) × (Int × (Int × Unit)))) × (Int × ((Option (List (((List UInt8) × ((List UInt8) × Unit)) × (Int × (Int × (Int × (Int × Unit))))))) × Unit))) -> Int -> Int -> Option Bool) : Option Bool :=
 cond (Go.Lift.inR i (List.length asked))
 (z24 N asked c l r_ n last i (List.getD asked (Int.toNat i) (([] : List UInt8), (([] : List UInt8), ((0 : Int), ()))))
 (fun x6 => k0 x6)
 (cond ((List.getD asked (Int.toNat i) (([] : List UInt8), (([] : List UInt8), ((0 : Int), ())))).2.1 == ([(98 : UInt8), (101 : UInt8), (103 : UInt8), (105 : UInt8), (110 : UInt8)] : List UInt8))
 ((z2o N r_ (List.getD asked (Int.toNat i) (([] : List UInt8), (([] : List UInt8), ((0 : Int), ())))).2.2.1).bind fun y =>
 k1 y.2.1 n (List.getD asked (Int.toNat i) (([] : List UInt8), (([] : List UInt8), ((0 : Int), ())))).2.2.1)
 (z20 N asked c l r_ n (List.getD asked (Int.toNat i) (([] : List UInt8), (([] : List UInt8), ((0 : Int), ())))).2.2.1 i (List.getD asked (Int.toNat i) (([] : List UInt8), (([] : List UInt8), ((0 : Int), ()))))
 (fun r_1 x115 => cond x115
 (k1 r_1 (Go.IntKind.wrap Go.IntKind.i64 (n + (1 : Int))) (List.getD asked (Int.toNat i) (([] : List UInt8), (([] : List UInt8), ((0 : Int), ())))).2.2.1)
 (k1 r_1 n (List.getD asked (Int.toNat i) (([] : List UInt8), (([] : List UInt8), ((0 : Int), ())))).2.2.1)))))
 (none)

def z3s (N : Nat) (x : z2a [(1, .v (.sl (.pair .str (.pair .str (.pair (.int .i64) .unit))))), (1, .box (.pair .str (.pair (.int .i64) (.pair (.int .i64) .unit)))), (1, .box (.arr 2 (.int .i64))), (1, .box (.pair (.own (.pair .str (.pair (.int .i64) (.pair (.int .i64) .unit)))) (.pair (.int .i64) (.pair (.mp (.pair .str (.pair .str .unit)) (.pair (.int .i64) (.pair (.int .i64) (.pair (.int .i64) (.pair (.int .i64) .unit))))) .unit)))), (1, .v (.int .i64)), (0, .v (.int .i64)), (0, .v (.int .i64))]) (K : Ex -> List A -> Option Bool) : Option Bool :=
 z25 N x.1 x.2.1 x.2.2.1 x.2.2.2.1 x.2.2.2.2.1 x.2.2.2.2.2.1 x.2.2.2.2.2.2.1 (fun a0 => (K .ret (mkS [(6, .v .bool)] 137 (a0, ())))) (fun a3 a4 a5 => (K .normal (mkS [(1, .v (.sl (.pair .str (.pair .str (.pair (.int .i64) .unit))))), (1, .box (.pair .str (.pair (.int .i64) (.pair (.int .i64) .unit)))), (1, .box (.arr 2 (.int .i64))), (1, .box (.pair (.own (.pair .str (.pair (.int .i64) (.pair (.int .i64) .unit)))) (.pair (.int .i64) (.pair (.mp (.pair .str (.pair .str .unit)) (.pair (.int .i64) (.pair (.int .i64) (.pair (.int .i64) (.pair (.int .i64) .unit))))) .unit)))), (1, .v (.int .i64)), (0, .v (.int .i64)), (0, .v (.int .i64))] 132 (x.1, x.2.1, x.2.2.1, a3, a4, a5, x.2.2.2.2.2.2.1, ()))))

def z3l (N : Nat) : Hd Bool := fun st K => (unS [(1, .v (.sl (.pair .str (.pair .str (.pair (.int .i64) .unit))))), (1, .box (.pair .str (.pair (.int .i64) (.pair (.int .i64) .unit)))), (1, .box (.arr 2 (.int .i64))), (1, .box (.pair (.own (.pair .str (.pair (.int .i64) (.pair (.int .i64) .unit)))) (.pair (.int .i64) (.pair (.mp (.pair .str (.pair .str .unit)) (.pair (.int .i64) (.pair (.int .i64) (.pair (.int .i64) (.pair (.int .i64) .unit))))) .unit)))), (1, .v (.int .i64)), (0, .v (.int .i64)), (0, .v (.int .i64))] 132 (restr [1, 11, 10, 7, 5, 9, 3] 0 st)).bind fun x => z3s N x K

def z7m (N : Nat) : Tab Bool := [([0, 1, 0, 0, 1, 0, 0, 1, 0, 1, 1, 1, 1, 1, 1, 1], z3k N), ([0, 1, 1, 1, 1, 0, 0, 1, 0, 0, 1, 0, 1, 1, 1, 1, 1, 1, 1], z3i N)]

theorem z6z {N : Nat} {c : Ctx} (hb : Base Go.Proofs.Try.prog (zf N) c) : z16 Go.Proofs.Try.prog c (zl z7 [0, 1, 0, 0, 1, 0, 1, 1, 1, 1, 1, 1, 1]) (z3l N) :=
  z1a (s := [(1, .v (.sl (.pair .str (.pair .str (.pair (.int .i64) .unit))))), (1, .box (.pair .str (.pair (.int .i64) (.pair (.int .i64) .unit)))), (1, .box (.arr 2 (.int .i64))), (1, .box (.pair (.own (.pair .str (.pair (.int .i64) (.pair (.int .i64) .unit)))) (.pair (.int .i64) (.pair (.mp (.pair .str (.pair .str .unit)) (.pair (.int .i64) (.pair (.int .i64) (.pair (.int .i64) (.pair (.int .i64) .unit))))) .unit)))), (1, .v (.int .i64)), (0, .v (.int .i64)), (0, .v (.int .i64))]) (m := 132) (g := z3s N) [1, 11, 10, 7, 5, 9, 3] (zp hb N (z7m N) zh z7 (TabOk.cons (z6y hb) (TabOk.cons (z6w hb) TabOk.nil)) [0, 1, 0, 0, 1, 0, 1, 1, 1, 1, 1, 1, 1] _ rfl) (fun x K => by kernel_rfl)

def z1z (N : Nat) (asked : (List ((List UInt8) × ((List UInt8) × (Int × Unit))))) (c : ((List UInt8) × (Int × (Int × Unit)))) (l : (List Int)) (r_ : ((List ((List UInt8) × (Int × (Int × Unit)))) × (Int × ((Option (List (((List UInt8) × ((List UInt8) × Unit)) × (Int × (Int × (Int × (Int × Unit))))))) × Unit)))) (n : Int) (last : Int) (i : Int) (rec : ((List ((List UInt8) × (Int × (Int × Unit)))) × (Int × ((Option (List (((List UInt8) × ((List UInt8) × Unit)) × (Int × (Int × (Int × (Int × Unit))))))) × Unit))) -> Int -> Int -> Int -> Option Bool) (k0 : Bool -> Option Bool) (k1 : Int -> Option Bool) : Option Bool :=
 cond (decide (i < (((List.length asked) : Nat) : Int)))
 (z25 N asked c l r_ n last i
 (fun x6 => k0 x6)
 (fun r_1 n1 last1 => rec r_1 n1 last1 (Go.IntKind.wrap Go.IntKind.i64 (i + (1 : Int)))))
 (k1 n)

def z3h (N : Nat) (asked : (List ((List UInt8) × ((List UInt8) × (Int × Unit))))) (c : ((List UInt8) × (Int × (Int × Unit)))) (l : (List Int)) (r_ : ((List ((List UInt8) × (Int × (Int × Unit)))) × (Int × ((Option (List (((List UInt8) × ((List UInt8) × Unit)) × (Int × (Int × (Int × (Int × Unit))))))) × Unit)))) (n : Int) (last : Int) (i : Int) (k0 : Bool -> Option Bool) (k1 : Int -> Option Bool) : Option Bool :=
 iter (fun (v : (((List ((List UInt8) × (Int × (Int × Unit)))) × (Int × ((Option (List (((List UInt8) × ((List UInt8) × Unit)) × (Int × (Int × (Int × (Int × Unit))))))) × Unit))) × Int × Int × Int)) r => z1z N asked c l v.1 v.2.1 v.2.2.1 v.2.2.2 (fun r_ n last i => (r (r_, n, last, i))) k0 k1) N (r_, n, last, i)

def z3t (N : Nat) (i : ((List ((List UInt8) × ((List UInt8) × (Int × Unit)))) × ((List UInt8) × (Int × (Int × Unit))) × (List Int))) (v : (((List ((List UInt8) × (Int × (Int × Unit)))) × (Int × ((Option (List (((List UInt8) × ((List UInt8) × Unit)) × (Int × (Int × (Int × (Int × Unit))))))) × Unit))) × Int × Int × Int)) (r : (((List ((List UInt8) × (Int × (Int × Unit)))) × (Int × ((Option (List (((List UInt8) × ((List UInt8) × Unit)) × (Int × (Int × (Int × (Int × Unit))))))) × Unit))) × Int × Int × Int) -> Option Bool) (K : Ex -> List A -> Option Bool) : Option Bool :=
 z1z N i.1 i.2.1 i.2.2 v.1 v.2.1 v.2.2.1 v.2.2.2 (fun r_ n last i => (r (r_, n, last, i))) (fun a0 => (K .ret (mkS [(6, .v .bool)] 137 (a0, ())))) (fun a2 => (K (.exit 0) (mkS [(3, .box (.pair .str (.pair (.int .i64) (.pair (.int .i64) .unit)))), (1, .box (.arr 2 (.int .i64))), (3, .v (.int .i64))] 134 (i.2.1, i.2.2, a2, ()))))

def z3m (N : Nat) : Hd Bool := fun st K => (unS [(1, .v (.sl (.pair .str (.pair .str (.pair (.int .i64) .unit))))), (1, .box (.pair .str (.pair (.int .i64) (.pair (.int .i64) .unit)))), (1, .box (.arr 2 (.int .i64))), (1, .box (.pair (.own (.pair .str (.pair (.int .i64) (.pair (.int .i64) .unit)))) (.pair (.int .i64) (.pair (.mp (.pair .str (.pair .str .unit)) (.pair (.int .i64) (.pair (.int .i64) (.pair (.int .i64) (.pair (.int .i64) .unit))))) .unit)))), (1, .v (.int .i64)), (0, .v (.int .i64)), (0, .v (.int .i64))] 132 (restr [11, 1, 10, 7, 5, 9, 3] 0 st)).bind fun x => iter (fun v r => z3t N ((fun x => (x.1, x.2.1, x.2.2.1)) x) v r K) N ((fun x => (x.2.2.2.1, x.2.2.2.2.1, x.2.2.2.2.2.1, x.2.2.2.2.2.2.1)) x)

def z7n (N : Nat) : Tab Bool := [([0, 1, 0, 0, 1, 0, 1, 1, 1, 1, 1, 1, 1], z3l N)]

theorem z70 {N : Nat} {c : Ctx} (hb : Base Go.Proofs.Try.prog (zf N) c) : z16 Go.Proofs.Try.prog c (zl z7 [0, 1, 0, 1, 1, 1, 1, 1, 1, 1]) (z3m N) :=
  zkm (s := [(1, .v (.sl (.pair .str (.pair .str (.pair (.int .i64) .unit))))), (1, .box (.pair .str (.pair (.int .i64) (.pair (.int .i64) .unit)))), (1, .box (.arr 2 (.int .i64))), (1, .box (.pair (.own (.pair .str (.pair (.int .i64) (.pair (.int .i64) .unit)))) (.pair (.int .i64) (.pair (.mp (.pair .str (.pair .str .unit)) (.pair (.int .i64) (.pair (.int .i64) (.pair (.int .i64) (.pair (.int .i64) .unit))))) .unit)))), (1, .v (.int .i64)), (0, .v (.int .i64)), (0, .v (.int .i64))]) (m := 132) (z3t N) [11, 1, 10, 7, 5, 9, 3] N (fun x => (x.1, x.2.1, x.2.2.1)) (fun x => (x.2.2.2.1, x.2.2.2.2.1, x.2.2.2.2.2.1, x.2.2.2.2.2.2.1)) (fun i v => (i.1, i.2.1, i.2.2, v.1, v.2.1, v.2.2.1, v.2.2.2, ())) (fun _ => rfl) (zp hb N (z7n N) zh z7 (TabOk.cons (z6z hb) TabOk.nil) [0, 0, 1, 0, 1, 1, 1, 1, 1, 1, 1] _ rfl) (fun i v r K => by kernel_rfl)

def z11 (N : Nat) (c : ((List UInt8) × (Int × (Int × Unit)))) (asked : (List ((List UInt8) × ((List UInt8) × (Int × Unit))))) (l : (List Int)) : Option Bool :=
 (zbg N ([(([(103 : UInt8), (111 : UInt8), (108 : UInt8), (100 : UInt8)] : List UInt8), c.2), (([(102 : UInt8), (114 : UInt8), (101 : UInt8), (101 : UInt8)] : List UInt8), ((5 : Int), ((1 : Int), ())))] : List ((List UInt8) × (Int × (Int × Unit)))) (0 : Int)).bind fun y =>
 z27 N asked (([(103 : UInt8), (111 : UInt8), (108 : UInt8), (100 : UInt8)] : List UInt8), c.2) l y.1 y.2.1
 (fun x6 => some x6)
 (cond (Option.isSome y.1)
 (z3h N asked (([(103 : UInt8), (111 : UInt8), (108 : UInt8), (100 : UInt8)] : List UInt8), c.2) l (Option.getD y.1 (([] : List ((List UInt8) × (Int × (Int × Unit)))), ((0 : Int), ((Option.none), ())))) (0 : Int) (0 : Int) (0 : Int)
 (fun x61 => some x61)
 (fun n => cond (decide (n <= c.2.1))
 ((z1f N).bind fun y1 =>
 some y1)
 (cond (decide ((0 : Int) < c.2.2.1))
 (cond ((if (c.2.2.1 > (1 : Int)) then c.2.2.1 else (1 : Int)) == (0 : Int))
 (none)
 (cond (decide (1 < (List.length l)))
 (cond (decide ((Go.IntKind.wrap Go.IntKind.i64 (Int.tdiv (Go.IntKind.wrap Go.IntKind.i64 ((Go.IntKind.wrap Go.IntKind.i64 (n - c.2.1)) - (1 : Int))) (if (c.2.2.1 > (1 : Int)) then c.2.2.1 else (1 : Int)))) < (List.getD l 1 (0 : Int))))
 ((z1f N).bind fun y2 =>
 some y2)
 (some false))
 (none)))
 (some false))))
 (some false))

def z4c (N : Nat) : Tab Bool := [([0, 1, 1, 1], z3o N), ([0, 1, 0, 1, 1, 1, 1, 1, 1, 1], z3m N)]

theorem z6i (N : Nat) (x : z2a [(0, .v (.pair .str (.pair (.int .i64) (.pair (.int .i64) .unit)))), (0, .v (.sl (.pair .str (.pair .str (.pair (.int .i64) .unit))))), (0, .v (.arr 2 (.int .i64)))]) : zbl (zf N) N (z4c N) zh Go.Proofs.Try.f4 (mkS [(0, .v (.pair .str (.pair (.int .i64) (.pair (.int .i64) .unit)))), (0, .v (.sl (.pair .str (.pair .str (.pair (.int .i64) .unit))))), (0, .v (.arr 2 (.int .i64)))] 0 x) (z5m (.v .bool) 3) = z11 N x.1 x.2.1 x.2.2.1 := by kernel_rfl

def z6v (N : Nat) : List A -> Res := z1u [(0, .v (.pair .str (.pair (.int .i64) (.pair (.int .i64) .unit)))), (0, .v (.sl (.pair .str (.pair .str (.pair (.int .i64) .unit))))), (0, .v (.arr 2 (.int .i64)))] (fun x => z11 N x.1 x.2.1 x.2.2.1) (za8 (.v .bool) 3)

theorem z7q (N : Nat) : Contract Go.Proofs.Try.prog zk 4 (z6v N) :=
  Contract.of (E := zf N) (H := z4c N) (L := zh) (N := N) (body := z7) (K := (z5m (.v .bool) 3)) (z73 N) Go.Proofs.Try.func4 (by kernel_rfl) (by decide) (fun _ hb => (TabOk.cons (z72 hb) (TabOk.cons (z70 hb) TabOk.nil))) (fun x y h => by rw [z6i]; exact h) (z1l (s := (.v .bool)) (m := 3))

end
end Go.Proofs.YtdeemkigjeemjaaLg

set_option linter.all false
set_option maxRecDepth 100000
namespace Go.Proofs.YtdeemkigjeemjaaLg
noncomputable section
open Go Go.Lift Go.Proofs.YtdeemkigjeemjaaPx

theorem ztq (N : Nat) {a b : Int} (ha : I64 a) (hb : I64 b) : zgp N a b = some (zl8 (a + b)) := by
  simp only [zgp, ze5, ze4, ze3, ze2, zla, zl8, I64, Bool.cond_eq_ite, decide_eq_true_eq, Bool.false_eq_true, if_false] at *
  repeat' split
  all_goals simp only [Option.some.injEq]
  all_goals omega

theorem ztp (N : Nat) (b : Bool) : zk2 N b = some (if b then -9223372036854775808 else 9223372036854775807) := by
  cases b <;> rfl

theorem zr8 (N : Nat) {a b : Int} (ha : I64 a) (hb : I64 b) (ha0 : a ≠ 0) (hb0 : b ≠ 0) : z4f N a b = some (decide (¬ I64 (a * b))) := by
  have hm : ∀ {b : Int}, b = -1 -> I64 b -> ¬ I64 (-9223372036854775808 * b) := by intro b h _; subst h; unfold I64; omega
  simp only [z4f, z5p, z5o, Bool.cond_eq_ite, beq_iff_eq, Option.some.injEq]
  by_cases h1 : a = -9223372036854775808 /\ b = -1
  . obtain ⟨rfl, rfl⟩ := h1
    simp [I64]
  by_cases h2 : b = -9223372036854775808 /\ a = -1
  . obtain ⟨rfl, rfl⟩ := h2
    simp [I64]
  have e : ((IntKind.wrap .i64 ((IntKind.wrap .i64 (a * b)).tdiv b)) != a) = decide (¬ I64 (a * b)) := by
    rw [Bool.eq_iff_iff, bne_iff_ne, decide_eq_true_eq]
    exact zke ha hb hb0 h1
  have hab : ∀ (X Y : Option Bool), (if a = -9223372036854775808 then if b = -1 then X else if b = -9223372036854775808 then (if (a == -1) = true then X else Y) else Y else if b = -9223372036854775808 then (if (a == -1) = true then X else Y) else Y) = Y := by
    intro X Y
    repeat' split
    all_goals first
      | rfl
      | (exfalso; simp_all)
  have := hab (some true) (if b = 0 then none else some ((IntKind.wrap .i64 ((IntKind.wrap .i64 (a * b)).tdiv b)) != a))
  rw [if_neg hb0, e] at this
  rw [<- this]
  rw [if_neg hb0, e]
  repeat' split
  all_goals first
    | rfl
    | (exfalso; simp_all)

theorem ztn (N : Nat) {a b : Int} (ha : I64 a) (hb : I64 b) : zgn N a b = some (zl8 (a * b)) := by
  simp only [zgn, ze1, ze0, Bool.cond_eq_ite, beq_iff_eq]
  by_cases ha0 : a = 0
  . subst ha0; simp [zl8]
  by_cases hb0 : b = 0
  . subst hb0; simp [zl8]
  rw [if_neg ha0, if_neg hb0, zr8 N ha hb ha0 hb0]
  simp only [Option.bind_some, ztp, decide_eq_true_eq]
  by_cases hi : I64 (a * b)
  . rw [if_neg (by simpa using hi), z5n hi, zwj hi]
  . rw [if_pos hi]
    have hs := zs2 ha0 hb0
    rcases hs with ⟨h, hp⟩ | ⟨h, hp⟩
    . rw [zwk (by unfold I64 at hi; omega)]
      rcases h with ⟨h1, h2⟩ | ⟨h1, h2⟩
      . simp [show ¬ a < 0 by omega, show ¬ b < 0 by omega]
      . simp [h1, h2]
    . rw [zwi (by unfold I64 at hi; omega)]
      rcases h with ⟨h1, h2⟩ | ⟨h1, h2⟩
      . simp [show ¬ a < 0 by omega, h2]
      . simp [h1, show ¬ b < 0 by omega]

end
end Go.Proofs.YtdeemkigjeemjaaLg

set_option linter.all false
namespace Go.Proofs.YtdeemkigjeemjaaPx
noncomputable section
open Go Go.Lift

theorem zcm {i : Nat} (h : i < 9223372036854775807) : IntKind.wrap .i64 ((i : Int) + 1) = ((i + 1 : Nat) : Int) := by
  rw [z5n (by unfold I64; omega)]; omega

theorem zua {α : Type} (l : List α) (d : α) (i : Nat) (h : i < l.length) : l.getD i d ∈ l := by
  rw [List.getD_eq_getElem?_getD, List.getElem?_eq_getElem h]; simp

theorem zml {α : Type} (l : List α) (d : α) (i : Nat) (h : i < l.length) : l.drop i = l.getD i d :: l.drop (i + 1) := by
  rw [List.getD_eq_getElem?_getD, List.getElem?_eq_getElem h, Option.getD_some, List.drop_eq_getElem_cons h]

theorem zmk {α : Type} (l : List α) {i : Nat} (h : l.length <= i) : l.drop i = [] := List.drop_of_length_le h

theorem z54 {p : Prop} [Decidable p] (h : p) : decide p = true := decide_eq_true h
theorem z75 {p : Prop} [Decidable p] (h : ¬ p) : decide p = false := decide_eq_false h

theorem zue {α : Type} (l : List α) (n : Nat) : cut l 0 n = l.take n := by simp [cut]

end
end Go.Proofs.YtdeemkigjeemjaaPx

set_option linter.all false
namespace Go.Proofs.YtdeemkigjeemjaaLg
noncomputable section
open Go Go.Lift Go.Proofs.YtdeemkigjeemjaaPx

abbrev BK : Type := Int × Int × Int × Int × Unit
abbrev tB : T := .pair (.int .i64) (.pair (.int .i64) (.pair (.int .i64) (.pair (.int .i64) .unit)))

def zgd (n : Int) : Prop := 0 <= n /\ n <= 1099511627776
def z4w (b : BK) : Prop := zgd b.1 /\ zgd b.2.1 /\ zgd b.2.2.2.1 /\ 0 <= b.2.2.1 /\ b.2.2.1 <= b.1
instance (n : Int) : Decidable (zgd n) := by unfold zgd; infer_instance
instance (b : BK) : Decidable (z4w b) := by unfold z4w; infer_instance
theorem zqx (N : Nat) (n : Int) : z2m N n = some (decide (zgd n)) := by
  unfold z2m zgd
  by_cases h : 0 <= n
  . rw [z1d (z54 h)]; simp [h]
  . rw [z1n (z75 h)]; simp [h]

theorem zoj (N : Nat) (b : BK) : z4d N b = some (decide (z4w b)) := by
  simp only [z4d, zqx, Option.bind_some, z4w]
  by_cases h1 : zgd b.1 <;> by_cases h2 : zgd b.2.1 <;> by_cases h3 : zgd b.2.2.2.1 <;> by_cases h4 : 0 <= b.2.2.1 <;> simp [h1, h2, h3, h4]

def atB (b : BK) (now : Int) : BK :=
 if z4w b /\ b.2.2.2.1 < now /\ now <= 1099511627776 then (b.1, b.2.1, min b.1 (b.2.2.1 + b.2.1 * (now - b.2.2.2.1)), now, ()) else b

theorem at_eq (N : Nat) (b : BK) {now : Int} (hn : I64 now) : z3y N b now = some (atB b now) := by
  simp only [z3y, zb6, zb5, zoj, Option.bind_some]
  unfold atB
  by_cases hr : z4w b
  . rw [z1n (by simp [hr])]
    by_cases h1 : now <= b.2.2.2.1
    . rw [z1d (z54 h1), if_neg (by omega)]; rfl
    rw [z1n (z75 h1)]
    by_cases h2 : 1099511627776 < now
    . rw [z1d (z54 h2), if_neg (by omega)]
    rw [z1n (z75 h2), if_pos ⟨hr, by omega, by omega⟩]
    obtain ⟨⟨c0, c1⟩, ⟨f0, f1⟩, ⟨a0, a1⟩, g0, g1⟩ := hr
    have hp : 0 <= b.2.1 * (now - b.2.2.2.1) := Int.mul_nonneg f0 (by omega)
    rw [z5n (x := now - b.2.2.2.1) (by unfold I64; omega), ztn _ (by unfold I64; omega) (by unfold I64; omega), Option.bind_some, ztq _ (by unfold I64; omega) (zuh _), Option.bind_some]
    generalize b.2.1 * (now - b.2.2.2.1) = p at *
    have e : (if b.1 < zl8 (b.2.2.1 + zl8 p) then b.1 else zl8 (b.2.2.1 + zl8 p)) = min b.1 (b.2.2.1 + p) := by
      unfold zl8
      repeat' split
      all_goals omega
    rw [e]
  . rw [z1d (by simp [hr]), if_neg (fun h => hr h.1)]; rfl

theorem zol {b : BK} (now : Int) (h : z4w b) : z4w (atB b now) := by
  unfold atB
  split
  . rename_i hc
    obtain ⟨⟨c0, c1⟩, ⟨f0, f1⟩, ⟨a0, a1⟩, g0, g1⟩ := h
    have hp : 0 <= b.2.1 * (now - b.2.2.2.1) := Int.mul_nonneg f0 (by omega)
    exact ⟨⟨c0, c1⟩, ⟨f0, f1⟩, ⟨by dsimp only; omega, by dsimp only; omega⟩, by dsimp only; omega, by dsimp only; omega⟩
  . exact h

def z63 (b : BK) (now : Int) : BK × Bool × Unit :=
 if z4w b /\ 0 < (atB b now).2.2.1 then (((atB b now).1, (atB b now).2.1, (atB b now).2.2.1 - 1, (atB b now).2.2.2), true, ()) else (atB b now, false, ())

theorem zpn {b : BK} {now : Int} (h : z4w (atB b now)) : z4w b := by
  unfold atB at h
  split at h
  . rename_i hc; exact hc.1
  . exact h

theorem zvy (N : Nat) (b : BK) {now : Int} (hn : I64 now) : z2n N b now = some (z63 b now) := by
  simp only [z2n, z7r, at_eq N b hn, Option.bind_some, zoj]
  unfold z63
  by_cases hr : z4w b
  . have hr' := zol now hr
    rw [z1d (z54 hr')]
    obtain ⟨hc, _, _, g0, g1⟩ := hr'
    generalize atB b now = q at *
    obtain ⟨c, f, h, t, u⟩ := q
    dsimp only at *
    obtain ⟨q1, q2⟩ := hc
    rw [z5n (x := h - 1) (by unfold I64; omega)]
    have hm : (if (0 : Int) > h - 1 then (0 : Int) else h - 1) = max (h - 1) 0 := by split <;> omega
    rw [hm]
    by_cases h0 : 0 < h
    . rw [if_pos ⟨hr, h0⟩, show max (h - 1) 0 = h - 1 by omega]
      have : eqD tB (c, f, h - 1, t, u) (c, f, h, t, u) = false := by
        rw [Bool.eq_false_iff]
        intro e
        have := (zes tB _ _ rfl).1 e
        have h3 : h - 1 = h := congrArg (fun q : BK => q.2.2.1) this
        omega
      rw [this]; rfl
    . rw [if_neg (fun hh => h0 hh.2), show max (h - 1) 0 = h by omega, zp1 (t := tB) rfl]
      rfl
  . have hr' : ¬ z4w (atB b now) := fun h => hr (zpn h)
    rw [z1n (z75 hr'), if_neg (fun h => hr h.1), zp1 (t := tB) rfl]
    rfl


def zqb (t from_ long : Int) : Bool := decide (from_ <= t /\ t - from_ <= long)

structure Win (from_ long : Int) (b : BK) (n : Int) : Prop where
  right : z4w b
  pos : 0 <= n
  ahead : b.2.2.2.1 < from_ -> n = 0
  most : n <= b.1 + b.2.1 * long
  now : from_ <= b.2.2.2.1 -> b.2.2.2.1 - from_ <= long -> n + b.2.2.1 <= b.1 + b.2.1 * (b.2.2.2.1 - from_)

theorem zl4 {b : BK} (now : Int) (h : z4w b) : b.2.2.2.1 <= (atB b now).2.2.2.1 /\ (atB b now).1 = b.1 /\ (atB b now).2.1 = b.2.1 := by
  unfold atB; split
  . rename_i hc; exact ⟨by dsimp only; omega, rfl, rfl⟩
  . exact ⟨Int.le_refl _, rfl, rfl⟩

theorem zut {from_ long : Int} {b : BK} {n : Int} (hf : 0 <= from_) (hl : 0 <= long) (h : Win from_ long b n) (now : Int) : Win from_ long (atB b now) n := by
  obtain ⟨hr, h0, ha, hm, hn⟩ := h
  have hr' := zol now hr
  obtain ⟨ht, hc, hfi⟩ := zl4 now hr
  have hr2 := hr'
  obtain ⟨⟨c0, c1⟩, ⟨f0, f1⟩, ⟨a0, a1⟩, g0, g1⟩ := hr
  unfold atB at *
  split at hr'
  . rename_i hcnd
    rw [if_pos hcnd] at *
    refine ⟨hr2, h0, fun h => ha (by dsimp only at h; omega), hm, fun h1 h2 => ?_⟩
    dsimp only at *
    by_cases h3 : b.2.2.2.1 < from_
    . have := ha h3
      have hp : 0 <= b.2.1 * (now - from_) := Int.mul_nonneg f0 (by omega)
      omega
    . have := hn (by omega) (by omega)
      have hd : b.2.1 * (now - from_) = b.2.1 * (b.2.2.2.1 - from_) + b.2.1 * (now - b.2.2.2.1) := by rw [<- Int.mul_add]; congr 1; omega
      omega
  . rename_i hcnd
    rw [if_neg hcnd] at *
    exact ⟨hr2, h0, ha, hm, hn⟩

theorem ztj {from_ long : Int} {b : BK} {n : Int} (hf : 0 <= from_) (hl : 0 <= long) (h : Win from_ long b n) (now : Int) :
    Win from_ long (z63 b now).1 (if (z63 b now).2.1 = true /\ zqb (z63 b now).1.2.2.2.1 from_ long = true then n + 1 else n) /\ b.2.2.2.1 <= (z63 b now).1.2.2.2.1 := by
  have hw := zut hf hl h now
  have ht := (zl4 now h.right).1
  unfold z63
  by_cases h0 : z4w b /\ 0 < (atB b now).2.2.1
  . rw [if_pos h0]
    obtain ⟨hr, p0, ha, hm, hn⟩ := hw
    generalize atB b now = q at *
    obtain ⟨c, f, x, t, u⟩ := q
    obtain ⟨⟨c0, c1⟩, ⟨f0, f1⟩, ⟨a0, a1⟩, g0, g1⟩ := hr
    dsimp only at *
    refine ⟨?_, ht⟩
    by_cases hin : from_ <= t /\ t - from_ <= long
    . rw [if_pos ⟨rfl, by simp only [zqb, decide_eq_true_eq]; exact hin⟩]
      have := hn hin.1 hin.2
      have hp : f * long = f * (t - from_) + f * (long - (t - from_)) := by rw [<- Int.mul_add]; congr 1; omega
      have hp0 : 0 <= f * (long - (t - from_)) := Int.mul_nonneg f0 (by omega)
      exact ⟨⟨⟨c0, c1⟩, ⟨f0, f1⟩, ⟨a0, a1⟩, by dsimp only; omega, by dsimp only; omega⟩, by omega, fun hh => by dsimp only at hh; omega, by dsimp only; omega, fun _ _ => by dsimp only; omega⟩
    . rw [if_neg (fun hh => hin (by simpa [zqb] using hh.2))]
      exact ⟨⟨⟨c0, c1⟩, ⟨f0, f1⟩, ⟨a0, a1⟩, by dsimp only; omega, by dsimp only; omega⟩, p0, ha, hm, fun h1 h2 => absurd ⟨h1, h2⟩ hin⟩
  . rw [if_neg h0]
    refine ⟨?_, ht⟩
    rw [if_neg (fun hh => by cases hh.1)]
    exact hw

end
end Go.Proofs.YtdeemkigjeemjaaLg
