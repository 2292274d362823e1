import Derived.Test.YtdeemkigjeemjaaLgPrPn2
import Derived.WalkKit
import Derived.Tactics
import Derived.Tactics2
import Derived.Defers
import Derived.Lib.Hide
import Derived.Below
import Derived.Recover
import Derived.Orders
import Derived.WalkSmall
import Derived.LoopN
import Derived.Deep.RegionHeld3
import Derived.Laws.IdiomStrings
import Derived.Test.YtdeemkigjeemjaaLgW
import Derived.Test.YtdeemkigjeemjaaChecked
import Derived.KernelRfl
import Derived.Test.YtdeemkigjeemjaaLgPrPn1
set_option linter.all false
set_option maxRecDepth 100000
namespace Go.Proofs.YtdeemkigjeemjaaLg
noncomputable section
open Go Go.Lift

def ty3 : TyI := ⟨(Go.TypeDesc.int Go.IntKind.i64), 1, 8, (.int .i64), (0 : Int), false⟩

theorem ztp : TyOk Go.Proofs.Try.prog 3 ty3 := TyOk.of (by kernel_rfl) (by kernel_rfl) (by kernel_rfl) (by kernel_rfl)

def ty4 : TyI := ⟨Go.TypeDesc.bool, 1, 1, .bool, false, false⟩

theorem zto : TyOk Go.Proofs.Try.prog 4 ty4 := TyOk.of (by kernel_rfl) (by kernel_rfl) (by kernel_rfl) (by kernel_rfl)

def ty5 : TyI := ⟨(Go.TypeDesc.int Go.IntKind.u8), 1, 1, (.int .u8), (0 : Int), false⟩

theorem ztn : TyOk Go.Proofs.Try.prog 5 ty5 := TyOk.of (by kernel_rfl) (by kernel_rfl) (by kernel_rfl) (by kernel_rfl)

def ty9 : TyI := ⟨Go.TypeDesc.string, 1, 16, .str, ([] : List UInt8), false⟩

theorem ztm : TyOk Go.Proofs.Try.prog 9 ty9 := TyOk.of (by kernel_rfl) (by kernel_rfl) (by kernel_rfl) (by kernel_rfl)

def ty21 : TyI := ⟨(Go.TypeDesc.int Go.IntKind.i32), 1, 4, (.int .i32), (0 : Int), false⟩

theorem zsw : TyOk Go.Proofs.Try.prog 21 ty21 := TyOk.of (by kernel_rfl) (by kernel_rfl) (by kernel_rfl) (by kernel_rfl)

def ty22 : TyI := ⟨(Go.TypeDesc.slice 43), 1, 24, (.sl (.pair .str (.pair (.int .i64) (.pair (.int .i64) .unit)))), ([] : List ((List UInt8) × (Int × (Int × Unit)))), false⟩

theorem zsv : TyOk Go.Proofs.Try.prog 22 ty22 := TyOk.of (by kernel_rfl) (by kernel_rfl) (by kernel_rfl) (by kernel_rfl)

def ty23 : TyI := ⟨(Go.TypeDesc.slice 31), 1, 24, (.sl (.pair .str (.pair .str (.pair (.int .i64) .unit)))), ([] : List ((List UInt8) × ((List UInt8) × (Int × Unit)))), false⟩

theorem zsu : TyOk Go.Proofs.Try.prog 23 ty23 := TyOk.of (by kernel_rfl) (by kernel_rfl) (by kernel_rfl) (by kernel_rfl)

def ty25 : TyI := ⟨(Go.TypeDesc.pointer 48), 1, 8, .opq, (Go.Value.pointer none), false⟩

theorem zst : TyOk Go.Proofs.Try.prog 25 ty25 := TyOk.of (by kernel_rfl) (by kernel_rfl) (by kernel_rfl) (by kernel_rfl)

def ty26 : TyI := ⟨(Go.TypeDesc.int Go.IntKind.i64), 1, 8, (.int .i64), (0 : Int), false⟩

theorem zss : TyOk Go.Proofs.Try.prog 26 ty26 := TyOk.of (by kernel_rfl) (by kernel_rfl) (by kernel_rfl) (by kernel_rfl)

def ty31 : TyI := ⟨(Go.TypeDesc.struct (List.toArray ([(Go.Field.mk "Tenant" 9 0 false "" "" 0), (Go.Field.mk "Class" 9 1 false "" "" 16), (Go.Field.mk "Now" 3 2 false "" "" 32)] : List Go.Field))), 3, 40, (.pair .str (.pair .str (.pair (.int .i64) .unit))), (([] : List UInt8), ([] : List UInt8), (0 : Int), ()), true⟩

theorem zsr : TyOk Go.Proofs.Try.prog 31 ty31 := TyOk.of (by kernel_rfl) (by kernel_rfl) (by kernel_rfl) (by kernel_rfl)

def ty34 : TyI := ⟨(Go.TypeDesc.struct (List.toArray ([(Go.Field.mk "Cap" 3 0 false "" "" 0), (Go.Field.mk "Fill" 3 1 false "" "" 8), (Go.Field.mk "Have" 3 2 false "" "" 16), (Go.Field.mk "At" 3 3 false "" "" 24)] : List Go.Field))), 4, 32, (.pair (.int .i64) (.pair (.int .i64) (.pair (.int .i64) (.pair (.int .i64) .unit)))), ((0 : Int), (0 : Int), (0 : Int), (0 : Int), ()), true⟩

theorem zsq : TyOk Go.Proofs.Try.prog 34 ty34 := TyOk.of (by kernel_rfl) (by kernel_rfl) (by kernel_rfl) (by kernel_rfl)

def ty43 : TyI := ⟨(Go.TypeDesc.struct (List.toArray ([(Go.Field.mk "Name" 9 0 false "" "" 0), (Go.Field.mk "Cap" 3 1 false "" "" 16), (Go.Field.mk "Fill" 3 2 false "" "" 24)] : List Go.Field))), 3, 32, (.pair .str (.pair (.int .i64) (.pair (.int .i64) .unit))), (([] : List UInt8), (0 : Int), (0 : Int), ()), true⟩

theorem zop : TyOk Go.Proofs.Try.prog 43 ty43 := TyOk.of (by kernel_rfl) (by kernel_rfl) (by kernel_rfl) (by kernel_rfl)

def ty44 : TyI := ⟨(Go.TypeDesc.array 2 3), 2, 16, (.arr 2 (.int .i64)), ([(0 : Int), (0 : Int)] : List Int), true⟩

theorem zsp : TyOk Go.Proofs.Try.prog 44 ty44 := TyOk.of (by kernel_rfl) (by kernel_rfl) (by kernel_rfl) (by kernel_rfl)

def ty46 : TyI := ⟨(Go.TypeDesc.map 58 54), 1, 8, .opq, (Go.Value.map none), false⟩

theorem zso : TyOk Go.Proofs.Try.prog 46 ty46 := TyOk.of (by kernel_rfl) (by kernel_rfl) (by kernel_rfl) (by kernel_rfl)

def ty48 : TyI := ⟨(Go.TypeDesc.struct (List.toArray ([(Go.Field.mk "classes" 22 0 false "" "porter/rate" 0), (Go.Field.mk "start" 3 1 false "" "porter/rate" 24), (Go.Field.mk "buckets" 46 2 false "" "porter/rate" 32)] : List Go.Field))), 3, 40, (.pair (.sl (.pair .str (.pair (.int .i64) (.pair (.int .i64) .unit)))) (.pair (.int .i64) (.pair .opq .unit))), (([] : List ((List UInt8) × (Int × (Int × Unit)))), (0 : Int), (Go.Value.map none), ()), true⟩

theorem zsn : TyOk Go.Proofs.Try.prog 48 ty48 := TyOk.of (by kernel_rfl) (by kernel_rfl) (by kernel_rfl) (by kernel_rfl)

def ty54 : TyI := ⟨(Go.TypeDesc.struct (List.toArray ([(Go.Field.mk "Cap" 3 0 false "" "" 0), (Go.Field.mk "Fill" 3 1 false "" "" 8), (Go.Field.mk "Have" 3 2 false "" "" 16), (Go.Field.mk "At" 3 3 false "" "" 24)] : List Go.Field))), 4, 32, (.pair (.int .i64) (.pair (.int .i64) (.pair (.int .i64) (.pair (.int .i64) .unit)))), ((0 : Int), (0 : Int), (0 : Int), (0 : Int), ()), true⟩

theorem zsm : TyOk Go.Proofs.Try.prog 54 ty54 := TyOk.of (by kernel_rfl) (by kernel_rfl) (by kernel_rfl) (by kernel_rfl)

def ty58 : TyI := ⟨(Go.TypeDesc.struct (List.toArray ([(Go.Field.mk "tenant" 9 0 false "" "porter/rate" 0), (Go.Field.mk "class" 9 1 false "" "porter/rate" 16)] : List Go.Field))), 2, 32, (.pair .str (.pair .str .unit)), (([] : List UInt8), ([] : List UInt8), ()), true⟩

theorem zsl : TyOk Go.Proofs.Try.prog 58 ty58 := TyOk.of (by kernel_rfl) (by kernel_rfl) (by kernel_rfl) (by kernel_rfl)

def ty59 : TyI := ⟨(Go.TypeDesc.func (List.toArray ([58] : List Nat)) (List.toArray ([54, 4] : List Nat)) false), 1, 8, .opq, Go.Value.nilFunc, false⟩

theorem zsk : TyOk Go.Proofs.Try.prog 59 ty59 := TyOk.of (by kernel_rfl) (by kernel_rfl) (by kernel_rfl) (by kernel_rfl)

def ty64 : TyI := ⟨(Go.TypeDesc.func (List.toArray ([21, 4] : List Nat)) (List.toArray ([4] : List Nat)) false), 1, 8, .opq, Go.Value.nilFunc, false⟩

theorem zsj : TyOk Go.Proofs.Try.prog 64 ty64 := TyOk.of (by kernel_rfl) (by kernel_rfl) (by kernel_rfl) (by kernel_rfl)

def ty66 : TyI := ⟨(Go.TypeDesc.func (List.toArray ([43] : List Nat)) (List.toArray ([4] : List Nat)) false), 1, 8, .opq, Go.Value.nilFunc, false⟩

theorem zsi : TyOk Go.Proofs.Try.prog 66 ty66 := TyOk.of (by kernel_rfl) (by kernel_rfl) (by kernel_rfl) (by kernel_rfl)

def tys : List (Nat × TyI) := [(3, ty3), (4, ty4), (5, ty5), (9, ty9), (21, ty21), (22, ty22), (23, ty23), (25, ty25), (26, ty26), (31, ty31), (34, ty34), (43, ty43), (44, ty44), (46, ty46), (48, ty48), (54, ty54), (58, ty58), (59, ty59), (64, ty64), (66, ty66)]

theorem z1t : TysOk Go.Proofs.Try.prog tys := TysOk.cons ztp (TysOk.cons zto (TysOk.cons ztn (TysOk.cons ztm (TysOk.cons zsw (TysOk.cons zsv (TysOk.cons zsu (TysOk.cons zst (TysOk.cons zss (TysOk.cons zsr (TysOk.cons zsq (TysOk.cons zop (TysOk.cons zsp (TysOk.cons zso (TysOk.cons zsn (TysOk.cons zsm (TysOk.cons zsl (TysOk.cons zsk (TysOk.cons zsj (TysOk.cons zsi (TysOk.nil))))))))))))))))))))

theorem mixed : Go.Proofs.Try.prog.follows .mixedOrders = true := by kernel_rfl

def za4 : Code := (Go.Proofs.Try.f21.body).getD .skip

def z6j : List (List Nat × List Nat) := [([0], [0]), ([0, 1], [2, 0]), ([1, 1], [2, 0])]

def z44 (N : Nat) : Env := z3q tys zh [] [] [] [0] false [] []

theorem zas (N : Nat) : EnvOk Go.Proofs.Try.prog (z44 N) := zp mixed z1t (FnsOk.nil) (ItsOk.nil)

def z55 (N : Nat) (r_ : ((List ((List UInt8) × (Int × (Int × Unit)))) × (Int × ((Option (List (((List UInt8) × ((List UInt8) × Unit)) × (Int × (Int × (Int × (Int × Unit))))))) × Unit)))) : Option (Bool × (((List ((List UInt8) × (Int × (Int × Unit)))) × (Int × ((Option (List (((List UInt8) × ((List UInt8) × Unit)) × (Int × (Int × (Int × (Int × Unit))))))) × Unit))) × Unit)) :=
 some ((!(!(Option.isSome r_.2.2.1))), (r_, ()))

def z6g (N : Nat) : Tab (Bool × (((List ((List UInt8) × (Int × (Int × Unit)))) × (Int × ((Option (List (((List UInt8) × ((List UInt8) × Unit)) × (Int × (Int × (Int × (Int × Unit))))))) × Unit))) × Unit)) := []

theorem za3 (N : Nat) (x : z21 [(0, .box (.pair (.own (.pair .str (.pair (.int .i64) (.pair (.int .i64) .unit)))) (.pair (.int .i64) (.pair (.mp (.pair .str (.pair .str .unit)) (.pair (.int .i64) (.pair (.int .i64) (.pair (.int .i64) (.pair (.int .i64) .unit))))) .unit))))]) : za0 (z44 N) N (z6g N) z6j Go.Proofs.Try.f21 (mkS [(0, .box (.pair (.own (.pair .str (.pair (.int .i64) (.pair (.int .i64) .unit)))) (.pair (.int .i64) (.pair (.mp (.pair .str (.pair .str .unit)) (.pair (.int .i64) (.pair (.int .i64) (.pair (.int .i64) (.pair (.int .i64) .unit))))) .unit))))] 0 x) (zkb (.v .bool) [(0, .box (.pair (.own (.pair .str (.pair (.int .i64) (.pair (.int .i64) .unit)))) (.pair (.int .i64) (.pair (.mp (.pair .str (.pair .str .unit)) (.pair (.int .i64) (.pair (.int .i64) (.pair (.int .i64) (.pair (.int .i64) .unit))))) .unit))))] 0) = z55 N x.1 := by kernel_rfl

def z54 (N : Nat) : List A -> Res := z1k [(0, .box (.pair (.own (.pair .str (.pair (.int .i64) (.pair (.int .i64) .unit)))) (.pair (.int .i64) (.pair (.mp (.pair .str (.pair .str .unit)) (.pair (.int .i64) (.pair (.int .i64) (.pair (.int .i64) (.pair (.int .i64) .unit))))) .unit))))] (fun x => z55 N x.1) (znu (.v .bool) [(0, .box (.pair (.own (.pair .str (.pair (.int .i64) (.pair (.int .i64) .unit)))) (.pair (.int .i64) (.pair (.mp (.pair .str (.pair .str .unit)) (.pair (.int .i64) (.pair (.int .i64) (.pair (.int .i64) (.pair (.int .i64) .unit))))) .unit))))] 0)

theorem z5t (N : Nat) : Contract Go.Proofs.Try.prog zh 21 (z54 N) :=
  Contract.of (E := z44 N) (H := z6g N) (L := z6j) (N := N) (body := za4) (K := (zkb (.v .bool) [(0, .box (.pair (.own (.pair .str (.pair (.int .i64) (.pair (.int .i64) .unit)))) (.pair (.int .i64) (.pair (.mp (.pair .str (.pair .str .unit)) (.pair (.int .i64) (.pair (.int .i64) (.pair (.int .i64) (.pair (.int .i64) .unit))))) .unit))))] 0)) (zas N) Go.Proofs.Try.func21 (by kernel_rfl) (by decide) (fun _ hb => TabOk.nil) (fun x y h => by rw [za3]; exact h) (ziz (s := (.v .bool)) (os := [(0, .box (.pair (.own (.pair .str (.pair (.int .i64) (.pair (.int .i64) .unit)))) (.pair (.int .i64) (.pair (.mp (.pair .str (.pair .str .unit)) (.pair (.int .i64) (.pair (.int .i64) (.pair (.int .i64) (.pair (.int .i64) .unit))))) .unit))))]) (m := 0))

def z6i : Code := (Go.Proofs.Try.f21.body).getD .skip

def z4f : List (List Nat × List Nat) := [([0], [0]), ([0, 1], [2]), ([1, 1], [2])]

def z2l (N : Nat) : Env := z3q tys zh [] [] [] [] false [] []

theorem z7f (N : Nat) : EnvOk Go.Proofs.Try.prog (z2l N) := zp mixed z1t (FnsOk.nil) (ItsOk.nil)

def z37 (N : Nat) : Option Bool :=
 some false

def z4e (N : Nat) : Tab Bool := []

theorem z6h (N : Nat) (x : z21 [(0, .nilp)]) : za0 (z2l N) N (z4e N) z4f Go.Proofs.Try.f21 (mkS [(0, .nilp)] 0 x) (z4p (.v .bool) 1) = z37 N := by kernel_rfl

def z7e (N : Nat) : List A -> Res := z1k [(0, .nilp)] (fun x => z37 N) (z8t (.v .bool) 1)

theorem z8n (N : Nat) : Contract Go.Proofs.Try.prog zh 21 (z7e N) :=
  Contract.of (E := z2l N) (H := z4e N) (L := z4f) (N := N) (body := z6i) (K := (z4p (.v .bool) 1)) (z7f N) Go.Proofs.Try.func21 (by kernel_rfl) (by decide) (fun _ hb => TabOk.nil) (fun x y h => by rw [z6h]; exact h) (z1d (s := (.v .bool)) (m := 1))

def z13 (N : Nat) : List A -> Res := zhp [(0, .nilp)] (fun x => z37 N) (z8t (.v .bool) 1) (z54 N)

theorem z19 (N : Nat) : Contract Go.Proofs.Try.prog zh 21 (z13 N) := Contract.alt (z8n N) (z5t N)

def ze4 : Code := (Go.Proofs.Try.f16.body).getD .skip

def zbb : List (List Nat × List Nat) := [([0], [0]), ([0, 1], [2]), ([1, 1], [2])]

def z7b (N : Nat) : Env := z3q tys zh [] [] [] [] false [] []

theorem zf6 (N : Nat) : EnvOk Go.Proofs.Try.prog (z7b N) := zp mixed z1t (FnsOk.nil) (ItsOk.nil)

def z43 (N : Nat) (n : Int) : Option Bool :=
 cond (decide ((0 : Int) <= n))
 (some (decide (n <= (1099511627776 : Int))))
 (some false)

def zba (N : Nat) : Tab Bool := []

theorem ze3 (N : Nat) (x : z21 [(0, .v (.int .i64))]) : za0 (z7b N) N (zba N) zbb Go.Proofs.Try.f16 (mkS [(0, .v (.int .i64))] 0 x) (z4p (.v .bool) 1) = z43 N x.1 := by kernel_rfl

def z2k (N : Nat) : List A -> Res := z1k [(0, .v (.int .i64))] (fun x => z43 N x.1) (z8t (.v .bool) 1)

theorem z48 (N : Nat) : Contract Go.Proofs.Try.prog zh 16 (z2k N) :=
  Contract.of (E := z7b N) (H := zba N) (L := zbb) (N := N) (body := ze4) (K := (z4p (.v .bool) 1)) (zf6 N) Go.Proofs.Try.func16 (by kernel_rfl) (by decide) (fun _ hb => TabOk.nil) (fun x y h => by rw [ze3]; exact h) (z1d (s := (.v .bool)) (m := 1))

def z2o : Code := (Go.Proofs.Try.f10.body).getD .skip

def z3n : List (List Nat × List Nat) := [([0], [9, 0, 1]), ([1], [0]), ([0, 0, 1], [0]), ([1, 0, 1], [0])]

def z2g (N : Nat) : Env := z3q tys zh [(16, z2k N), (21, z13 N)] [] [] [0] false [] []

theorem za7 (N : Nat) : EnvOk Go.Proofs.Try.prog (z2g N) := zp mixed z1t (FnsOk.cons (z48 N) (FnsOk.cons (z19 N) (FnsOk.nil))) (ItsOk.nil)

def z59 (N : Nat) (r_ : ((List ((List UInt8) × (Int × (Int × Unit)))) × (Int × ((Option (List (((List UInt8) × ((List UInt8) × Unit)) × (Int × (Int × (Int × (Int × Unit))))))) × Unit)))) (now : Int) (k0 : Bool -> Option ((Unit) × (((List ((List UInt8) × (Int × (Int × Unit)))) × (Int × ((Option (List (((List UInt8) × ((List UInt8) × Unit)) × (Int × (Int × (Int × (Int × Unit))))))) × Unit))) × Unit))) : Option ((Unit) × (((List ((List UInt8) × (Int × (Int × Unit)))) × (Int × ((Option (List (((List UInt8) × ((List UInt8) × Unit)) × (Int × (Int × (Int × (Int × Unit))))))) × Unit))) × Unit)) :=
 cond (!(!(Option.isSome r_.2.2.1)))
 ((z43 N now).bind fun y =>
 k0 y)
 (k0 false)

def z5b (N : Nat) (x : z21 [(0, .box (.pair (.own (.pair .str (.pair (.int .i64) (.pair (.int .i64) .unit)))) (.pair (.int .i64) (.pair (.mp (.pair .str (.pair .str .unit)) (.pair (.int .i64) (.pair (.int .i64) (.pair (.int .i64) (.pair (.int .i64) .unit))))) .unit)))), (0, .v (.int .i64))]) (K : Ex -> List A -> Option ((Unit) × (((List ((List UInt8) × (Int × (Int × Unit)))) × (Int × ((Option (List (((List UInt8) × ((List UInt8) × Unit)) × (Int × (Int × (Int × (Int × Unit))))))) × Unit))) × Unit))) : Option ((Unit) × (((List ((List UInt8) × (Int × (Int × Unit)))) × (Int × ((Option (List (((List UInt8) × ((List UInt8) × Unit)) × (Int × (Int × (Int × (Int × Unit))))))) × Unit))) × Unit)) :=
 z59 N x.1 x.2.1 (fun a2 => (K .normal (mkS [(0, .box (.pair (.own (.pair .str (.pair (.int .i64) (.pair (.int .i64) .unit)))) (.pair (.int .i64) (.pair (.mp (.pair .str (.pair .str .unit)) (.pair (.int .i64) (.pair (.int .i64) (.pair (.int .i64) (.pair (.int .i64) .unit))))) .unit)))), (0, .v (.int .i64)), (7, .v .bool)] 8 (x.1, x.2.1, a2, ()))))

def z5a (N : Nat) : Hd ((Unit) × (((List ((List UInt8) × (Int × (Int × Unit)))) × (Int × ((Option (List (((List UInt8) × ((List UInt8) × Unit)) × (Int × (Int × (Int × (Int × Unit))))))) × Unit))) × Unit)) := fun st K => (unS [(0, .box (.pair (.own (.pair .str (.pair (.int .i64) (.pair (.int .i64) .unit)))) (.pair (.int .i64) (.pair (.mp (.pair .str (.pair .str .unit)) (.pair (.int .i64) (.pair (.int .i64) (.pair (.int .i64) (.pair (.int .i64) .unit))))) .unit)))), (0, .v (.int .i64))] 16 (restr [0, 1] 0 st)).bind fun x => z5b N x K

def zat (N : Nat) : Tab ((Unit) × (((List ((List UInt8) × (Int × (Int × Unit)))) × (Int × ((Option (List (((List UInt8) × ((List UInt8) × Unit)) × (Int × (Int × (Int × (Int × Unit))))))) × Unit))) × Unit)) := []

theorem za6 {N : Nat} {c : Ctx} (hb : Base Go.Proofs.Try.prog (z2g N) c) : z1c Go.Proofs.Try.prog c (zl z2o [0]) (z5a N) :=
  z1q (s := [(0, .box (.pair (.own (.pair .str (.pair (.int .i64) (.pair (.int .i64) .unit)))) (.pair (.int .i64) (.pair (.mp (.pair .str (.pair .str .unit)) (.pair (.int .i64) (.pair (.int .i64) (.pair (.int .i64) (.pair (.int .i64) .unit))))) .unit)))), (0, .v (.int .i64))]) (m := 16) (g := z5b N) [0, 1] (zr hb N (zat N) z3n z2o TabOk.nil [0] _ rfl) (fun x K => by kernel_rfl)

def z88 (N : Nat) (r_ : ((List ((List UInt8) × (Int × (Int × Unit)))) × (Int × ((Option (List (((List UInt8) × ((List UInt8) × Unit)) × (Int × (Int × (Int × (Int × Unit))))))) × Unit)))) (now : Int) : Option ((Unit) × (((List ((List UInt8) × (Int × (Int × Unit)))) × (Int × ((Option (List (((List UInt8) × ((List UInt8) × Unit)) × (Int × (Int × (Int × (Int × Unit))))))) × Unit))) × Unit)) :=
 z59 N r_ now
 (fun x9 => cond x9
 (cond (Option.isSome r_.2.2.1)
 (some ((), ((r_.1, (now, ((Option.some ([] : List (((List UInt8) × ((List UInt8) × Unit)) × (Int × (Int × (Int × (Int × Unit))))))), r_.2.2.2))), ())))
 (none))
 (some ((), (r_, ()))))

def z5w (N : Nat) : Tab ((Unit) × (((List ((List UInt8) × (Int × (Int × Unit)))) × (Int × ((Option (List (((List UInt8) × ((List UInt8) × Unit)) × (Int × (Int × (Int × (Int × Unit))))))) × Unit))) × Unit)) := [([0], z5a N)]

theorem z98 (N : Nat) (x : z21 [(0, .box (.pair (.own (.pair .str (.pair (.int .i64) (.pair (.int .i64) .unit)))) (.pair (.int .i64) (.pair (.mp (.pair .str (.pair .str .unit)) (.pair (.int .i64) (.pair (.int .i64) (.pair (.int .i64) (.pair (.int .i64) .unit))))) .unit)))), (0, .v (.int .i64))]) : za0 (z2g N) N (z5w N) z3n Go.Proofs.Try.f10 (mkS [(0, .box (.pair (.own (.pair .str (.pair (.int .i64) (.pair (.int .i64) .unit)))) (.pair (.int .i64) (.pair (.mp (.pair .str (.pair .str .unit)) (.pair (.int .i64) (.pair (.int .i64) (.pair (.int .i64) (.pair (.int .i64) .unit))))) .unit)))), (0, .v (.int .i64))] 0 x) (zkb (.tup []) [(0, .box (.pair (.own (.pair .str (.pair (.int .i64) (.pair (.int .i64) .unit)))) (.pair (.int .i64) (.pair (.mp (.pair .str (.pair .str .unit)) (.pair (.int .i64) (.pair (.int .i64) (.pair (.int .i64) (.pair (.int .i64) .unit))))) .unit))))] 1) = z88 N x.1 x.2.1 := by kernel_rfl

def z4u (N : Nat) : List A -> Res := z1k [(0, .box (.pair (.own (.pair .str (.pair (.int .i64) (.pair (.int .i64) .unit)))) (.pair (.int .i64) (.pair (.mp (.pair .str (.pair .str .unit)) (.pair (.int .i64) (.pair (.int .i64) (.pair (.int .i64) (.pair (.int .i64) .unit))))) .unit)))), (0, .v (.int .i64))] (fun x => z88 N x.1 x.2.1) (znu (.tup []) [(0, .box (.pair (.own (.pair .str (.pair (.int .i64) (.pair (.int .i64) .unit)))) (.pair (.int .i64) (.pair (.mp (.pair .str (.pair .str .unit)) (.pair (.int .i64) (.pair (.int .i64) (.pair (.int .i64) (.pair (.int .i64) .unit))))) .unit))))] 1)

theorem zau (N : Nat) : Contract Go.Proofs.Try.prog zh 10 (z4u N) :=
  Contract.of (E := z2g N) (H := z5w N) (L := z3n) (N := N) (body := z2o) (K := (zkb (.tup []) [(0, .box (.pair (.own (.pair .str (.pair (.int .i64) (.pair (.int .i64) .unit)))) (.pair (.int .i64) (.pair (.mp (.pair .str (.pair .str .unit)) (.pair (.int .i64) (.pair (.int .i64) (.pair (.int .i64) (.pair (.int .i64) .unit))))) .unit))))] 1)) (za7 N) Go.Proofs.Try.func10 (by kernel_rfl) (by decide) (fun _ hb => (TabOk.cons (za6 hb) TabOk.nil)) (fun x y h => by rw [z98]; exact h) (ziz (s := (.tup [])) (os := [(0, .box (.pair (.own (.pair .str (.pair (.int .i64) (.pair (.int .i64) .unit)))) (.pair (.int .i64) (.pair (.mp (.pair .str (.pair .str .unit)) (.pair (.int .i64) (.pair (.int .i64) (.pair (.int .i64) (.pair (.int .i64) .unit))))) .unit))))]) (m := 1))

def z1r : Code := (Go.Proofs.Try.f10.body).getD .skip

def z2d : List (List Nat × List Nat) := [([0], [9, 0, 1]), ([1], []), ([0, 0, 1], [0]), ([1, 0, 1], [])]

def z1j (N : Nat) : Env := z3q tys zh [(16, z2k N), (21, z13 N)] [] [] [] false [] []

theorem z6q (N : Nat) : EnvOk Go.Proofs.Try.prog (z1j N) := zp mixed z1t (FnsOk.cons (z48 N) (FnsOk.cons (z19 N) (FnsOk.nil))) (ItsOk.nil)

def z3k (N : Nat) (now : Int) (k0 : Bool -> Option (Unit)) : Option (Unit) :=
 k0 false

def z3m (N : Nat) (x : z21 [(0, .nilp), (0, .v (.int .i64))]) (K : Ex -> List A -> Option (Unit)) : Option (Unit) :=
 z3k N x.2.1 (fun a1 => (K .normal (mkS [(0, .nilp), (0, .v (.int .i64)), (7, .v .bool)] 8 ((), x.2.1, a1, ()))))

def z3l (N : Nat) : Hd (Unit) := fun st K => (unS [(0, .nilp), (0, .v (.int .i64))] 16 (restr [0, 1] 0 st)).bind fun x => z3m N x K

def z7k (N : Nat) : Tab (Unit) := []

theorem z6p {N : Nat} {c : Ctx} (hb : Base Go.Proofs.Try.prog (z1j N) c) : z1c Go.Proofs.Try.prog c (zl z1r [0]) (z3l N) :=
  z1q (s := [(0, .nilp), (0, .v (.int .i64))]) (m := 16) (g := z3m N) [0, 1] (zr hb N (z7k N) z2d z1r TabOk.nil [0] _ rfl) (fun x K => by kernel_rfl)

def z30 (N : Nat) (now : Int) : Option (Unit) :=
 z3k N now
 (fun x9 => cond x9
 (none)
 (some ()))

def z3w (N : Nat) : Tab (Unit) := [([0], z3l N)]

theorem z63 (N : Nat) (x : z21 [(0, .nilp), (0, .v (.int .i64))]) : za0 (z1j N) N (z3w N) z2d Go.Proofs.Try.f10 (mkS [(0, .nilp), (0, .v (.int .i64))] 0 x) (z4p (.tup []) 2) = z30 N x.2.1 := by kernel_rfl

def z6o (N : Nat) : List A -> Res := z1k [(0, .nilp), (0, .v (.int .i64))] (fun x => z30 N x.2.1) (z8t (.tup []) 2)

theorem z7l (N : Nat) : Contract Go.Proofs.Try.prog zh 10 (z6o N) :=
  Contract.of (E := z1j N) (H := z3w N) (L := z2d) (N := N) (body := z1r) (K := (z4p (.tup []) 2)) (z6q N) Go.Proofs.Try.func10 (by kernel_rfl) (by decide) (fun _ hb => (TabOk.cons (z6p hb) TabOk.nil)) (fun x y h => by rw [z63]; exact h) (z1d (s := (.tup [])) (m := 2))

def z3h (N : Nat) : List A -> Res := zhp [(0, .nilp), (0, .v (.int .i64))] (fun x => z30 N x.2.1) (z8t (.tup []) 2) (z4u N)

theorem z5p (N : Nat) : Contract Go.Proofs.Try.prog zh 10 (z3h N) := Contract.alt (z7l N) (zau N)

def zc3 : Code := (Go.Proofs.Try.f36.body).getD .skip

def z9l : List (List Nat × List Nat) := [([0], [0]), ([0, 1], [2]), ([1, 1], [2])]

def z5n (N : Nat) : Env := z3q tys zh [] [] [] [] false [] []

theorem zd5 (N : Nat) : EnvOk Go.Proofs.Try.prog (z5n N) := zp mixed z1t (FnsOk.nil) (ItsOk.nil)

def z3u (N : Nat) (n : Int) : Option Bool :=
 cond (decide ((0 : Int) <= n))
 (some (decide (n <= (1099511627776 : Int))))
 (some false)

def z9k (N : Nat) : Tab Bool := []

theorem zc2 (N : Nat) (x : z21 [(0, .v (.int .i64))]) : za0 (z5n N) N (z9k N) z9l Go.Proofs.Try.f36 (mkS [(0, .v (.int .i64))] 0 x) (z4p (.v .bool) 1) = z3u N x.1 := by kernel_rfl

def z74 (N : Nat) : List A -> Res := z1k [(0, .v (.int .i64))] (fun x => z3u N x.1) (z8t (.v .bool) 1)

theorem zee (N : Nat) : Contract Go.Proofs.Try.prog zh 36 (z74 N) :=
  Contract.of (E := z5n N) (H := z9k N) (L := z9l) (N := N) (body := zc3) (K := (z4p (.v .bool) 1)) (zd5 N) Go.Proofs.Try.func36 (by kernel_rfl) (by decide) (fun _ hb => TabOk.nil) (fun x y h => by rw [zc2]; exact h) (z1d (s := (.v .bool)) (m := 1))

def zd7 : Code := (Go.Proofs.Try.f32.body).getD .skip

def zal : List (List Nat × List Nat) := [([0], [1]), ([0, 1], [2]), ([1, 1], [2])]

def z66 (N : Nat) : Env := z3q tys zh [(36, z74 N)] [] [] [] false [] []

theorem zeg (N : Nat) : EnvOk Go.Proofs.Try.prog (z66 N) := zp mixed z1t (FnsOk.cons (zee N) (FnsOk.nil)) (ItsOk.nil)

def z61 (N : Nat) (b : (Int × (Int × (Int × (Int × Unit))))) : Option Bool :=
 (z3u N b.1).bind fun y =>
 cond y
 ((z3u N b.2.1).bind fun y1 =>
 cond y1
 ((z3u N b.2.2.2.1).bind fun y2 =>
 cond y2
 (cond (decide ((0 : Int) <= b.2.2.1))
 (some (decide (b.2.2.1 <= b.1)))
 (some false))
 (some false))
 (some false))
 (some false)

def zak (N : Nat) : Tab Bool := []

theorem zd6 (N : Nat) (x : z21 [(0, .v (.pair (.int .i64) (.pair (.int .i64) (.pair (.int .i64) (.pair (.int .i64) .unit)))))]) : za0 (z66 N) N (zak N) zal Go.Proofs.Try.f32 (mkS [(0, .v (.pair (.int .i64) (.pair (.int .i64) (.pair (.int .i64) (.pair (.int .i64) .unit)))))] 0 x) (z4p (.v .bool) 1) = z61 N x.1 := by kernel_rfl

def z4t (N : Nat) : List A -> Res := z1k [(0, .v (.pair (.int .i64) (.pair (.int .i64) (.pair (.int .i64) (.pair (.int .i64) .unit)))))] (fun x => z61 N x.1) (z8t (.v .bool) 1)

theorem z9n (N : Nat) : Contract Go.Proofs.Try.prog zh 32 (z4t N) :=
  Contract.of (E := z66 N) (H := zak N) (L := zal) (N := N) (body := zd7) (K := (z4p (.v .bool) 1)) (zeg N) Go.Proofs.Try.func32 (by kernel_rfl) (by decide) (fun _ hb => TabOk.nil) (fun x y h => by rw [zd6]; exact h) (z1d (s := (.v .bool)) (m := 1))

def z1n : Code := (Go.Proofs.Try.f37.body).getD .skip

def z3i : List (List Nat × List Nat) := [([0], [0, 1]), ([0, 0, 1], [18, 0, 1]), ([1, 0, 1], [0, 1]), ([0, 0, 1, 0, 1], [4]), ([1, 0, 1, 0, 1], [4]), ([0, 1, 1], [4]), ([1, 1, 1], [4])]

def z2i (N : Nat) : Env := z3q tys zh [] [] [] [] false [] []

theorem zcd (N : Nat) : EnvOk Go.Proofs.Try.prog (z2i N) := zp mixed z1t (FnsOk.nil) (ItsOk.nil)

def z82 (N : Nat) (a : Int) (b : Int) (k0 : Bool -> Option Bool) : Option Bool :=
 cond (a == (-(9223372036854775808 : Int)))
 (cond (b == (-(1 : Int)))
 (k0 true)
 (cond (b == (-(9223372036854775808 : Int)))
 (k0 (a == (-(1 : Int))))
 (k0 false)))
 (cond (b == (-(9223372036854775808 : Int)))
 (k0 (a == (-(1 : Int))))
 (k0 false))

def z86 (N : Nat) (x : z21 [(0, .v (.int .i64)), (0, .v (.int .i64))]) (K : Ex -> List A -> Option Bool) : Option Bool :=
 z82 N x.1 x.2.1 (fun a2 => (K .normal (mkS [(0, .v (.int .i64)), (0, .v (.int .i64)), (16, .v .bool)] 7 (x.1, x.2.1, a2, ()))))

def z84 (N : Nat) : Hd Bool := fun st K => (unS [(0, .v (.int .i64)), (0, .v (.int .i64))] 24 (restr [0, 1] 0 st)).bind fun x => z86 N x K

def zdz (N : Nat) : Tab Bool := []

theorem zcb {N : Nat} {c : Ctx} (hb : Base Go.Proofs.Try.prog (z2i N) c) : z1c Go.Proofs.Try.prog c (zl z1n [0, 0, 1]) (z84 N) :=
  z1q (s := [(0, .v (.int .i64)), (0, .v (.int .i64))]) (m := 24) (g := z86 N) [0, 1] (zr hb N (zdz N) z3i z1n TabOk.nil [0, 0, 1] _ rfl) (fun x K => by kernel_rfl)

def z83 (N : Nat) (a : Int) (b : Int) (k0 : Bool -> Option Bool) (k1 : Option Bool) : Option Bool :=
 z82 N a b
 (fun x18 => cond x18
 (k0 true)
 (k1))

def z87 (N : Nat) (x : z21 [(0, .v (.int .i64)), (0, .v (.int .i64))]) (K : Ex -> List A -> Option Bool) : Option Bool :=
 z83 N x.1 x.2.1 (fun a0 => (K .ret (mkS [(4, .v .bool)] 21 (a0, ())))) (K .normal (mkS [(0, .v (.int .i64)), (0, .v (.int .i64))] 24 (x.1, x.2.1, ())))

def z85 (N : Nat) : Hd Bool := fun st K => (unS [(0, .v (.int .i64)), (0, .v (.int .i64))] 24 (restr [0, 1] 0 st)).bind fun x => z87 N x K

def ze0 (N : Nat) : Tab Bool := [([0, 0, 1], z84 N)]

theorem zcc {N : Nat} {c : Ctx} (hb : Base Go.Proofs.Try.prog (z2i N) c) : z1c Go.Proofs.Try.prog c (zl z1n [0, 1]) (z85 N) :=
  z1q (s := [(0, .v (.int .i64)), (0, .v (.int .i64))]) (m := 24) (g := z87 N) [0, 1] (zr hb N (ze0 N) z3i z1n (TabOk.cons (zcb hb) TabOk.nil) [0, 1] _ rfl) (fun x K => by kernel_rfl)

def z78 (N : Nat) (a : Int) (b : Int) : Option Bool :=
 z83 N a b
 (fun x4 => some x4)
 (cond (b == (0 : Int))
 (none)
 (some ((Go.IntKind.wrap Go.IntKind.i64 (Int.tdiv (Go.IntKind.wrap Go.IntKind.i64 (a * b)) b)) != a)))

def z8z (N : Nat) : Tab Bool := [([0, 1], z85 N)]

theorem zb5 (N : Nat) (x : z21 [(0, .v (.int .i64)), (0, .v (.int .i64))]) : za0 (z2i N) N (z8z N) z3i Go.Proofs.Try.f37 (mkS [(0, .v (.int .i64)), (0, .v (.int .i64))] 0 x) (z4p (.v .bool) 2) = z78 N x.1 x.2.1 := by kernel_rfl

def z6b (N : Nat) : List A -> Res := z1k [(0, .v (.int .i64)), (0, .v (.int .i64))] (fun x => z78 N x.1 x.2.1) (z8t (.v .bool) 2)

theorem ze1 (N : Nat) : Contract Go.Proofs.Try.prog zh 37 (z6b N) :=
  Contract.of (E := z2i N) (H := z8z N) (L := z3i) (N := N) (body := z1n) (K := (z4p (.v .bool) 2)) (zcd N) Go.Proofs.Try.func37 (by kernel_rfl) (by decide) (fun _ hb => (TabOk.cons (zcc hb) TabOk.nil)) (fun x y h => by rw [zb5]; exact h) (z1d (s := (.v .bool)) (m := 2))

def zjn : Code := (Go.Proofs.Try.f38.body).getD .skip

def zjo : List (List Nat × List Nat) := [([0], [0]), ([0, 0, 1], [3]), ([1, 0, 1], []), ([0, 0, 1, 0, 1], [2]), ([1, 0, 1, 0, 1], [2]), ([0, 1, 1], [2]), ([1, 1, 1], [2])]

def zex (N : Nat) : Env := z3q tys zh [] [] [] [] false [] []

theorem zkz (N : Nat) : EnvOk Go.Proofs.Try.prog (zex N) := zp mixed z1t (FnsOk.nil) (ItsOk.nil)

def zl0 (N : Nat) (negative : Bool) : Option Int :=
 cond negative
 (some (-(9223372036854775808 : Int)))
 (some (9223372036854775807 : Int))

def zjl (N : Nat) : Tab Int := []

theorem zjm (N : Nat) (x : z21 [(0, .v .bool)]) : za0 (zex N) N (zjl N) zjo Go.Proofs.Try.f38 (mkS [(0, .v .bool)] 0 x) (z4p (.v (.int .i64)) 1) = zl0 N x.1 := by kernel_rfl

def zew (N : Nat) : List A -> Res := z1k [(0, .v .bool)] (fun x => zl0 N x.1) (z8t (.v (.int .i64)) 1)

theorem znc (N : Nat) : Contract Go.Proofs.Try.prog zh 38 (zew N) :=
  Contract.of (E := zex N) (H := zjl N) (L := zjo) (N := N) (body := zjn) (K := (z4p (.v (.int .i64)) 1)) (zkz N) Go.Proofs.Try.func38 (by kernel_rfl) (by decide) (fun _ hb => TabOk.nil) (fun x y h => by rw [zjm]; exact h) (z1d (s := (.v (.int .i64))) (m := 1))

def z4d : Code := (Go.Proofs.Try.f34.body).getD .skip

def zb6 : List (List Nat × List Nat) := [([0], [0, 1]), ([0, 0, 1], [10, 0, 1]), ([1, 0, 1], [0, 1]), ([0, 0, 1, 0, 1], [4]), ([1, 0, 1, 0, 1], [4]), ([0, 0, 1, 1], [13, 0, 1]), ([1, 0, 1, 1], [0, 1]), ([0, 0, 1, 0, 1, 1], [4]), ([1, 0, 1, 0, 1, 1], [4]), ([0, 1, 1, 1], [4]), ([1, 1, 1, 1], [4])]

def z90 (N : Nat) : Env := z3q tys zh [(38, zew N), (37, z6b N)] [] [] [] false [] []

theorem zl3 (N : Nat) : EnvOk Go.Proofs.Try.prog (z90 N) := zp mixed z1t (FnsOk.cons (znc N) (FnsOk.cons (ze1 N) (FnsOk.nil))) (ItsOk.nil)

def zh7 (N : Nat) (a : Int) (b : Int) (k0 : Bool -> Option Int) : Option Int :=
 cond (a == (0 : Int))
 (k0 true)
 (k0 (b == (0 : Int)))

def zhb (N : Nat) (x : z21 [(0, .v (.int .i64)), (0, .v (.int .i64))]) (K : Ex -> List A -> Option Int) : Option Int :=
 zh7 N x.1 x.2.1 (fun a2 => (K .normal (mkS [(0, .v (.int .i64)), (0, .v (.int .i64)), (8, .v .bool)] 12 (x.1, x.2.1, a2, ()))))

def zh9 (N : Nat) : Hd Int := fun st K => (unS [(0, .v (.int .i64)), (0, .v (.int .i64))] 21 (restr [0, 1] 0 st)).bind fun x => zhb N x K

def znd (N : Nat) : Tab Int := []

theorem zl1 {N : Nat} {c : Ctx} (hb : Base Go.Proofs.Try.prog (z90 N) c) : z1c Go.Proofs.Try.prog c (zl z4d [0, 0, 1]) (zh9 N) :=
  z1q (s := [(0, .v (.int .i64)), (0, .v (.int .i64))]) (m := 21) (g := zhb N) [0, 1] (zr hb N (znd N) zb6 z4d TabOk.nil [0, 0, 1] _ rfl) (fun x K => by kernel_rfl)

def zh8 (N : Nat) (a : Int) (b : Int) (k0 : Int -> Option Int) (k1 : Option Int) : Option Int :=
 zh7 N a b
 (fun x10 => cond x10
 (k0 (0 : Int))
 (k1))

def zhc (N : Nat) (x : z21 [(0, .v (.int .i64)), (0, .v (.int .i64))]) (K : Ex -> List A -> Option Int) : Option Int :=
 zh8 N x.1 x.2.1 (fun a0 => (K .ret (mkS [(4, .v (.int .i64))] 18 (a0, ())))) (K .normal (mkS [(0, .v (.int .i64)), (0, .v (.int .i64))] 21 (x.1, x.2.1, ())))

def zha (N : Nat) : Hd Int := fun st K => (unS [(0, .v (.int .i64)), (0, .v (.int .i64))] 21 (restr [0, 1] 0 st)).bind fun x => zhc N x K

def zne (N : Nat) : Tab Int := [([0, 0, 1], zh9 N)]

theorem zl2 {N : Nat} {c : Ctx} (hb : Base Go.Proofs.Try.prog (z90 N) c) : z1c Go.Proofs.Try.prog c (zl z4d [0, 1]) (zha N) :=
  z1q (s := [(0, .v (.int .i64)), (0, .v (.int .i64))]) (m := 21) (g := zhc N) [0, 1] (zr hb N (zne N) zb6 z4d (TabOk.cons (zl1 hb) TabOk.nil) [0, 1] _ rfl) (fun x K => by kernel_rfl)

def zl4 (N : Nat) (a : Int) (b : Int) : Option Int :=
 zh8 N a b
 (fun x4 => some x4)
 ((z78 N a b).bind fun y =>
 cond y
 ((zl0 N (!((decide (a < (0 : Int))) == (decide (b < (0 : Int)))))).bind fun y1 =>
 some y1)
 (some (Go.IntKind.wrap Go.IntKind.i64 (a * b))))

def zjp (N : Nat) : Tab Int := [([0, 1], zha N)]

theorem zjq (N : Nat) (x : z21 [(0, .v (.int .i64)), (0, .v (.int .i64))]) : za0 (z90 N) N (zjp N) zb6 Go.Proofs.Try.f34 (mkS [(0, .v (.int .i64)), (0, .v (.int .i64))] 0 x) (z4p (.v (.int .i64)) 2) = zl4 N x.1 x.2.1 := by kernel_rfl

def zey (N : Nat) : List A -> Res := z1k [(0, .v (.int .i64)), (0, .v (.int .i64))] (fun x => zl4 N x.1 x.2.1) (z8t (.v (.int .i64)) 2)

theorem znf (N : Nat) : Contract Go.Proofs.Try.prog zh 34 (zey N) :=
  Contract.of (E := z90 N) (H := zjp N) (L := zb6) (N := N) (body := z4d) (K := (z4p (.v (.int .i64)) 2)) (zl3 N) Go.Proofs.Try.func34 (by kernel_rfl) (by decide) (fun _ hb => (TabOk.cons (zl2 hb) TabOk.nil)) (fun x y h => by rw [zjq]; exact h) (z1d (s := (.v (.int .i64))) (m := 2))

def z1o : Code := (Go.Proofs.Try.f33.body).getD .skip

def z6c : List (List Nat × List Nat) := [([0], [1, 0]), ([0, 0, 1], [12, 1, 0]), ([1, 0, 1], [1, 0]), ([0, 0, 1, 0, 1], [4]), ([1, 0, 1, 0, 1], [4]), ([0, 0, 1, 1], [20, 0, 1]), ([1, 0, 1, 1], [0, 1]), ([0, 0, 1, 0, 1, 1], [4]), ([1, 0, 1, 0, 1, 1], [4]), ([0, 1, 1, 1], [4]), ([1, 1, 1, 1], [4])]

def z50 (N : Nat) : Env := z3q tys zh [] [] [] [] false [] []

theorem zl9 (N : Nat) : EnvOk Go.Proofs.Try.prog (z50 N) := zp mixed z1t (FnsOk.nil) (ItsOk.nil)

def zhf (N : Nat) (a : Int) (b : Int) (k0 : Bool -> Option Int) : Option Int :=
 cond (decide ((0 : Int) < b))
 (k0 (decide ((Go.IntKind.wrap Go.IntKind.i64 ((9223372036854775807 : Int) - b)) < a)))
 (k0 false)

def zhn (N : Nat) (x : z21 [(0, .v (.int .i64)), (0, .v (.int .i64))]) (K : Ex -> List A -> Option Int) : Option Int :=
 zhf N x.1 x.2.1 (fun a2 => (K .normal (mkS [(0, .v (.int .i64)), (0, .v (.int .i64)), (10, .v .bool)] 11 (x.1, x.2.1, a2, ()))))

def zhj (N : Nat) : Hd Int := fun st K => (unS [(0, .v (.int .i64)), (0, .v (.int .i64))] 22 (restr [1, 0] 0 st)).bind fun x => zhn N x K

def zni (N : Nat) : Tab Int := []

theorem zl7 {N : Nat} {c : Ctx} (hb : Base Go.Proofs.Try.prog (z50 N) c) : z1c Go.Proofs.Try.prog c (zl z1o [0, 0, 1]) (zhj N) :=
  z1q (s := [(0, .v (.int .i64)), (0, .v (.int .i64))]) (m := 22) (g := zhn N) [1, 0] (zr hb N (zni N) z6c z1o TabOk.nil [0, 0, 1] _ rfl) (fun x K => by kernel_rfl)

def zhg (N : Nat) (a : Int) (b : Int) (k0 : Int -> Option Int) (k1 : Option Int) : Option Int :=
 zhf N a b
 (fun x12 => cond x12
 (k0 (9223372036854775807 : Int))
 (k1))

def zho (N : Nat) (x : z21 [(0, .v (.int .i64)), (0, .v (.int .i64))]) (K : Ex -> List A -> Option Int) : Option Int :=
 zhg N x.1 x.2.1 (fun a0 => (K .ret (mkS [(4, .v (.int .i64))] 19 (a0, ())))) (K .normal (mkS [(0, .v (.int .i64)), (0, .v (.int .i64))] 22 (x.1, x.2.1, ())))

def zhk (N : Nat) : Hd Int := fun st K => (unS [(0, .v (.int .i64)), (0, .v (.int .i64))] 22 (restr [1, 0] 0 st)).bind fun x => zho N x K

def znj (N : Nat) : Tab Int := [([0, 0, 1], zhj N)]

theorem zl8 {N : Nat} {c : Ctx} (hb : Base Go.Proofs.Try.prog (z50 N) c) : z1c Go.Proofs.Try.prog c (zl z1o [0, 1]) (zhk N) :=
  z1q (s := [(0, .v (.int .i64)), (0, .v (.int .i64))]) (m := 22) (g := zho N) [1, 0] (zr hb N (znj N) z6c z1o (TabOk.cons (zl7 hb) TabOk.nil) [0, 1] _ rfl) (fun x K => by kernel_rfl)

def zhd (N : Nat) (a : Int) (b : Int) (k0 : Bool -> Option Int) : Option Int :=
 cond (decide (b < (0 : Int)))
 (k0 (decide (a < (Go.IntKind.wrap Go.IntKind.i64 ((-(9223372036854775808 : Int)) - b)))))
 (k0 false)

def zhl (N : Nat) (x : z21 [(0, .v (.int .i64)), (0, .v (.int .i64))]) (K : Ex -> List A -> Option Int) : Option Int :=
 zhd N x.1 x.2.1 (fun a2 => (K .normal (mkS [(0, .v (.int .i64)), (0, .v (.int .i64)), (18, .v .bool)] 3 (x.1, x.2.1, a2, ()))))

def zhh (N : Nat) : Hd Int := fun st K => (unS [(0, .v (.int .i64)), (0, .v (.int .i64))] 22 (restr [1, 0] 0 st)).bind fun x => zhl N x K

def zng (N : Nat) : Tab Int := []

theorem zl5 {N : Nat} {c : Ctx} (hb : Base Go.Proofs.Try.prog (z50 N) c) : z1c Go.Proofs.Try.prog c (zl z1o [0, 0, 1, 1]) (zhh N) :=
  z1q (s := [(0, .v (.int .i64)), (0, .v (.int .i64))]) (m := 22) (g := zhl N) [1, 0] (zr hb N (zng N) z6c z1o TabOk.nil [0, 0, 1, 1] _ rfl) (fun x K => by kernel_rfl)

def zhe (N : Nat) (a : Int) (b : Int) (k0 : Int -> Option Int) (k1 : Option Int) : Option Int :=
 zhd N a b
 (fun x20 => cond x20
 (k0 (-(9223372036854775808 : Int)))
 (k1))

def zhm (N : Nat) (x : z21 [(0, .v (.int .i64)), (0, .v (.int .i64))]) (K : Ex -> List A -> Option Int) : Option Int :=
 zhe N x.1 x.2.1 (fun a0 => (K .ret (mkS [(4, .v (.int .i64))] 19 (a0, ())))) (K .normal (mkS [(0, .v (.int .i64)), (0, .v (.int .i64))] 22 (x.1, x.2.1, ())))

def zhi (N : Nat) : Hd Int := fun st K => (unS [(0, .v (.int .i64)), (0, .v (.int .i64))] 22 (restr [1, 0] 0 st)).bind fun x => zhm N x K

def znh (N : Nat) : Tab Int := [([0, 0, 1, 1], zhh N)]

theorem zl6 {N : Nat} {c : Ctx} (hb : Base Go.Proofs.Try.prog (z50 N) c) : z1c Go.Proofs.Try.prog c (zl z1o [0, 1, 1]) (zhi N) :=
  z1q (s := [(0, .v (.int .i64)), (0, .v (.int .i64))]) (m := 22) (g := zhm N) [1, 0] (zr hb N (znh N) z6c z1o (TabOk.cons (zl5 hb) TabOk.nil) [0, 1, 1] _ rfl) (fun x K => by kernel_rfl)

def zla (N : Nat) (a : Int) (b : Int) : Option Int :=
 zhg N a b
 (fun x4 => some x4)
 (zhe N a b
 (fun x41 => some x41)
 (some (Go.IntKind.wrap Go.IntKind.i64 (a + b))))

def zjr (N : Nat) : Tab Int := [([0, 1], zhk N), ([0, 1, 1], zhi N)]

theorem zjs (N : Nat) (x : z21 [(0, .v (.int .i64)), (0, .v (.int .i64))]) : za0 (z50 N) N (zjr N) z6c Go.Proofs.Try.f33 (mkS [(0, .v (.int .i64)), (0, .v (.int .i64))] 0 x) (z4p (.v (.int .i64)) 2) = zla N x.1 x.2.1 := by kernel_rfl

def zez (N : Nat) : List A -> Res := z1k [(0, .v (.int .i64)), (0, .v (.int .i64))] (fun x => zla N x.1 x.2.1) (z8t (.v (.int .i64)) 2)

theorem znk (N : Nat) : Contract Go.Proofs.Try.prog zh 33 (zez N) :=
  Contract.of (E := z50 N) (H := zjr N) (L := z6c) (N := N) (body := z1o) (K := (z4p (.v (.int .i64)) 2)) (zl9 N) Go.Proofs.Try.func33 (by kernel_rfl) (by decide) (fun _ hb => (TabOk.cons (zl8 hb) (TabOk.cons (zl6 hb) TabOk.nil))) (fun x y h => by rw [zjs]; exact h) (z1d (s := (.v (.int .i64))) (m := 2))

def z34 : Code := (Go.Proofs.Try.f24.body).getD .skip

def z81 : List (List Nat × List Nat) := [([0], [2, 1, 4]), ([0, 0, 1], [18, 2, 4, 1]), ([1, 0, 1], [2, 1, 4]), ([0, 0, 1, 0, 1], [4]), ([1, 0, 1, 0, 1], [4]), ([0, 1, 1], [5, 2, 1, 4]), ([0, 1, 1, 1], [2, 4]), ([0, 1, 1, 1, 1], [4]), ([1, 1, 1, 1, 1], [4])]

def z5o (N : Nat) : Env := z3q tys zh [(33, zez N), (34, zey N), (32, z4t N)] [] [] [] false [] []

theorem zjb (N : Nat) : EnvOk Go.Proofs.Try.prog (z5o N) := zp mixed z1t (FnsOk.cons (znk N) (FnsOk.cons (znf N) (FnsOk.cons (z9n N) (FnsOk.nil)))) (ItsOk.nil)

def zds (N : Nat) (now : Int) (b : (Int × (Int × (Int × (Int × Unit))))) (x4 : (Int × (Int × (Int × (Int × Unit))))) (k0 : Bool -> Option (Int × (Int × (Int × (Int × Unit))))) : Option (Int × (Int × (Int × (Int × Unit)))) :=
 (z61 N b).bind fun y =>
 cond (!y)
 (k0 true)
 (cond (decide (now <= b.2.2.2.1))
 (k0 true)
 (k0 (decide ((1099511627776 : Int) < now))))

def zdw (N : Nat) (x : z21 [(1, .v (.int .i64)), (0, .box (.pair (.int .i64) (.pair (.int .i64) (.pair (.int .i64) (.pair (.int .i64) .unit))))), (1, .box (.pair (.int .i64) (.pair (.int .i64) (.pair (.int .i64) (.pair (.int .i64) .unit)))))]) (K : Ex -> List A -> Option (Int × (Int × (Int × (Int × Unit))))) : Option (Int × (Int × (Int × (Int × Unit)))) :=
 zds N x.1 x.2.1 x.2.2.1 (fun a3 => (K .normal (mkS [(1, .v (.int .i64)), (0, .box (.pair (.int .i64) (.pair (.int .i64) (.pair (.int .i64) (.pair (.int .i64) .unit))))), (1, .box (.pair (.int .i64) (.pair (.int .i64) (.pair (.int .i64) (.pair (.int .i64) .unit))))), (13, .v .bool)] 19 (x.1, x.2.1, x.2.2.1, a3, ()))))

def zdu (N : Nat) : Hd (Int × (Int × (Int × (Int × Unit)))) := fun st K => (unS [(1, .v (.int .i64)), (0, .box (.pair (.int .i64) (.pair (.int .i64) (.pair (.int .i64) (.pair (.int .i64) .unit))))), (1, .box (.pair (.int .i64) (.pair (.int .i64) (.pair (.int .i64) (.pair (.int .i64) .unit)))))] 33 (restr [2, 1, 4] 0 st)).bind fun x => zdw N x K

def zkt (N : Nat) : Tab (Int × (Int × (Int × (Int × Unit)))) := []

theorem zj9 {N : Nat} {c : Ctx} (hb : Base Go.Proofs.Try.prog (z5o N) c) : z1c Go.Proofs.Try.prog c (zl z34 [0, 0, 1]) (zdu N) :=
  z1q (s := [(1, .v (.int .i64)), (0, .box (.pair (.int .i64) (.pair (.int .i64) (.pair (.int .i64) (.pair (.int .i64) .unit))))), (1, .box (.pair (.int .i64) (.pair (.int .i64) (.pair (.int .i64) (.pair (.int .i64) .unit)))))]) (m := 33) (g := zdw N) [2, 1, 4] (zr hb N (zkt N) z81 z34 TabOk.nil [0, 0, 1] _ rfl) (fun x K => by kernel_rfl)

def zdt (N : Nat) (now : Int) (b : (Int × (Int × (Int × (Int × Unit))))) (x4 : (Int × (Int × (Int × (Int × Unit))))) (k0 : Option (Int × (Int × (Int × (Int × Unit))))) (k1 : Option (Int × (Int × (Int × (Int × Unit))))) : Option (Int × (Int × (Int × (Int × Unit)))) :=
 zds N now b x4
 (fun x18 => cond x18
 (k0)
 (k1))

def zdx (N : Nat) (x : z21 [(1, .v (.int .i64)), (0, .box (.pair (.int .i64) (.pair (.int .i64) (.pair (.int .i64) (.pair (.int .i64) .unit))))), (1, .box (.pair (.int .i64) (.pair (.int .i64) (.pair (.int .i64) (.pair (.int .i64) .unit)))))]) (K : Ex -> List A -> Option (Int × (Int × (Int × (Int × Unit))))) : Option (Int × (Int × (Int × (Int × Unit)))) :=
 zdt N x.1 x.2.1 x.2.2.1 (K .ret (mkS [(4, .box (.pair (.int .i64) (.pair (.int .i64) (.pair (.int .i64) (.pair (.int .i64) .unit)))))] 33 (x.2.1, ()))) (K .normal (mkS [(1, .v (.int .i64)), (0, .box (.pair (.int .i64) (.pair (.int .i64) (.pair (.int .i64) (.pair (.int .i64) .unit))))), (1, .box (.pair (.int .i64) (.pair (.int .i64) (.pair (.int .i64) (.pair (.int .i64) .unit)))))] 33 (x.1, x.2.1, x.2.2.1, ())))

def zdv (N : Nat) : Hd (Int × (Int × (Int × (Int × Unit)))) := fun st K => (unS [(1, .v (.int .i64)), (0, .box (.pair (.int .i64) (.pair (.int .i64) (.pair (.int .i64) (.pair (.int .i64) .unit))))), (1, .box (.pair (.int .i64) (.pair (.int .i64) (.pair (.int .i64) (.pair (.int .i64) .unit)))))] 33 (restr [2, 1, 4] 0 st)).bind fun x => zdx N x K

def zku (N : Nat) : Tab (Int × (Int × (Int × (Int × Unit)))) := [([0, 0, 1], zdu N)]

theorem zja {N : Nat} {c : Ctx} (hb : Base Go.Proofs.Try.prog (z5o N) c) : z1c Go.Proofs.Try.prog c (zl z34 [0, 1]) (zdv N) :=
  z1q (s := [(1, .v (.int .i64)), (0, .box (.pair (.int .i64) (.pair (.int .i64) (.pair (.int .i64) (.pair (.int .i64) .unit))))), (1, .box (.pair (.int .i64) (.pair (.int .i64) (.pair (.int .i64) (.pair (.int .i64) .unit)))))]) (m := 33) (g := zdx N) [2, 1, 4] (zr hb N (zku N) z81 z34 (TabOk.cons (zj9 hb) TabOk.nil) [0, 1] _ rfl) (fun x K => by kernel_rfl)

def z4o (N : Nat) (b : (Int × (Int × (Int × (Int × Unit))))) (now : Int) : Option (Int × (Int × (Int × (Int × Unit)))) :=
 zdt N now b ((0 : Int), ((0 : Int), ((0 : Int), ((0 : Int), ()))))
 (some b)
 ((zl4 N b.2.1 (Go.IntKind.wrap Go.IntKind.i64 (now - b.2.2.2.1))).bind fun y =>
 (zla N b.2.2.1 y).bind fun y1 =>
 some (b.1, (b.2.1, ((if (b.1 < y1) then b.1 else y1), (now, b.2.2.2.2)))))

def zga (N : Nat) : Tab (Int × (Int × (Int × (Int × Unit)))) := [([0, 1], zdv N)]

theorem zh1 (N : Nat) (x : z21 [(0, .v (.pair (.int .i64) (.pair (.int .i64) (.pair (.int .i64) (.pair (.int .i64) .unit))))), (0, .v (.int .i64))]) : za0 (z5o N) N (zga N) z81 Go.Proofs.Try.f24 (mkS [(0, .v (.pair (.int .i64) (.pair (.int .i64) (.pair (.int .i64) (.pair (.int .i64) .unit))))), (0, .v (.int .i64))] 0 x) (z4p (.v (.pair (.int .i64) (.pair (.int .i64) (.pair (.int .i64) (.pair (.int .i64) .unit))))) 2) = z4o N x.1 x.2.1 := by kernel_rfl

def z80 (N : Nat) : List A -> Res := z1k [(0, .v (.pair (.int .i64) (.pair (.int .i64) (.pair (.int .i64) (.pair (.int .i64) .unit))))), (0, .v (.int .i64))] (fun x => z4o N x.1 x.2.1) (z8t (.v (.pair (.int .i64) (.pair (.int .i64) (.pair (.int .i64) (.pair (.int .i64) .unit))))) 2)

theorem z9p (N : Nat) : Contract Go.Proofs.Try.prog zh 24 (z80 N) :=
  Contract.of (E := z5o N) (H := zga N) (L := z81) (N := N) (body := z34) (K := (z4p (.v (.pair (.int .i64) (.pair (.int .i64) (.pair (.int .i64) (.pair (.int .i64) .unit))))) 2)) (zjb N) Go.Proofs.Try.func24 (by kernel_rfl) (by decide) (fun _ hb => (TabOk.cons (zja hb) TabOk.nil)) (fun x y h => by rw [zh1]; exact h) (z1d (s := (.v (.pair (.int .i64) (.pair (.int .i64) (.pair (.int .i64) (.pair (.int .i64) .unit)))))) (m := 2))

def ze6 : Code := (Go.Proofs.Try.f30.body).getD .skip

def zbd : List (List Nat × List Nat) := [([0], [2, 1]), ([0, 1], [3]), ([1, 1], [3])]

def z7d (N : Nat) : Env := z3q tys zh [] [] [] [] false [] []

theorem zf9 (N : Nat) : EnvOk Go.Proofs.Try.prog (z7d N) := zp mixed z1t (FnsOk.nil) (ItsOk.nil)

def zfa (N : Nat) (c : ((List UInt8) × (Int × (Int × Unit)))) (x1 : (List UInt8)) : Option Bool :=
 some (c.1 == x1)

def zbc (N : Nat) : Tab Bool := []

theorem ze5 (N : Nat) (x : z21 [(0, .v (.pair .str (.pair (.int .i64) (.pair (.int .i64) .unit)))), (0, .v (.ptr .str))]) : za0 (z7d N) N (zbc N) zbd Go.Proofs.Try.f30 (mkS [(0, .v (.pair .str (.pair (.int .i64) (.pair (.int .i64) .unit)))), (0, .v (.ptr .str))] 0 x) (z4p (.v .bool) 2) = zfa N x.1 x.2.1 := by kernel_rfl

def z53 (N : Nat) : List A -> Res := z1k [(0, .v (.pair .str (.pair (.int .i64) (.pair (.int .i64) .unit)))), (0, .v (.ptr .str))] (fun x => zfa N x.1 x.2.1) (z8t (.v .bool) 2)

theorem zab (N : Nat) : Contract Go.Proofs.Try.prog zh 30 (z53 N) :=
  Contract.of (E := z7d N) (H := zbc N) (L := zbd) (N := N) (body := ze6) (K := (z4p (.v .bool) 2)) (zf9 N) Go.Proofs.Try.func30 (by kernel_rfl) (by decide) (fun _ hb => TabOk.nil) (fun x y h => by rw [ze5]; exact h) (z1d (s := (.v .bool)) (m := 2))

def z5j : Code := (Go.Proofs.Try.f29.body).getD .skip

def z9g : List (List Nat × List Nat) := [([0], [0, 1]), ([0, 0, 1], [8, 7, 1, 0]), ([0, 1, 0, 1], [8, 7, 1, 0]), ([0, 0, 0, 1, 0, 1], [9, 8, 1, 0, 7]), ([0, 1, 0, 0, 1, 0, 1], [8, 1, 0, 7]), ([1, 0, 1, 0, 0, 1, 0, 1], []), ([0, 0, 0, 1, 1, 0, 0, 1, 0, 1], [1, 0, 5, 8, 7]), ([0, 1, 0, 0, 1, 1, 0, 0, 1, 0, 1], [16, 5, 8, 7, 1, 0]), ([1, 1, 0, 0, 1, 1, 0, 0, 1, 0, 1], [8, 7, 1, 0]), ([0, 0, 1, 1, 0, 0, 1, 1, 0, 0, 1, 0, 1], [4]), ([1, 0, 1, 1, 0, 0, 1, 1, 0, 0, 1, 0, 1], [4]), ([0, 1, 1, 0, 0, 1, 0, 1], [8, 7, 1, 0]), ([1, 1, 1, 0, 0, 1, 0, 1], [8, 7, 1, 0]), ([1, 0, 1], []), ([0, 1, 1], [4]), ([1, 1, 1], [4])]

def z5z (N : Nat) : Env := z3q tys zh [(30, z53 N)] [] [] [] false [] []

theorem zgt (N : Nat) : EnvOk Go.Proofs.Try.prog (z5z N) := zp mixed z1t (FnsOk.cons (zab N) (FnsOk.nil)) (ItsOk.nil)

def zbu (N : Nat) (s : (List ((List UInt8) × (Int × (Int × Unit))))) (f : ((List UInt8) × Unit)) (x7 : Int) (x8 : Int) (rec : Int -> Option Int) (k0 : Int -> Option Int) (k1 : Option Int) : Option Int :=
 cond (decide (x8 < x7))
 (cond (Go.Lift.inR x8 (List.length s))
 (cond ((List.getD s (Int.toNat x8) (([] : List UInt8), ((0 : Int), ((0 : Int), ())))).1 == f.1)
 (k0 x8)
 (rec (Go.IntKind.wrap Go.IntKind.i64 (x8 + (1 : Int)))))
 (none))
 (k1)

def zj1 (N : Nat) (s : (List ((List UInt8) × (Int × (Int × Unit))))) (f : ((List UInt8) × Unit)) (x7 : Int) (x8 : Int) (k0 : Int -> Option Int) (k1 : Option Int) : Option Int :=
 iter (fun (v : Int) r => zbu N s f x7 v (fun x8 => (r x8)) k0 k1) N x8

def zbw (N : Nat) (i : ((List ((List UInt8) × (Int × (Int × Unit)))) × ((List UInt8) × Unit) × Int)) (v : Int) (r : Int -> Option Int) (K : Ex -> List A -> Option Int) : Option Int :=
 zbu N i.1 i.2.1 i.2.2 v (fun x8 => (r x8)) (fun a0 => (K .ret (mkS [(4, .v (.int .i64))] 14 (a0, ())))) (K (.exit 0) (mkS [] 19 ()))

def zbv (N : Nat) : Hd Int := fun st K => (unS [(0, .v (.sl (.pair .str (.pair (.int .i64) (.pair (.int .i64) .unit))))), (0, .v (.fn 30 (.pair (.ptr .str) .unit))), (5, .v (.int .i64)), (0, .v (.int .i64))] 10 (restr [8, 7, 1, 0] 0 st)).bind fun x => iter (fun v r => zbw N ((fun x => (x.1, x.2.1, x.2.2.1)) x) v r K) N ((fun x => x.2.2.2.1) x)

def zj0 (N : Nat) : Tab Int := []

theorem zgs {N : Nat} {c : Ctx} (hb : Base Go.Proofs.Try.prog (z5z N) c) : z1c Go.Proofs.Try.prog c (zl z5j [0, 1, 0, 1]) (zbv N) :=
  zlm (s := [(0, .v (.sl (.pair .str (.pair (.int .i64) (.pair (.int .i64) .unit))))), (0, .v (.fn 30 (.pair (.ptr .str) .unit))), (5, .v (.int .i64)), (0, .v (.int .i64))]) (m := 10) (zbw N) [8, 7, 1, 0] N (fun x => (x.1, x.2.1, x.2.2.1)) (fun x => x.2.2.2.1) (fun i v => (i.1, i.2.1, i.2.2, v, ())) (fun _ => rfl) (zr hb N (zj0 N) z9g z5j TabOk.nil [0, 0, 1, 0, 1] _ rfl) (fun i v r K => by kernel_rfl)

def zcx (N : Nat) (s : (List ((List UInt8) × (Int × (Int × Unit))))) (f : ((List UInt8) × Unit)) : Option Int :=
 zj1 N s f (((List.length s) : Nat) : Int) (0 : Int)
 (fun x4 => some x4)
 (some (-(1 : Int)))

def zdl (N : Nat) : Tab Int := [([0, 1, 0, 1], zbv N)]

theorem zfw (N : Nat) (x : z21 [(0, .v (.sl (.pair .str (.pair (.int .i64) (.pair (.int .i64) .unit))))), (0, .v (.fn 30 (.pair (.ptr .str) .unit)))]) : za0 (z5z N) N (zdl N) z9g Go.Proofs.Try.f29 (mkS [(0, .v (.sl (.pair .str (.pair (.int .i64) (.pair (.int .i64) .unit))))), (0, .v (.fn 30 (.pair (.ptr .str) .unit)))] 0 x) (z4p (.v (.int .i64)) 2) = zcx N x.1 x.2.1 := by kernel_rfl

def zaf (N : Nat) : List A -> Res := z1k [(0, .v (.sl (.pair .str (.pair (.int .i64) (.pair (.int .i64) .unit))))), (0, .v (.fn 30 (.pair (.ptr .str) .unit)))] (fun x => zcx N x.1 x.2.1) (z8t (.v (.int .i64)) 2)

theorem zj2 (N : Nat) : Contract Go.Proofs.Try.prog zh 29 (zaf N) :=
  Contract.of (E := z5z N) (H := zdl N) (L := z9g) (N := N) (body := z5j) (K := (z4p (.v (.int .i64)) 2)) (zgt N) Go.Proofs.Try.func29 (by kernel_rfl) (by decide) (fun _ hb => (TabOk.cons (zgs hb) TabOk.nil)) (fun x y h => by rw [zfw]; exact h) (z1d (s := (.v (.int .i64))) (m := 2))

def zgi : Code := (Go.Proofs.Try.f19.body).getD .skip

def zf8 : List (List Nat × List Nat) := [([0], [0, 3]), ([0, 1], [4]), ([1, 1], [4])]

def zar (N : Nat) : Env := z3q tys zh [(29, zaf N), (30, z53 N)] [] [] [] false [] []

theorem zih (N : Nat) : EnvOk Go.Proofs.Try.prog (zar N) := zp mixed z1t (FnsOk.cons (zj2 N) (FnsOk.cons (zab N) (FnsOk.nil))) (ItsOk.nil)

def z95 (N : Nat) (l : (List ((List UInt8) × (Int × (Int × Unit))))) (class_ : (List UInt8)) : Option Int :=
 (zcx N l (class_, ())).bind fun y =>
 some y

def zf7 (N : Nat) : Tab Int := []

theorem zgh (N : Nat) (x : z21 [(0, .v (.sl (.pair .str (.pair (.int .i64) (.pair (.int .i64) .unit))))), (0, .v .str)]) : za0 (zar N) N (zf7 N) zf8 Go.Proofs.Try.f19 (mkS [(0, .v (.sl (.pair .str (.pair (.int .i64) (.pair (.int .i64) .unit))))), (0, .v .str)] 0 x) (z4p (.v (.int .i64)) 2) = z95 N x.1 x.2.1 := by kernel_rfl

def z7c (N : Nat) : List A -> Res := z1k [(0, .v (.sl (.pair .str (.pair (.int .i64) (.pair (.int .i64) .unit))))), (0, .v .str)] (fun x => z95 N x.1 x.2.1) (z8t (.v (.int .i64)) 2)

theorem zdb (N : Nat) : Contract Go.Proofs.Try.prog zh 19 (z7c N) :=
  Contract.of (E := zar N) (H := zf7 N) (L := zf8) (N := N) (body := zgi) (K := (z4p (.v (.int .i64)) 2)) (zih N) Go.Proofs.Try.func19 (by kernel_rfl) (by decide) (fun _ hb => TabOk.nil) (fun x y h => by rw [zgh]; exact h) (z1d (s := (.v (.int .i64))) (m := 2))

def zg9 : Code := (Go.Proofs.Try.f31.body).getD .skip

def zdr : List (List Nat × List Nat) := [([0], [2, 1, 4]), ([0, 1], [4]), ([1, 1], [4])]

def z9o (N : Nat) : Env := z3q tys zh [] [] [] [] false [] []

theorem zh0 (N : Nat) : EnvOk Go.Proofs.Try.prog (z9o N) := zp mixed z1t (FnsOk.nil) (ItsOk.nil)

def zi8 (N : Nat) (c : ((List UInt8) × (Int × (Int × Unit)))) (now : Int) : Option (Int × (Int × (Int × (Int × Unit)))) :=
 some (c.2.1, (c.2.2.1, ((0 : Int), (now, ()))))

def zdq (N : Nat) : Tab (Int × (Int × (Int × (Int × Unit)))) := []

theorem zg8 (N : Nat) (x : z21 [(0, .v (.pair .str (.pair (.int .i64) (.pair (.int .i64) .unit)))), (0, .v (.int .i64))]) : za0 (z9o N) N (zdq N) zdr Go.Proofs.Try.f31 (mkS [(0, .v (.pair .str (.pair (.int .i64) (.pair (.int .i64) .unit)))), (0, .v (.int .i64))] 0 x) (z4p (.v (.pair (.int .i64) (.pair (.int .i64) (.pair (.int .i64) (.pair (.int .i64) .unit))))) 2) = zi8 N x.1 x.2.1 := by kernel_rfl

def zam (N : Nat) : List A -> Res := z1k [(0, .v (.pair .str (.pair (.int .i64) (.pair (.int .i64) .unit)))), (0, .v (.int .i64))] (fun x => zi8 N x.1 x.2.1) (z8t (.v (.pair (.int .i64) (.pair (.int .i64) (.pair (.int .i64) (.pair (.int .i64) .unit))))) 2)

theorem zj8 (N : Nat) : Contract Go.Proofs.Try.prog zh 31 (zam N) :=
  Contract.of (E := z9o N) (H := zdq N) (L := zdr) (N := N) (body := zg9) (K := (z4p (.v (.pair (.int .i64) (.pair (.int .i64) (.pair (.int .i64) (.pair (.int .i64) .unit))))) 2)) (zh0 N) Go.Proofs.Try.func31 (by kernel_rfl) (by decide) (fun _ hb => TabOk.nil) (fun x y h => by rw [zg8]; exact h) (z1d (s := (.v (.pair (.int .i64) (.pair (.int .i64) (.pair (.int .i64) (.pair (.int .i64) .unit)))))) (m := 2))

def z97 : Code := (Go.Proofs.Try.f23.body).getD .skip

def z5v : List (List Nat × List Nat) := [([0], [0, 3, 4]), ([0, 1], [6, 4, 0]), ([0, 0, 1, 1], [15, 4, 0, 6]), ([1, 0, 1, 1], [0, 6, 4]), ([0, 0, 1, 0, 1, 1], [4, 5, 0]), ([1, 0, 1, 0, 1, 1], [4, 5, 0]), ([0, 1, 1, 1], [4, 5, 0]), ([1, 1, 1, 1], [4, 5, 0])]

def z3j (N : Nat) : Env := z3q tys zh [(31, zam N), (19, z7c N)] [] [] [0] false [(13, .unit)] []

theorem za5 (N : Nat) : EnvOk Go.Proofs.Try.prog (z3j N) := zp mixed z1t (FnsOk.cons (zj8 N) (FnsOk.cons (zdb N) (FnsOk.nil))) (ItsOk.nil)

def z1m (N : Nat) (r_ : ((List ((List UInt8) × (Int × (Int × Unit)))) × (Int × (Go.Value × Unit)))) (o : ((List UInt8) × ((List UInt8) × Unit))) : Option (((Int × (Int × (Int × (Int × Unit)))) × Bool × Unit) × (((List ((List UInt8) × (Int × (Int × Unit)))) × (Int × (Go.Value × Unit))) × Unit)) :=
 (z95 N r_.1 o.2.1).bind fun y =>
 cond (decide (y < (0 : Int)))
 (some ((((0 : Int), ((0 : Int), ((0 : Int), ((0 : Int), ())))), (false, ())), (r_, ())))
 (cond (Go.Lift.inR y (List.length r_.1))
 (cond (decide ((Int.toNat y) < (List.length r_.1)))
 (some ((((List.getD r_.1 (Int.toNat y) (([] : List UInt8), ((0 : Int), ((0 : Int), ())))).2.1, ((List.getD r_.1 (Int.toNat y) (([] : List UInt8), ((0 : Int), ((0 : Int), ())))).2.2.1, ((0 : Int), (r_.2.1, ())))), (true, ())), (r_, ())))
 (none))
 (none))

def z5u (N : Nat) : Tab (((Int × (Int × (Int × (Int × Unit)))) × Bool × Unit) × (((List ((List UInt8) × (Int × (Int × Unit)))) × (Int × (Go.Value × Unit))) × Unit)) := []

theorem z96 (N : Nat) (x : z21 [(0, .box (.pair (.own (.pair .str (.pair (.int .i64) (.pair (.int .i64) .unit)))) (.pair (.int .i64) (.pair .opq .unit)))), (0, .v (.pair .str (.pair .str .unit)))]) : za0 (z3j N) N (z5u N) z5v Go.Proofs.Try.f23 (mkS [(0, .box (.pair (.own (.pair .str (.pair (.int .i64) (.pair (.int .i64) .unit)))) (.pair (.int .i64) (.pair .opq .unit)))), (0, .v (.pair .str (.pair .str .unit)))] 0 x) (zkb (.tup [(.pair (.int .i64) (.pair (.int .i64) (.pair (.int .i64) (.pair (.int .i64) .unit)))), .bool]) [(0, .box (.pair (.own (.pair .str (.pair (.int .i64) (.pair (.int .i64) .unit)))) (.pair (.int .i64) (.pair .opq .unit))))] 1) = z1m N x.1 x.2.1 := by kernel_rfl

def z2z (N : Nat) : List A -> Res := z1k [(0, .box (.pair (.own (.pair .str (.pair (.int .i64) (.pair (.int .i64) .unit)))) (.pair (.int .i64) (.pair .opq .unit)))), (0, .v (.pair .str (.pair .str .unit)))] (fun x => z1m N x.1 x.2.1) (znu (.tup [(.pair (.int .i64) (.pair (.int .i64) (.pair (.int .i64) (.pair (.int .i64) .unit)))), .bool]) [(0, .box (.pair (.own (.pair .str (.pair (.int .i64) (.pair (.int .i64) .unit)))) (.pair (.int .i64) (.pair .opq .unit))))] 1)

theorem z38 (N : Nat) : Contract Go.Proofs.Try.prog zh 23 (z2z N) :=
  Contract.of (E := z3j N) (H := z5u N) (L := z5v) (N := N) (body := z97) (K := (zkb (.tup [(.pair (.int .i64) (.pair (.int .i64) (.pair (.int .i64) (.pair (.int .i64) .unit)))), .bool]) [(0, .box (.pair (.own (.pair .str (.pair (.int .i64) (.pair (.int .i64) .unit)))) (.pair (.int .i64) (.pair .opq .unit))))] 1)) (za5 N) Go.Proofs.Try.func23 (by kernel_rfl) (by decide) (fun _ hb => TabOk.nil) (fun x y h => by rw [z96]; exact h) (ziz (s := (.tup [(.pair (.int .i64) (.pair (.int .i64) (.pair (.int .i64) (.pair (.int .i64) .unit)))), .bool])) (os := [(0, .box (.pair (.own (.pair .str (.pair (.int .i64) (.pair (.int .i64) .unit)))) (.pair (.int .i64) (.pair .opq .unit))))]) (m := 1))

def zfn : Code := (Go.Proofs.Try.f35.body).getD .skip

def zdg : List (List Nat × List Nat) := [([0], [0]), ([0, 1], [2]), ([1, 1], [2])]

def z9d (N : Nat) : Env := z3q tys zh [] [] [] [] false [] []

theorem zgm (N : Nat) : EnvOk Go.Proofs.Try.prog (z9d N) := zp mixed z1t (FnsOk.nil) (ItsOk.nil)

def zcn (N : Nat) (c : Int) : Option Bool :=
 cond (decide ((48 : Int) <= c))
 (some (decide (c <= (57 : Int))))
 (some false)

def zdf (N : Nat) : Tab Bool := []

theorem zfm (N : Nat) (x : z21 [(0, .v (.int .i32))]) : za0 (z9d N) N (zdf N) zdg Go.Proofs.Try.f35 (mkS [(0, .v (.int .i32))] 0 x) (z4p (.v .bool) 1) = zcn N x.1 := by kernel_rfl

def zae (N : Nat) : List A -> Res := z1k [(0, .v (.int .i32))] (fun x => zcn N x.1) (z8t (.v .bool) 1)

theorem zit (N : Nat) : Contract Go.Proofs.Try.prog zh 35 (zae N) :=
  Contract.of (E := z9d N) (H := zdf N) (L := zdg) (N := N) (body := zfn) (K := (z4p (.v .bool) 1)) (zgm N) Go.Proofs.Try.func35 (by kernel_rfl) (by decide) (fun _ hb => TabOk.nil) (fun x y h => by rw [zfm]; exact h) (z1d (s := (.v .bool)) (m := 1))

def z3o : Code := (Go.Proofs.Try.f28.body).getD .skip

def z5g : List (List Nat × List Nat) := [([0], [0, 1]), ([0, 1], [5, 0, 1]), ([0, 1, 1], [4]), ([1, 1, 1], [4])]

def z3p (N : Nat) : Env := z3q tys zh [(35, zae N)] [] [] [] false [] []

theorem zcm (N : Nat) : EnvOk Go.Proofs.Try.prog (z3p N) := zp mixed z1t (FnsOk.cons (zit N) (FnsOk.nil)) (ItsOk.nil)

def z8a (N : Nat) (c : Int) (first : Bool) (k0 : Bool -> Option Bool) : Option Bool :=
 cond (decide ((97 : Int) <= c))
 (k0 (decide (c <= (122 : Int))))
 (k0 false)

def z8c (N : Nat) (x : z21 [(0, .v (.int .i32)), (0, .v .bool)]) (K : Ex -> List A -> Option Bool) : Option Bool :=
 z8a N x.1 x.2.1 (fun a2 => (K .normal (mkS [(0, .v (.int .i32)), (0, .v .bool), (3, .v .bool)] 19 (x.1, x.2.1, a2, ()))))

def z8b (N : Nat) : Hd Bool := fun st K => (unS [(0, .v (.int .i32)), (0, .v .bool)] 23 (restr [0, 1] 0 st)).bind fun x => z8c N x K

def ze7 (N : Nat) : Tab Bool := []

theorem zcl {N : Nat} {c : Ctx} (hb : Base Go.Proofs.Try.prog (z3p N) c) : z1c Go.Proofs.Try.prog c (zl z3o [0, 1]) (z8b N) :=
  z1q (s := [(0, .v (.int .i32)), (0, .v .bool)]) (m := 23) (g := z8c N) [0, 1] (zr hb N (ze7 N) z5g z3o TabOk.nil [0, 1] _ rfl) (fun x K => by kernel_rfl)

def z7p (N : Nat) (c : Int) (first : Bool) : Option Bool :=
 z8a N c first
 (fun letter => cond letter
 (some true)
 ((zcn N c).bind fun y =>
 cond y
 (some (!first))
 (cond (c == (45 : Int))
 (some (!first))
 (some false))))

def z9c (N : Nat) : Tab Bool := [([0, 1], z8b N)]

theorem zbq (N : Nat) (x : z21 [(0, .v (.int .i32)), (0, .v .bool)]) : za0 (z3p N) N (z9c N) z5g Go.Proofs.Try.f28 (mkS [(0, .v (.int .i32)), (0, .v .bool)] 0 x) (z4p (.v .bool) 2) = z7p N x.1 x.2.1 := by kernel_rfl

def z45 (N : Nat) : List A -> Res := z1k [(0, .v (.int .i32)), (0, .v .bool)] (fun x => z7p N x.1 x.2.1) (z8t (.v .bool) 2)

theorem z8d (N : Nat) : Contract Go.Proofs.Try.prog zh 28 (z45 N) :=
  Contract.of (E := z3p N) (H := z9c N) (L := z5g) (N := N) (body := z3o) (K := (z4p (.v .bool) 2)) (zcm N) Go.Proofs.Try.func28 (by kernel_rfl) (by decide) (fun _ hb => (TabOk.cons (zcl hb) TabOk.nil)) (fun x y h => by rw [zbq]; exact h) (z1d (s := (.v .bool)) (m := 2))

def z14 : Code := (Go.Proofs.Try.f27.body).getD .skip

def z2q : List (List Nat × List Nat) := [([0], [0, 1]), ([0, 0, 1], [13, 0, 1]), ([1, 0, 1], [0, 1]), ([0, 0, 1, 0, 1], [4]), ([1, 0, 1, 0, 1], [4]), ([0, 0, 1, 1], [15, 1]), ([0, 1, 0, 1, 1], [15, 1]), ([0, 0, 0, 1, 0, 1, 1], [17, 16, 1, 15]), ([0, 1, 0, 0, 1, 0, 1, 1], [16, 1, 15]), ([1, 0, 1, 0, 0, 1, 0, 1, 1], []), ([0, 0, 1, 1, 0, 0, 1, 0, 1, 1], [1, 6, 5, 15]), ([0, 1, 0, 1, 1, 0, 0, 1, 0, 1, 1], [25, 15, 1]), ([1, 1, 0, 1, 1, 0, 0, 1, 0, 1, 1], [15, 1]), ([0, 0, 1, 1, 0, 1, 1, 0, 0, 1, 0, 1, 1], [4]), ([1, 0, 1, 1, 0, 1, 1, 0, 0, 1, 0, 1, 1], [4]), ([1, 1, 0, 0, 1, 0, 1, 1], [15, 1]), ([1, 0, 1, 1], []), ([0, 1, 1, 1], [4]), ([1, 1, 1, 1], [4])]

def z1w (N : Nat) : Env := z3q tys zh [(28, z45 N)] [] [] [] false [] []

theorem zcr (N : Nat) : EnvOk Go.Proofs.Try.prog (z1w N) := zp mixed z1t (FnsOk.cons (z8d N) (FnsOk.nil)) (ItsOk.nil)

def z8f (N : Nat) (s : (List UInt8)) (k0 : Bool -> Option Bool) : Option Bool :=
 cond (s == ([] : List UInt8))
 (k0 true)
 (k0 (decide ((32 : Int) < (((List.length s) : Nat) : Int))))

def z8l (N : Nat) (x : z21 [(0, .v .str), (0, .fnc 28)]) (K : Ex -> List A -> Option Bool) : Option Bool :=
 z8f N x.1 (fun a1 => (K .normal (mkS [(0, .v .str), (0, .fnc 28), (11, .v .bool)] 12 (x.1, (), a1, ()))))

def z8i (N : Nat) : Hd Bool := fun st K => (unS [(0, .v .str), (0, .fnc 28)] 24 (restr [0, 1] 0 st)).bind fun x => z8l N x K

def ze9 (N : Nat) : Tab Bool := []

theorem zcp {N : Nat} {c : Ctx} (hb : Base Go.Proofs.Try.prog (z1w N) c) : z1c Go.Proofs.Try.prog c (zl z14 [0, 0, 1]) (z8i N) :=
  z1q (s := [(0, .v .str), (0, .fnc 28)]) (m := 24) (g := z8l N) [0, 1] (zr hb N (ze9 N) z2q z14 TabOk.nil [0, 0, 1] _ rfl) (fun x K => by kernel_rfl)

def z8g (N : Nat) (s : (List UInt8)) (k0 : Bool -> Option Bool) (k1 : Option Bool) : Option Bool :=
 z8f N s
 (fun x13 => cond x13
 (k0 false)
 (k1))

def z8m (N : Nat) (x : z21 [(0, .v .str), (0, .fnc 28)]) (K : Ex -> List A -> Option Bool) : Option Bool :=
 z8g N x.1 (fun a0 => (K .ret (mkS [(4, .v .bool)] 21 (a0, ())))) (K .normal (mkS [(0, .v .str), (0, .fnc 28)] 24 (x.1, (), ())))

def z8j (N : Nat) : Hd Bool := fun st K => (unS [(0, .v .str), (0, .fnc 28)] 24 (restr [0, 1] 0 st)).bind fun x => z8m N x K

def zea (N : Nat) : Tab Bool := [([0, 0, 1], z8i N)]

theorem zcq {N : Nat} {c : Ctx} (hb : Base Go.Proofs.Try.prog (z1w N) c) : z1c Go.Proofs.Try.prog c (zl z14 [0, 1]) (z8j N) :=
  z1q (s := [(0, .v .str), (0, .fnc 28)]) (m := 24) (g := z8m N) [0, 1] (zr hb N (zea N) z2q z14 (TabOk.cons (zcp hb) TabOk.nil) [0, 1] _ rfl) (fun x K => by kernel_rfl)

def z8e (N : Nat) (x15 : (List UInt8 × Nat)) (rec : (List UInt8 × Nat) -> Option Bool) (k0 : Bool -> Option Bool) (k1 : Option Bool) : Option Bool :=
 cond (decide (x15.2 < (List.length x15.1)))
 ((z7p N (((Go.Lift.runeAt x15.1 x15.2).1 : Nat) : Int) (((x15.2 : Nat) : Int) == (0 : Int))).bind fun y =>
 cond (!y)
 (k0 false)
 (rec (x15.1, (x15.2 + (Go.Lift.runeAt x15.1 x15.2).2))))
 (k1)

def zeb (N : Nat) (x15 : (List UInt8 × Nat)) (k0 : Bool -> Option Bool) (k1 : Option Bool) : Option Bool :=
 iter (fun (v : (List UInt8 × Nat)) r => z8e N v (fun x15 => (r x15)) k0 k1) N x15

def z8k (N : Nat) (i : Unit) (v : (List UInt8 × Nat)) (r : (List UInt8 × Nat) -> Option Bool) (K : Ex -> List A -> Option Bool) : Option Bool :=
 z8e N v (fun x15 => (r x15)) (fun a0 => (K .ret (mkS [(4, .v .bool)] 21 (a0, ())))) (K (.exit 0) (mkS [] 26 ()))

def z8h (N : Nat) : Hd Bool := fun st K => (unS [(1, .fnc 28), (13, .iter)] 10 (restr [15, 1] 0 st)).bind fun x => iter (fun v r => z8k N ((fun x => ()) x) v r K) N ((fun x => x.2.1) x)

def ze8 (N : Nat) : Tab Bool := []

theorem zco {N : Nat} {c : Ctx} (hb : Base Go.Proofs.Try.prog (z1w N) c) : z1c Go.Proofs.Try.prog c (zl z14 [0, 1, 0, 1, 1]) (z8h N) :=
  zlm (s := [(1, .fnc 28), (13, .iter)]) (m := 10) (z8k N) [15, 1] N (fun x => ()) (fun x => x.2.1) (fun i v => ((), v, ())) (fun _ => rfl) (zr hb N (ze8 N) z2q z14 TabOk.nil [0, 0, 1, 0, 1, 1] _ rfl) (fun i v r K => by kernel_rfl)

def z7q (N : Nat) (s : (List UInt8)) : Option Bool :=
 z8g N s
 (fun x4 => some x4)
 (zeb N (s, 0)
 (fun x41 => some x41)
 (some true))

def z9e (N : Nat) : Tab Bool := [([0, 1], z8j N), ([0, 1, 0, 1, 1], z8h N)]

theorem zbr (N : Nat) (x : z21 [(0, .v .str), (0, .fnc 28)]) : za0 (z1w N) N (z9e N) z2q Go.Proofs.Try.f27 (mkS [(0, .v .str), (0, .fnc 28)] 0 x) (z4p (.v .bool) 2) = z7q N x.1 := by kernel_rfl

def z6u (N : Nat) : List A -> Res := z1k [(0, .v .str), (0, .fnc 28)] (fun x => z7q N x.1) (z8t (.v .bool) 2)

theorem zec (N : Nat) : Contract Go.Proofs.Try.prog zh 27 (z6u N) :=
  Contract.of (E := z1w N) (H := z9e N) (L := z2q) (N := N) (body := z14) (K := (z4p (.v .bool) 2)) (zcr N) Go.Proofs.Try.func27 (by kernel_rfl) (by decide) (fun _ hb => (TabOk.cons (zcq hb) (TabOk.cons (zco hb) TabOk.nil))) (fun x y h => by rw [zbr]; exact h) (z1d (s := (.v .bool)) (m := 2))

def zgo : Code := (Go.Proofs.Try.f18.body).getD .skip

def zfp : List (List Nat × List Nat) := [([0], [0]), ([0, 1], [2]), ([1, 1], [2])]

def zav (N : Nat) : Env := z3q tys zh [(27, z6u N), (28, z45 N)] [] [] [] false [] []

theorem ziu (N : Nat) : EnvOk Go.Proofs.Try.prog (zav N) := zp mixed z1t (FnsOk.cons (zec N) (FnsOk.cons (z8d N) (FnsOk.nil))) (ItsOk.nil)

def zfq (N : Nat) (s : (List UInt8)) : Option Bool :=
 (z7q N s).bind fun y =>
 some y

def zfo (N : Nat) : Tab Bool := []

theorem zgn (N : Nat) (x : z21 [(0, .v .str)]) : za0 (zav N) N (zfo N) zfp Go.Proofs.Try.f18 (mkS [(0, .v .str)] 0 x) (z4p (.v .bool) 1) = zfq N x.1 := by kernel_rfl

def zbs (N : Nat) : List A -> Res := z1k [(0, .v .str)] (fun x => zfq N x.1) (z8t (.v .bool) 1)

theorem zk6 (N : Nat) : Contract Go.Proofs.Try.prog zh 18 (zbs N) :=
  Contract.of (E := zav N) (H := zfo N) (L := zfp) (N := N) (body := zgo) (K := (z4p (.v .bool) 1)) (ziu N) Go.Proofs.Try.func18 (by kernel_rfl) (by decide) (fun _ hb => TabOk.nil) (fun x y h => by rw [zgn]; exact h) (z1d (s := (.v .bool)) (m := 1))

def z2p : Code := (Go.Proofs.Try.f8.body).getD .skip

def z5x : List (List Nat × List Nat) := [([0], [0]), ([0, 0, 1], [7, 0]), ([1, 0, 1], [0]), ([0, 0, 1, 0, 1], [2]), ([1, 0, 1, 0, 1], [2]), ([0, 0, 1, 1], [10, 9, 8, 0]), ([0, 1, 0, 1, 1], [10, 9, 8, 0]), ([0, 0, 0, 1, 0, 1, 1], [11, 10, 8, 0, 9]), ([0, 1, 0, 0, 1, 0, 1, 1], [10, 8, 0, 9]), ([1, 0, 1, 0, 0, 1, 0, 1, 1], []), ([0, 0, 0, 1, 1, 0, 0, 1, 0, 1, 1], [4, 0, 3, 10, 9, 8]), ([0, 0, 1, 0, 0, 1, 1, 0, 0, 1, 0, 1, 1], [15, 4, 0, 3, 10, 9, 8]), ([1, 0, 1, 0, 0, 1, 1, 0, 0, 1, 0, 1, 1], [10, 9, 8, 0]), ([0, 1, 1, 0, 1, 0, 0, 1, 1, 0, 0, 1, 0, 1, 1], [20, 0, 3, 4, 10, 9, 8]), ([1, 1, 1, 0, 1, 0, 0, 1, 1, 0, 0, 1, 0, 1, 1], [10, 9, 8, 0]), ([0, 1, 1, 1, 1, 0, 1, 0, 0, 1, 1, 0, 0, 1, 0, 1, 1], [31, 10, 9, 8, 0]), ([1, 1, 1, 1, 1, 0, 1, 0, 0, 1, 1, 0, 0, 1, 0, 1, 1], [10, 9, 8, 0]), ([0, 0, 1, 1, 1, 1, 1, 0, 1, 0, 0, 1, 1, 0, 0, 1, 0, 1, 1], [2]), ([1, 0, 1, 1, 1, 1, 1, 0, 1, 0, 0, 1, 1, 0, 0, 1, 0, 1, 1], [2]), ([0, 0, 1, 1, 1, 0, 1, 0, 0, 1, 1, 0, 0, 1, 0, 1, 1], [2]), ([1, 0, 1, 1, 1, 0, 1, 0, 0, 1, 1, 0, 0, 1, 0, 1, 1], [2]), ([0, 0, 1, 0, 1, 0, 0, 1, 1, 0, 0, 1, 0, 1, 1], [2]), ([1, 0, 1, 0, 1, 0, 0, 1, 1, 0, 0, 1, 0, 1, 1], [2]), ([1, 0, 0, 1, 1, 0, 0, 1, 0, 1, 1], [10, 9, 8, 0]), ([0, 1, 1, 0, 0, 1, 0, 1, 1], [10, 9, 8, 0]), ([1, 1, 1, 0, 0, 1, 0, 1, 1], [10, 9, 8, 0]), ([1, 0, 1, 1], []), ([0, 1, 1, 1], [2]), ([1, 1, 1, 1], [2])]

def z4k (N : Nat) : Env := z3q tys zh [(18, zbs N), (19, z7c N), (16, z2k N)] [] [] [] false [] []

theorem zgl (N : Nat) : EnvOk Go.Proofs.Try.prog (z4k N) := zp mixed z1t (FnsOk.cons (zk6 N) (FnsOk.cons (zdb N) (FnsOk.cons (z48 N) (FnsOk.nil)))) (ItsOk.nil)

def zbh (N : Nat) (l : (List ((List UInt8) × (Int × (Int × Unit))))) (i : Int) (c : ((List UInt8) × (Int × (Int × Unit)))) (x8 : (List ((List UInt8) × (Int × (Int × Unit))))) (x9 : Int) (x10 : Int) (k0 : Bool -> Option Int) : Option Int :=
 (z43 N c.2.1).bind fun y =>
 cond (!y)
 (k0 true)
 ((z43 N c.2.2.1).bind fun y1 =>
 k0 (!y1))

def zbk (N : Nat) (x : z21 [(0, .v (.sl (.pair .str (.pair (.int .i64) (.pair (.int .i64) .unit))))), (2, .v (.int .i64)), (0, .box (.pair .str (.pair (.int .i64) (.pair (.int .i64) .unit)))), (3, .v (.sl (.pair .str (.pair (.int .i64) (.pair (.int .i64) .unit))))), (0, .v (.int .i64)), (0, .v (.int .i64))]) (K : Ex -> List A -> Option Int) : Option Int :=
 zbh N x.1 x.2.1 x.2.2.1 x.2.2.2.1 x.2.2.2.2.1 x.2.2.2.2.2.1 (fun a6 => (K .normal (mkS [(0, .v (.sl (.pair .str (.pair (.int .i64) (.pair (.int .i64) .unit))))), (2, .v (.int .i64)), (0, .box (.pair .str (.pair (.int .i64) (.pair (.int .i64) .unit)))), (3, .v (.sl (.pair .str (.pair (.int .i64) (.pair (.int .i64) .unit))))), (0, .v (.int .i64)), (0, .v (.int .i64)), (9, .v .bool)] 19 (x.1, x.2.1, x.2.2.1, x.2.2.2.1, x.2.2.2.2.1, x.2.2.2.2.2.1, a6, ()))))

def zbi (N : Nat) : Hd Int := fun st K => (unS [(0, .v (.sl (.pair .str (.pair (.int .i64) (.pair (.int .i64) .unit))))), (2, .v (.int .i64)), (0, .box (.pair .str (.pair (.int .i64) (.pair (.int .i64) .unit)))), (3, .v (.sl (.pair .str (.pair (.int .i64) (.pair (.int .i64) .unit))))), (0, .v (.int .i64)), (0, .v (.int .i64))] 29 (restr [4, 0, 3, 10, 9, 8] 0 st)).bind fun x => zbk N x K

def zil (N : Nat) : Tab Int := []

theorem zgj {N : Nat} {c : Ctx} (hb : Base Go.Proofs.Try.prog (z4k N) c) : z1c Go.Proofs.Try.prog c (zl z2p [0, 1, 1, 0, 1, 0, 0, 1, 1, 0, 0, 1, 0, 1, 1]) (zbi N) :=
  z1q (s := [(0, .v (.sl (.pair .str (.pair (.int .i64) (.pair (.int .i64) .unit))))), (2, .v (.int .i64)), (0, .box (.pair .str (.pair (.int .i64) (.pair (.int .i64) .unit)))), (3, .v (.sl (.pair .str (.pair (.int .i64) (.pair (.int .i64) .unit))))), (0, .v (.int .i64)), (0, .v (.int .i64))]) (m := 29) (g := zbk N) [4, 0, 3, 10, 9, 8] (zr hb N (zil N) z5x z2p TabOk.nil [0, 1, 1, 0, 1, 0, 0, 1, 1, 0, 0, 1, 0, 1, 1] _ rfl) (fun x K => by kernel_rfl)

def zbg (N : Nat) (l : (List ((List UInt8) × (Int × (Int × Unit))))) (x8 : (List ((List UInt8) × (Int × (Int × Unit))))) (x9 : Int) (x10 : Int) (rec : Int -> Option Int) (k0 : Int -> Option Int) (k1 : Option Int) : Option Int :=
 cond (decide (x10 < x9))
 (cond (Go.Lift.inR x10 (List.length x8))
 ((zfq N (List.getD x8 (Int.toNat x10) (([] : List UInt8), ((0 : Int), ((0 : Int), ())))).1).bind fun y =>
 cond (!y)
 (k0 (4 : Int))
 (zbh N l x10 (List.getD x8 (Int.toNat x10) (([] : List UInt8), ((0 : Int), ((0 : Int), ())))) x8 x9 x10
 (fun x20 => cond x20
 (k0 (7 : Int))
 (cond (decide (((0 : Int) <= x10) /\ (x10 <= (((List.length l) : Nat) : Int))))
 ((z95 N (Go.Lift.cut l 0 (Int.toNat x10)) (List.getD x8 (Int.toNat x10) (([] : List UInt8), ((0 : Int), ((0 : Int), ())))).1).bind fun y1 =>
 cond (decide ((0 : Int) <= y1))
 (k0 (5 : Int))
 (rec (Go.IntKind.wrap Go.IntKind.i64 (x10 + (1 : Int)))))
 (none)))))
 (none))
 (k1)

def zin (N : Nat) (l : (List ((List UInt8) × (Int × (Int × Unit))))) (x8 : (List ((List UInt8) × (Int × (Int × Unit))))) (x9 : Int) (x10 : Int) (k0 : Int -> Option Int) (k1 : Option Int) : Option Int :=
 iter (fun (v : Int) r => zbg N l x8 x9 v (fun x10 => (r x10)) k0 k1) N x10

def zbl (N : Nat) (i : ((List ((List UInt8) × (Int × (Int × Unit)))) × (List ((List UInt8) × (Int × (Int × Unit)))) × Int)) (v : Int) (r : Int -> Option Int) (K : Ex -> List A -> Option Int) : Option Int :=
 zbg N i.1 i.2.1 i.2.2 v (fun x10 => (r x10)) (fun a0 => (K .ret (mkS [(2, .v (.int .i64))] 37 (a0, ())))) (K (.exit 0) (mkS [] 40 ()))

def zbj (N : Nat) : Hd Int := fun st K => (unS [(0, .v (.sl (.pair .str (.pair (.int .i64) (.pair (.int .i64) .unit))))), (7, .v (.sl (.pair .str (.pair (.int .i64) (.pair (.int .i64) .unit))))), (0, .v (.int .i64)), (0, .v (.int .i64))] 29 (restr [10, 9, 8, 0] 0 st)).bind fun x => iter (fun v r => zbl N ((fun x => (x.1, x.2.1, x.2.2.1)) x) v r K) N ((fun x => x.2.2.2.1) x)

def zim (N : Nat) : Tab Int := [([0, 1, 1, 0, 1, 0, 0, 1, 1, 0, 0, 1, 0, 1, 1], zbi N)]

theorem zgk {N : Nat} {c : Ctx} (hb : Base Go.Proofs.Try.prog (z4k N) c) : z1c Go.Proofs.Try.prog c (zl z2p [0, 1, 0, 1, 1]) (zbj N) :=
  zlm (s := [(0, .v (.sl (.pair .str (.pair (.int .i64) (.pair (.int .i64) .unit))))), (7, .v (.sl (.pair .str (.pair (.int .i64) (.pair (.int .i64) .unit))))), (0, .v (.int .i64)), (0, .v (.int .i64))]) (m := 29) (zbl N) [10, 9, 8, 0] N (fun x => (x.1, x.2.1, x.2.2.1)) (fun x => x.2.2.2.1) (fun i v => (i.1, i.2.1, i.2.2, v, ())) (fun _ => rfl) (zr hb N (zim N) z5x z2p (TabOk.cons (zgj hb) TabOk.nil) [0, 0, 1, 0, 1, 1] _ rfl) (fun i v r K => by kernel_rfl)

def zcg (N : Nat) (l : (List ((List UInt8) × (Int × (Int × Unit))))) : Option Int :=
 cond (decide ((8 : Int) < (((List.length l) : Nat) : Int)))
 (some (3 : Int))
 (zin N l l (((List.length l) : Nat) : Int) (0 : Int)
 (fun x2 => some x2)
 (some (0 : Int)))

def zdd (N : Nat) : Tab Int := [([0, 1, 0, 1, 1], zbj N)]

theorem zfb (N : Nat) (x : z21 [(0, .v (.sl (.pair .str (.pair (.int .i64) (.pair (.int .i64) .unit)))))]) : za0 (z4k N) N (zdd N) z5x Go.Proofs.Try.f8 (mkS [(0, .v (.sl (.pair .str (.pair (.int .i64) (.pair (.int .i64) .unit)))))] 0 x) (z4p (.v (.int .i64)) 1) = zcg N x.1 := by kernel_rfl

def zac (N : Nat) : List A -> Res := z1k [(0, .v (.sl (.pair .str (.pair (.int .i64) (.pair (.int .i64) .unit)))))] (fun x => zcg N x.1) (z8t (.v (.int .i64)) 1)

theorem zio (N : Nat) : Contract Go.Proofs.Try.prog zh 8 (zac N) :=
  Contract.of (E := z4k N) (H := zdd N) (L := z5x) (N := N) (body := z2p) (K := (z4p (.v (.int .i64)) 1)) (zgl N) Go.Proofs.Try.func8 (by kernel_rfl) (by decide) (fun _ hb => (TabOk.cons (zgk hb) TabOk.nil)) (fun x y h => by rw [zfb]; exact h) (z1d (s := (.v (.int .i64))) (m := 1))

def Calm (w : World) (S : Hp) (w' : World) : Prop := ∃ S', WF w (fun _ => False) w' /\ Lift.Sub S S' /\ Lift.Sub S' (hp w') /\ ∀ k, S' k ≠ none -> S k ≠ none \/ w.heap.size <= k

theorem Calm.refl {w : World} {S : Hp} (h : Lift.Sub S (hp w)) : Calm w S w := ⟨S, WF.refl _ _, Lift.Sub.refl S, h, fun _ h => .inl h⟩

theorem Calm.cell {w w' : World} {S : Hp} {p : Addr} {v : Value} (h : Calm w S w') (hc : w.cell? p = some v) : w'.cell? p = some v := by
  obtain ⟨S', h1, _⟩ := h
  have hlt : p.block < w.heap.size := by
    cases hh : w.heap[p.block]? with
    | none => simp [World.cell?, hh] at hc
    | some o => exact (Array.getElem?_eq_some_iff.1 hh).1
  have := h1.same p.block hlt (fun h => h)
  simp only [World.cell?] at hc ⊢
  rw [this]
  exact hc

abbrev ClassT : T := .pair .str (.pair (.int .i64) (.pair (.int .i64) .unit))

def zu0 : Go.Shelf.Ren := ⟨fun | 41 => 17 | n => n, fun | 4 => 4 | 22 => 22 | 23 => 43 | n => n, fun n => n⟩

theorem zte : Go.Proofs.SlLaysE0.n41 Try.prog zu0 where
  mixed := by kernel_rfl
  f41 := ⟨"slices.Clone[[]porter/api.Class,porter/api.Class]", by decide, Try.func17.trans (congrArg some (by kernel_rfl))⟩
  t4 := Try.underlying4
  a4 := Try.isAgg4
  z4 := Try.sizeOf4
  v4 := Try.zeroValue4
  t22 := Try.underlying22
  a22 := Try.isAgg22
  z22 := Try.sizeOf22
  v22 := Try.zeroValue22

def zg3 (N : Nat) (l : List ClassT.den) : Option (List ClassT.den) := cond (decide (l.length * 32 <= 140737488355328)) (some l) none

def z9j (N : Nat) : List A -> Res := z1k [(0, .v (.sl ClassT))] (fun x => zg3 N x.1) (z8t (.row ClassT) 1)

theorem zgy (N : Nat) : Contract Try.prog zh 17 (z9j N) :=
  zro zte (ee := ty43) zop (by decide) (by decide) zh

def zij : Code := (Go.Proofs.Try.f7.body).getD .skip

def zhr : List (List Nat × List Nat) := [([0], [0, 1]), ([0, 0, 1], [6, 1, 0]), ([0, 1, 0, 1], [10, 6, 1, 0]), ([1, 1, 0, 1], [1, 0]), ([0, 0, 1, 1, 0, 1], [4, 5]), ([1, 0, 1, 1, 0, 1], [4, 5]), ([0, 0, 1, 1], [14, 0, 1]), ([1, 0, 1, 1], [0, 1]), ([0, 0, 1, 0, 1, 1], [4, 5]), ([1, 0, 1, 0, 1, 1], [4, 5]), ([0, 1, 1, 1], [4, 5]), ([1, 1, 1, 1], [4, 5])]

def zcf (N : Nat) : Env := z3q tys zh [(17, z9j N), (8, zac N), (16, z2k N)] [] [] [] false [(4, (.pair (.own (.pair .str (.pair (.int .i64) (.pair (.int .i64) .unit)))) (.pair (.int .i64) (.pair (.mp (.pair .str (.pair .str .unit)) (.pair (.int .i64) (.pair (.int .i64) (.pair (.int .i64) (.pair (.int .i64) .unit))))) .unit)))), (19, (.pair (.own (.pair .str (.pair (.int .i64) (.pair (.int .i64) .unit)))) (.pair (.int .i64) (.pair (.mp (.pair .str (.pair .str .unit)) (.pair (.int .i64) (.pair (.int .i64) (.pair (.int .i64) (.pair (.int .i64) .unit))))) .unit)))), (20, (.pair (.own (.pair .str (.pair (.int .i64) (.pair (.int .i64) .unit)))) (.pair (.int .i64) (.pair (.mp (.pair .str (.pair .str .unit)) (.pair (.int .i64) (.pair (.int .i64) (.pair (.int .i64) (.pair (.int .i64) .unit))))) .unit))))] [] [(.nb (.pair (.own (.pair .str (.pair (.int .i64) (.pair (.int .i64) .unit)))) (.pair (.int .i64) (.pair (.mp (.pair .str (.pair .str .unit)) (.pair (.int .i64) (.pair (.int .i64) (.pair (.int .i64) (.pair (.int .i64) .unit))))) .unit)))), (.int .i64)]

theorem z99 (N : Nat) : EnvOk Go.Proofs.Try.prog (zcf N) := zp mixed z1t (FnsOk.cons (zgy N) (FnsOk.cons (zio N) (FnsOk.cons (z48 N) (FnsOk.nil)))) (ItsOk.nil)

def zik (N : Nat) (l : (List ((List UInt8) × (Int × (Int × Unit))))) (now : Int) : Option ((Option ((List ((List UInt8) × (Int × (Int × Unit)))) × (Int × ((Option (List (((List UInt8) × ((List UInt8) × Unit)) × (Int × (Int × (Int × (Int × Unit))))))) × Unit)))) × Int × Unit) :=
 (zcg N l).bind fun y =>
 cond (y != (0 : Int))
 (some ((Option.none), (y, ())))
 ((z43 N now).bind fun y1 =>
 cond (!y1)
 (some ((Option.none), ((7 : Int), ())))
 ((zg3 N l).bind fun y2 =>
 some ((Option.some (y2, (now, ((Option.some ([] : List (((List UInt8) × ((List UInt8) × Unit)) × (Int × (Int × (Int × (Int × Unit))))))), ())))), ((0 : Int), ()))))

def zhq (N : Nat) : Tab ((Option ((List ((List UInt8) × (Int × (Int × Unit)))) × (Int × ((Option (List (((List UInt8) × ((List UInt8) × Unit)) × (Int × (Int × (Int × (Int × Unit))))))) × Unit)))) × Int × Unit) := []

theorem zii (N : Nat) (x : z21 [(0, .v (.sl (.pair .str (.pair (.int .i64) (.pair (.int .i64) .unit))))), (0, .v (.int .i64))]) : za0 (zcf N) N (zhq N) zhr Go.Proofs.Try.f7 (mkS [(0, .v (.sl (.pair .str (.pair (.int .i64) (.pair (.int .i64) .unit))))), (0, .v (.int .i64))] 0 x) (z4p (.otup [(.nb (.pair (.own (.pair .str (.pair (.int .i64) (.pair (.int .i64) .unit)))) (.pair (.int .i64) (.pair (.mp (.pair .str (.pair .str .unit)) (.pair (.int .i64) (.pair (.int .i64) (.pair (.int .i64) (.pair (.int .i64) .unit))))) .unit)))), (.int .i64)]) 2) = zik N x.1 x.2.1 := by kernel_rfl

def zdc (N : Nat) : List A -> Res := z1k [(0, .v (.sl (.pair .str (.pair (.int .i64) (.pair (.int .i64) .unit))))), (0, .v (.int .i64))] (fun x => zik N x.1 x.2.1) (z8t (.otup [(.nb (.pair (.own (.pair .str (.pair (.int .i64) (.pair (.int .i64) .unit)))) (.pair (.int .i64) (.pair (.mp (.pair .str (.pair .str .unit)) (.pair (.int .i64) (.pair (.int .i64) (.pair (.int .i64) (.pair (.int .i64) .unit))))) .unit)))), (.int .i64)]) 2)

theorem zlf (N : Nat) : Contract Go.Proofs.Try.prog zh 7 (zdc N) :=
  Contract.of (E := zcf N) (H := zhq N) (L := zhr) (N := N) (body := zij) (K := (z4p (.otup [(.nb (.pair (.own (.pair .str (.pair (.int .i64) (.pair (.int .i64) .unit)))) (.pair (.int .i64) (.pair (.mp (.pair .str (.pair .str .unit)) (.pair (.int .i64) (.pair (.int .i64) (.pair (.int .i64) (.pair (.int .i64) .unit))))) .unit)))), (.int .i64)]) 2)) (z99 N) Go.Proofs.Try.func7 (by kernel_rfl) (by decide) (fun _ hb => TabOk.nil) (fun x y h => by rw [zii]; exact h) (z1d (s := (.otup [(.nb (.pair (.own (.pair .str (.pair (.int .i64) (.pair (.int .i64) .unit)))) (.pair (.int .i64) (.pair (.mp (.pair .str (.pair .str .unit)) (.pair (.int .i64) (.pair (.int .i64) (.pair (.int .i64) (.pair (.int .i64) .unit))))) .unit)))), (.int .i64)])) (m := 2))

def z4s : Code := (Go.Proofs.Try.f26.body).getD .skip

def z7z : List (List Nat × List Nat) := [([0], [2, 1, 4]), ([0, 1], [6, 4]), ([0, 1, 1], [6, 7, 4]), ([0, 0, 1, 1, 1], [13, 6, 7, 4]), ([1, 0, 1, 1, 1], [7, 6, 4]), ([0, 1, 0, 1, 1, 1], [7, 6, 4]), ([0, 1, 1, 1, 1], [4, 5]), ([1, 1, 1, 1, 1], [4, 5])]

def z4x (N : Nat) : Env := z3q tys zh [(24, z80 N), (32, z4t N)] [] [] [] false [] []

theorem zg7 (N : Nat) : EnvOk Go.Proofs.Try.prog (z4x N) := zp mixed z1t (FnsOk.cons (z9p N) (FnsOk.cons (z9n N) (FnsOk.nil))) (ItsOk.nil)

def zag (N : Nat) (x4 : (Int × (Int × (Int × (Int × Unit))))) (later : (Int × (Int × (Int × (Int × Unit))))) (rest : (Int × (Int × (Int × (Int × Unit))))) (k0 : (Int × (Int × (Int × (Int × Unit)))) -> Option ((Int × (Int × (Int × (Int × Unit)))) × Bool × Unit)) : Option ((Int × (Int × (Int × (Int × Unit)))) × Bool × Unit) :=
 (z61 N later).bind fun y =>
 cond y
 (k0 (rest.1, (rest.2.1, ((if ((0 : Int) > (Go.IntKind.wrap Go.IntKind.i64 (later.2.2.1 - (1 : Int)))) then (0 : Int) else (Go.IntKind.wrap Go.IntKind.i64 (later.2.2.1 - (1 : Int)))), rest.2.2.2))))
 (k0 rest)

def zai (N : Nat) (x : z21 [(4, .box (.pair (.int .i64) (.pair (.int .i64) (.pair (.int .i64) (.pair (.int .i64) .unit))))), (1, .box (.pair (.int .i64) (.pair (.int .i64) (.pair (.int .i64) (.pair (.int .i64) .unit))))), (0, .box (.pair (.int .i64) (.pair (.int .i64) (.pair (.int .i64) (.pair (.int .i64) .unit)))))]) (K : Ex -> List A -> Option ((Int × (Int × (Int × (Int × Unit)))) × Bool × Unit)) : Option ((Int × (Int × (Int × (Int × Unit)))) × Bool × Unit) :=
 zag N x.1 x.2.1 x.2.2.1 (fun a2 => (K .normal (mkS [(4, .box (.pair (.int .i64) (.pair (.int .i64) (.pair (.int .i64) (.pair (.int .i64) .unit))))), (1, .box (.pair (.int .i64) (.pair (.int .i64) (.pair (.int .i64) (.pair (.int .i64) .unit))))), (0, .box (.pair (.int .i64) (.pair (.int .i64) (.pair (.int .i64) (.pair (.int .i64) .unit)))))] 15 (x.1, x.2.1, a2, ()))))

def zah (N : Nat) : Hd ((Int × (Int × (Int × (Int × Unit)))) × Bool × Unit) := fun st K => (unS [(4, .box (.pair (.int .i64) (.pair (.int .i64) (.pair (.int .i64) (.pair (.int .i64) .unit))))), (1, .box (.pair (.int .i64) (.pair (.int .i64) (.pair (.int .i64) (.pair (.int .i64) .unit))))), (0, .box (.pair (.int .i64) (.pair (.int .i64) (.pair (.int .i64) (.pair (.int .i64) .unit)))))] 15 (restr [6, 7, 4] 0 st)).bind fun x => zai N x K

def zgz (N : Nat) : Tab ((Int × (Int × (Int × (Int × Unit)))) × Bool × Unit) := []

theorem zg6 {N : Nat} {c : Ctx} (hb : Base Go.Proofs.Try.prog (z4x N) c) : z1c Go.Proofs.Try.prog c (zl z4s [0, 1, 1, 1]) (zah N) :=
  z1q (s := [(4, .box (.pair (.int .i64) (.pair (.int .i64) (.pair (.int .i64) (.pair (.int .i64) .unit))))), (1, .box (.pair (.int .i64) (.pair (.int .i64) (.pair (.int .i64) (.pair (.int .i64) .unit))))), (0, .box (.pair (.int .i64) (.pair (.int .i64) (.pair (.int .i64) (.pair (.int .i64) .unit)))))]) (m := 15) (g := zai N) [6, 7, 4] (zr hb N (zgz N) z7z z4s TabOk.nil [0, 1, 1, 1] _ rfl) (fun x K => by kernel_rfl)

def z3d (N : Nat) (b : (Int × (Int × (Int × (Int × Unit))))) (now : Int) : Option ((Int × (Int × (Int × (Int × Unit)))) × Bool × Unit) :=
 (z4o N b now).bind fun y =>
 zag N ((0 : Int), ((0 : Int), ((0 : Int), ((0 : Int), ())))) y y
 (fun rest => some (rest, ((!(Go.Lift.eqD (Go.Lift.T.pair (Go.Lift.T.int Go.IntKind.i64) (Go.Lift.T.pair (Go.Lift.T.int Go.IntKind.i64) (Go.Lift.T.pair (Go.Lift.T.int Go.IntKind.i64) (Go.Lift.T.pair (Go.Lift.T.int Go.IntKind.i64) Go.Lift.T.unit)))) rest y)), ())))

def zc4 (N : Nat) : Tab ((Int × (Int × (Int × (Int × Unit)))) × Bool × Unit) := [([0, 1, 1, 1], zah N)]

theorem zef (N : Nat) (x : z21 [(0, .v (.pair (.int .i64) (.pair (.int .i64) (.pair (.int .i64) (.pair (.int .i64) .unit))))), (0, .v (.int .i64))]) : za0 (z4x N) N (zc4 N) z7z Go.Proofs.Try.f26 (mkS [(0, .v (.pair (.int .i64) (.pair (.int .i64) (.pair (.int .i64) (.pair (.int .i64) .unit))))), (0, .v (.int .i64))] 0 x) (z4p (.tup [(.pair (.int .i64) (.pair (.int .i64) (.pair (.int .i64) (.pair (.int .i64) .unit)))), .bool]) 2) = z3d N x.1 x.2.1 := by kernel_rfl

def z9m (N : Nat) : List A -> Res := z1k [(0, .v (.pair (.int .i64) (.pair (.int .i64) (.pair (.int .i64) (.pair (.int .i64) .unit))))), (0, .v (.int .i64))] (fun x => z3d N x.1 x.2.1) (z8t (.tup [(.pair (.int .i64) (.pair (.int .i64) (.pair (.int .i64) (.pair (.int .i64) .unit)))), .bool]) 2)

theorem zaj (N : Nat) : Contract Go.Proofs.Try.prog zh 26 (z9m N) :=
  Contract.of (E := z4x N) (H := zc4 N) (L := z7z) (N := N) (body := z4s) (K := (z4p (.tup [(.pair (.int .i64) (.pair (.int .i64) (.pair (.int .i64) (.pair (.int .i64) .unit)))), .bool]) 2)) (zg7 N) Go.Proofs.Try.func26 (by kernel_rfl) (by decide) (fun _ hb => (TabOk.cons (zg6 hb) TabOk.nil)) (fun x y h => by rw [zef]; exact h) (z1d (s := (.tup [(.pair (.int .i64) (.pair (.int .i64) (.pair (.int .i64) (.pair (.int .i64) .unit)))), .bool])) (m := 2))

abbrev OwT : T := .pair .str (.pair .str .unit)

abbrev BkT : T := .pair (.int .i64) (.pair (.int .i64) (.pair (.int .i64) (.pair (.int .i64) .unit)))

abbrev RtT : T := .pair (.own ClassT) (.pair (.int .i64) (.pair (.mp OwT BkT) .unit))

abbrev RtA : T := .pair (.own ClassT) (.pair (.int .i64) (.pair .opq .unit))

theorem z9z (S : Hp) : GlobOk zh S := fun g d h => by cases h

theorem zpd (S : Hp) (t c : List UInt8) : VR S OwT (t, (c, ())) (.agg #[.string ⟨⟨t⟩⟩, .string ⟨⟨c⟩⟩]) :=
  show ∃ cs, _ = Value.agg cs /\ Rd S OwT (t, (c, ())) cs.toList from ⟨_, rfl, [.string ⟨⟨t⟩⟩], _, rfl, rfl, [.string ⟨⟨c⟩⟩], [], rfl, rfl, rfl⟩

abbrev bkV (a b c d : Int) : Value := .agg #[.int .i64 a, .int .i64 b, .int .i64 c, .int .i64 d]

theorem zqu (S : Hp) (a b c d : Int) : VR S BkT (a, (b, (c, (d, ())))) (bkV a b c d) :=
  show ∃ cs, _ = Value.agg cs /\ Rd S BkT (a, (b, (c, (d, ())))) cs.toList from
    ⟨_, rfl, [.int .i64 a], _, rfl, rfl, [.int .i64 b], _, rfl, rfl, [.int .i64 c], _, rfl, rfl, [.int .i64 d], [], rfl, rfl, rfl⟩

theorem zqv {S : Hp} {a b c d : Int} {v : Value} (h : VR S BkT (a, (b, (c, (d, ())))) v) : v = bkV a b c d := by
  have h' : ∃ cs, v = .agg cs /\ Rd S BkT (a, (b, (c, (d, ())))) cs.toList := h
  obtain ⟨cs, rfl, c1, c2, hc, k1, c3, c4, hc', k2, c5, c6, hc'', k3, c7, c8, hc3, k4, k5⟩ := h'
  have e1 : c1 = [.int .i64 a] := k1
  have e2 : c3 = [.int .i64 b] := k2
  have e3 : c5 = [.int .i64 c] := k3
  have e4 : c7 = [.int .i64 d] := k4
  have e5 : c8 = [] := k5
  congr 1
  apply Array.toList_inj.1
  rw [hc, hc', hc'', hc3, e1, e2, e3, e4, e5]
  rfl

theorem zoq {h S : Hp} {a b c d : Int} {ok : Bool} {v : Value} {o : List Nat} (hr : ARel h S (fun _ => undef) (.tup [⟨BkT, (a, (b, (c, (d, ()))))⟩, ⟨.bool, ok⟩]) v o) : v = .tuple #[bkV a b c d, .bool ok] := by
  obtain ⟨_, vs, rfl, ht⟩ := hr
  generalize hvs : vs.toList = l at ht
  cases ht with
  | cons h1 ht =>
  cases ht with
  | cons h2 ht =>
  cases ht
  congr 1
  apply Array.toList_inj.1
  rw [hvs, zqv h1, VR.bool_inv h2]

theorem zmn {h S : Hp} {cls : List ClassT.den} {start : Int} {m : Option (List (OwT.den × BkT.den))} {v : Value} {o : List Nat} (hr : ARel h S (fun _ => undef) (.box RtT (cls, (start, (m, ())))) v o) :
    ∃ b sv mv E fr b1 b2, o = b :: (b1 ++ b2) /\ v = .pointer (some ⟨b, 0, none⟩) /\ h b = some (.cells #[sv, .int .i64 start, mv] E fr) /\ Free #[sv, .int .i64 start, mv] fr /\ RowRel h S ClassT cls sv b1 /\ MpRel h S OwT BkT m mv b2 := by
  obtain ⟨b, cs, E, fr, bs, rfl, rfl, hb, hf, c1, c2, b1, b2, hc, hbs, ⟨sv, hsv, hrow⟩, c3, c4, b3, b4, hc', hbs', ⟨hb3, hi⟩, c5, c6, b5, b6, hc'', hbs'', ⟨mv, hmv, hmp⟩, ⟨hb6, hu⟩⟩ := hr
  have e3 : c3 = [.int .i64 start] := hi
  have e6 : c6 = [] := hu
  have ecs : cs = #[sv, .int .i64 start, mv] := by
    apply Array.toList_inj.1
    rw [hc, hc', hc'', hsv, e3, hmv, e6]; rfl
  subst ecs
  exact ⟨b, sv, mv, E, fr, b1, b5, by rw [hbs, hbs', hbs'', hb3, hb6]; simp, rfl, hb, hf, hrow, hmp⟩

theorem ztr {h S : Hp} {cls : List ClassT.den} {start : Int} {m : Option (List (OwT.den × BkT.den))} {b E : Nat} {fr : Nat × Nat} {sv mv : Value} {b1 b2 : List Nat} (hb : h b = some (.cells #[sv, .int .i64 start, mv] E fr)) (hf : Free #[sv, .int .i64 start, mv] fr)
    (h1 : RowRel h S ClassT cls sv b1) (h2 : MpRel h S OwT BkT m mv b2) : ARel h S (fun _ => undef) (.box RtT (cls, (start, (m, ())))) (.pointer (some ⟨b, 0, none⟩)) (b :: (b1 ++ b2)) :=
  ⟨b, _, E, fr, _, rfl, rfl, hb, hf, [sv], [.int .i64 start, mv], b1, b2, rfl, rfl, ⟨sv, rfl, h1⟩, [.int .i64 start], [mv], [], b2, rfl, rfl, ⟨rfl, rfl⟩, [mv], [], b2, [], rfl, by simp, ⟨mv, rfl, h2⟩, ⟨rfl, rfl⟩⟩

theorem zjy {w0 : World} {w : World} {S0 : Hp} {ob0 : List Nat} {bf : Nat} {L : List (Nat × Array Value × Nat)} {cls : List ClassT.den} {start : Int} {xs : List (OwT.den × BkT.den)} (h : BSt RtT w0 S0 ob0 bf w (cls, (start, (some xs, ()))) L) : ∃ mb, w.cell? ⟨bf, 2, none⟩ = some (.map (some mb)) := by
  obtain ⟨S, o, h1, h2, h3, h4, h5, h6, h7, hL⟩ := h
  obtain ⟨b, sv, mv, E, fr, b1, b2, rfl, e, hb, hf, hrow, hmp⟩ := zmn h5
  cases e
  rcases hmp with ⟨e, _⟩ | ⟨xs', mb, es, cl, e, e1, e2, e3, _⟩
  . cases e
  . subst e2
    have hb' : w.heap[bf]? = _ := hb
    exact ⟨mb, by simp [World.cell?, hb']⟩

theorem zp1 {w0 : World} {w : World} {S0 : Hp} {ob0 : List Nat} {bf : Nat} {L : List (Nat × Array Value × Nat)} (N : Nat) {cls : List ClassT.den} {start : Int} {xs : List (OwT.den × BkT.den)} {mb : Nat} (t c : List UInt8) (h : BSt RtT w0 S0 ob0 bf w (cls, (start, (some xs, ()))) L) (hc : w.cell? ⟨bf, 2, none⟩ = some (.map (some mb))) :
    ∃ a1 a2 a3 a4, (z4q (eqD OwT) (t, (c, ())) xs).getD (0, (0, (0, (0, ())))) = (a1, (a2, (a3, (a4, ())))) /\ (Instr.lookup 46 (.map (some mb)) (.agg #[.string ⟨⟨t⟩⟩, .string ⟨⟨c⟩⟩]) true).run Try.prog w = .ok (.tuple #[bkV a1 a2 a3 a4, .bool (z4q (eqD OwT) (t, (c, ())) xs).isSome]) w := by
  obtain ⟨S, o, h1, h2, h3, h4, h5, h6, h7, hL⟩ := h
  obtain ⟨b, sv, mv, E, fr, b1, b2, rfl, e, hb, hf, hrow, hmp⟩ := zmn h5
  cases e
  have hb' : w.heap[bf]? = _ := hb
  have hmv : mv = .map (some mb) := by simpa [World.cell?, hb'] using hc
  subst hmv
  rcases hmp with ⟨e, _⟩ | ⟨xs', mb', es, cl, e, e1, e2, e3, e4, _⟩
  . cases e
  . cases e; cases e2
    obtain ⟨u, hu, hrun⟩ := zld (z99 N) (S := S) (t := 46) (ki := 58) (ke := ty58) (ve := ty54) (by kernel_rfl) (zpd S t c) e3 e4
    generalize hq : (z4q (eqD OwT) (t, (c, ())) xs).getD (0, (0, (0, (0, ())))) = q
    obtain ⟨a1, a2, a3, a4, ⟨⟩⟩ := q
    refine ⟨a1, a2, a3, a4, rfl, ?_⟩
    have hu' : VR S BkT (a1, (a2, (a3, (a4, ())))) u := by rw [<- hq]; exact hu
    rw [zqv hu'] at hrun
    exact hrun

theorem zqx {w : World} {S : Hp} : ArgsRel (hp w) S [] [] (fun _ => []) := ⟨rfl, (fun i y hy => by simp at hy), fun _ _ => rfl, (fun i j b hb => by cases hb), fun _ => .nil, (fun i b hb => by cases hb)⟩

theorem zrw {w : World} {S : Hp} {a : A} {v : Value} (h : ARel (hp w) S (fun _ => undef) a v []) (hr : a.refs = []) : ArgsRel (hp w) S [a] [v] (fun _ => []) := by
  refine ⟨rfl, fun i y hy => ?_, fun _ _ => rfl, (fun i j b hb => by cases hb), fun _ => .nil, (fun i b hb => by cases hb)⟩
  cases i with
  | zero => simp at hy; subst hy; exact ⟨⟨v, rfl, h⟩, hr⟩
  | succ i => simp at hy

theorem zn4 {w : World} {S : Hp} {a b : A} {v u : Value} (h : ARel (hp w) S (fun _ => undef) a v []) (hr : a.refs = []) (h2 : ARel (hp w) S (fun _ => undef) b u []) (hr2 : b.refs = []) : ArgsRel (hp w) S [a, b] [v, u] (fun _ => []) := by
  refine ⟨rfl, fun i y hy => ?_, fun _ _ => rfl, (fun i j b hb => by cases hb), fun _ => .nil, (fun i b hb => by cases hb)⟩
  cases i with
  | zero => simp at hy; subst hy; exact ⟨⟨v, rfl, h⟩, hr⟩
  | succ i =>
    cases i with
    | zero => simp at hy; subst hy; exact ⟨⟨u, rfl, h2⟩, hr2⟩
    | succ i => simp at hy

theorem z6w {w0 : World} {w : World} {S0 : Hp} {ob0 : List Nat} {bf : Nat} {L : List (Nat × Array Value × Nat)} (N : Nat) {cls : List ClassT.den} {start : Int} {m : Option (List (OwT.den × BkT.den))} (h : BSt RtT w0 S0 ob0 bf w (cls, (start, (m, ()))) L) :
    Calls Try.prog 21 #[.pointer (some ⟨bf, 0, none⟩)] w fun e w' => e = .returned (.bool m.isSome) /\ BSt RtT w0 S0 ob0 bf w' (cls, (start, (m, ()))) L := by
  have hy : z55 N (cls, (start, (m, ()))) = some (m.isSome, ((cls, (start, (m, ()))), ())) := by
    show some (!(!m.isSome), _) = _
    rw [Bool.not_not]
  refine (BSt.boxed (z5t N) z9z h (args := []) (vals := []) (fun S _ => zqx) (y := (m.isSome, ((cls, (start, (m, ()))), ()))) hy rfl).mono ?_
  rintro e w' ⟨v, S', o', rfl, hr, h'⟩
  exact ⟨by rw [VR.bool_inv hr.1], h'⟩

def zg0 (N : Nat) (cls : List ClassT.den) (start : Int) (o : OwT.den) : Option (BkT.den × (Bool × Unit)) := (z1m N (cls, (start, (.nilIface, ()))) o).map (·.1)

theorem zq6 (N : Nat) (cls : List ClassT.den) (start : Int) (v : Value) (o : OwT.den) : z1m N (cls, (start, (v, ()))) o = (zg0 N cls start o).bind fun q => some (q, ((cls, (start, (v, ()))), ())) := by
  unfold zg0 z1m
  dsimp only
  cases z95 N cls o.2.1 with
  | none => rfl
  | some y =>
    simp only [Option.bind_some]
    cases decide (y < 0) with
    | true => rfl
    | false =>
      simp only [cond_false]
      cases inR y (List.length cls) with
      | false => rfl
      | true =>
        simp only [cond_true]
        cases decide (Int.toNat y < List.length cls) <;> rfl

theorem zo9 {w0 : World} {w : World} {S0 : Hp} {ob0 : List Nat} {bf : Nat} {L : List (Nat × Array Value × Nat)} (N : Nat) {cls : List ClassT.den} {start : Int} {xs : List (OwT.den × BkT.den)} {mb : Nat} {t c : List UInt8} {a1 a2 a3 a4 : Int} {ok : Bool} (h : BSt RtT w0 S0 ob0 bf w (cls, (start, (some xs, ()))) L) (hc : w.cell? ⟨bf, 2, none⟩ = some (.map (some mb)))
    (hy : zg0 N cls start (t, (c, ())) = some ((a1, (a2, (a3, (a4, ())))), (ok, ()))) :
    Calls Try.prog 23 #[.pointer (some ⟨bf, 0, none⟩), .agg #[.string ⟨⟨t⟩⟩, .string ⟨⟨c⟩⟩]] w fun e w' => e = .returned (.tuple #[bkV a1 a2 a3 a4, .bool ok]) /\ BSt RtT w0 S0 ob0 bf w' (cls, (start, (some xs, ()))) L /\ w'.cell? ⟨bf, 2, none⟩ = some (.map (some mb)) := by
  obtain ⟨S, o, h1, h2, h3, h4, h5, h6, h7, hL⟩ := h
  obtain ⟨b, sv, mv, E, fr, p1, p2, rfl, e, hb, hf, hrow, hmp⟩ := zmn h5
  cases e
  have hb' : w.heap[bf]? = _ := hb
  have hmv : mv = .map (some mb) := by simpa [World.cell?, hb'] using hc
  subst hmv
  have hmp' := hmp
  rcases hmp with ⟨e, _⟩ | ⟨xs', mb', es, cl, e, e1, e2, e3, e4, e5, e6⟩
  . cases e
  cases e; cases e2
  subst e1
  have h6' := h6
  rw [List.nodup_cons, List.nodup_append] at h6'
  obtain ⟨n1, n2, n3, n4⟩ := h6'
  have hbm : bf ≠ mb := fun e => n1 (by simp [e])
  have hpm : mb ∉ p1 := fun hm => n4 mb hm mb (by simp) rfl
  have hms : mb < w.heap.size := by
    have : w.heap[mb]? = _ := e3
    exact (Array.getElem?_eq_some_iff.1 this).1
  have h5' : ARel (hp w) S (fun _ => undef) (.box RtA (cls, (start, (.map (some mb), ())))) (.pointer (some ⟨bf, 0, none⟩)) (bf :: p1) :=
    ⟨bf, _, E, fr, _, rfl, rfl, hb, hf, [sv], [.int .i64 start, .map (some mb)], p1, [], rfl, by simp, ⟨sv, rfl, hrow⟩, [.int .i64 start], [.map (some mb)], [], [], rfl, rfl, ⟨rfl, rfl⟩, [.map (some mb)], [], [], [], rfl, rfl, ⟨rfl, rfl, rfl⟩, ⟨rfl, rfl⟩⟩
  have har := zn5 h5' (List.nodup_cons.2 ⟨fun hm => n1 (by simp [hm]), n2⟩) (fun k hk => (h7 k (by simp at hk ⊢; rcases hk with hk | hk <;> simp [hk])).1) (zrw (a := .v OwT (t, (c, ()))) (v := .agg #[.string ⟨⟨t⟩⟩, .string ⟨⟨c⟩⟩]) ⟨zpd S t c, rfl⟩ rfl)
  have hy' : z1m N (cls, (start, (.map (some mb), ()))) (t, (c, ())) = some (((a1, (a2, (a3, (a4, ())))), (ok, ())), ((cls, (start, (.map (some mb), ()))), ())) := by
    rw [zq6, hy]; rfl
  refine ((z38 N).2 w S _ _ _ har h3 (z9z S) (((a1, (a2, (a3, (a4, ())))), (ok, ())), ((cls, (start, (.map (some mb), ()))), ())) hy').mono ?_
  rintro e w' ⟨v, S', q, ob', rfl, hwf, hSS, hSw, hnew, ⟨hr, _⟩, hq, _, hbox, hob1, hob2, hob3, _⟩
  have hin : ∀ k, (∃ i, k ∈ (fun i => if i = 0 then bf :: p1 else []) i) -> k ∈ bf :: p1 := by
    rintro k ⟨i, hi⟩
    by_cases hi0 : i = 0
    . simpa [hi0] using hi
    . simp [hi0] at hi
  have hmn : mb ∉ bf :: p1 := by
    intro hm
    rcases List.mem_cons.1 hm with hm | hm
    . exact hbm hm.symm
    . exact hpm hm
  obtain ⟨x2, v2, g1, g2, _, g4⟩ := hbox 0 _ rfl rfl
  cases g1
  simp at g2
  subst g2
  obtain ⟨b', cs', E', fr', bs', eo, ev, hb2, hf2, c1, c2, q1, q2, hcs, hbs, ⟨sv', hsv, hrow'⟩, c3, c4, q3, q4, hcs', hbs', ⟨hq3, hi⟩, c5, c6, q5, q6, hcs'', hbs'', ⟨hq5, hop, _⟩, ⟨hq6, hu⟩⟩ := g4
  cases ev
  have i3 : c3 = [.int .i64 start] := hi
  have i6 : c6 = [] := hu
  have ecs : cs' = #[sv', .int .i64 start, .map (some mb)] := by
    apply Array.toList_inj.1
    rw [hcs, hcs', hcs'', hsv, i3, hop, i6]; rfl
  subst ecs
  have ebs : bs' = q1 := by rw [hbs, hbs', hbs'', hq3, hq5, hq6]; simp
  subst ebs
  have hsame : hp w' mb = hp w mb := hwf.same mb hms (fun hh => hmn (hin mb hh))
  have hnd := hob3 0
  rw [eo] at hnd
  have hfar : ∀ k ∈ bf :: bs', k ≠ mb := by
    rintro k hk rfl
    have := (hob1 0 k (by rw [eo]; exact hk)).1
    rcases this with h | h
    . exact hmn (hin k h)
    . omega
  refine ⟨by rw [zoq hr], zqq h1 h2 h4 h7 hL (S' := S') (o' := bf :: (bs' ++ [mb])) ⟨hwf.size, fun k hk hn => hwf.same k hk (fun hh => hn (by have := hin k hh; simp at this ⊢; rcases this with h | h <;> simp [h])), hwf.tape, hwf.os, hwf.output⟩ hSS hSw (fun k hk => ?_) ?_ ?_ (fun k hk => ?_), ?_⟩
  . rcases hnew k hk with h | h | h
    . exact .inl h
    . exact .inr (.inl (by have := hin k h; simp at this ⊢; rcases this with h | h <;> simp [h]))
    . exact .inr (.inr h)
  . exact ztr hb2 hf2 hrow' (hmp'.mono hSS (fun k hk => by rw [List.mem_singleton.1 hk]; exact hsame))
  . rw [<- List.cons_append, List.nodup_append]
    exact ⟨hnd, by simp, fun k hk u hu => by rw [List.mem_singleton.1 hu]; exact hfar k hk⟩
  . have hk' : k ∈ bf :: bs' \/ k = mb := by simp at hk ⊢; rcases hk with h | h | h <;> simp [h]
    rcases hk' with hk' | rfl
    . obtain ⟨z1, z2, _⟩ := hob1 0 k (by rw [eo]; exact hk')
      refine ⟨z2, ?_⟩
      rcases z1 with h | h
      . exact .inl (by have := hin k h; simp at this ⊢; rcases this with h | h <;> simp [h])
      . exact .inr h
    . refine ⟨?_, .inl (by simp)⟩
      cases hs : S' k with
      | none => rfl
      | some u =>
        rcases hnew k (by rw [hs]; simp) with h | h | h
        . exact absurd (h7 k (by simp)).1 h
        . exact absurd (hin k h) hmn
        . omega
  . have hb2' : w'.heap[bf]? = _ := hb2
    simp [World.cell?, hb2']

theorem zog {w0 : World} {w : World} {S0 : Hp} {ob0 : List Nat} {bf : Nat} {L : List (Nat × Array Value × Nat)} (N : Nat) {x : RtT.den} {a1 a2 a3 a4 b1 b2 b3 b4 now : Int} {ok : Bool} (h : BSt RtT w0 S0 ob0 bf w x L) (hy : z3d N (a1, (a2, (a3, (a4, ())))) now = some ((b1, (b2, (b3, (b4, ())))), (ok, ()))) :
    Calls Try.prog 26 #[bkV a1 a2 a3 a4, .int .i64 now] w fun e w' => e = .returned (.tuple #[bkV b1 b2 b3 b4, .bool ok]) /\ BSt RtT w0 S0 ob0 bf w' x L := by
  refine (BSt.plain (zaj N) z9z h (args := [.v BkT (a1, (a2, (a3, (a4, ())))), .v (.int .i64) now]) (vals := [bkV a1 a2 a3 a4, .int .i64 now]) (fun S _ => zn4 ⟨zqu S a1 a2 a3 a4, rfl⟩ rfl ⟨VR.int, rfl⟩ rfl) (y := ((b1, (b2, (b3, (b4, ())))), (ok, ()))) hy).mono ?_
  rintro e w' ⟨v, S', o', rfl, hr, h'⟩
  exact ⟨by rw [zoq hr], h'⟩

theorem zrt {w0 : World} {w : World} {S0 : Hp} {ob0 : List Nat} {bf : Nat} {L : List (Nat × Array Value × Nat)} (N : Nat) {x : RtT.den} {a1 a2 a3 a4 b1 b2 b3 b4 now : Int} (h : BSt RtT w0 S0 ob0 bf w x L) (hy : z4o N (a1, (a2, (a3, (a4, ())))) now = some (b1, (b2, (b3, (b4, ()))))) :
    Calls Try.prog 24 #[bkV a1 a2 a3 a4, .int .i64 now] w fun e w' => e = .returned (.agg #[.int .i64 b1, .int .i64 b2, .int .i64 b3, .int .i64 b4]) /\ BSt RtT w0 S0 ob0 bf w' x L := by
  refine (BSt.plain (z9p N) z9z h (args := [.v BkT (a1, (a2, (a3, (a4, ())))), .v (.int .i64) now]) (vals := [bkV a1 a2 a3 a4, .int .i64 now]) (fun S _ => zn4 ⟨zqu S a1 a2 a3 a4, rfl⟩ rfl ⟨VR.int, rfl⟩ rfl) (y := (b1, (b2, (b3, (b4, ()))))) hy).mono ?_
  rintro e w' ⟨v, S', o', rfl, hr, h'⟩
  exact ⟨by rw [zqv hr.1], h'⟩

def z1p (N : Nat) (r : RtT.den) (o : OwT.den) : Option ((BkT.den × (Bool × Unit)) × RtT.den) := match z4q (eqD OwT) o (r.2.2.1.getD []) with
  | some b => some ((b, (true, ())), r)
  | none => (zg0 N r.1 r.2.1 o).bind fun q => some (q, r)

theorem z1s {w : World} {cs : Array Value} {E : Nat} {p : Addr} {v : Value} (h : w.cell? p = some v) : (w.alloc (.cells cs E)).cell? p = some v := Go.Lib.cell?_alloc_some _ h

theorem zje {w : World} {cs : Array Value} {E i : Nat} {v : Value} (h : cs[i]? = some v) : (w.alloc (.cells cs E)).cell? ⟨w.heap.size, i, none⟩ = some v := by
  have hh : (w.alloc (.cells cs E)).heap = w.heap.push (.cells cs E (0, 0)) := rfl
  simp [World.cell?, hh, h]

theorem zu2 (w : World) (cs : Array Value) (E : Nat) : (w.alloc (.cells cs E)).heap.size = w.heap.size + 1 := Array.size_push ..

theorem zu3 {w : World} {A cs : Array Value} {F E i : Nat} {v : Value} (h : cs[i]? = some v) : ((w.alloc (.cells A F)).alloc (.cells cs E)).cell? ⟨w.heap.size + 1, i, none⟩ = some v := by
  have := zje (w := w.alloc (.cells A F)) (E := E) h
  rwa [zu2] at this

theorem zc5 {w : World} {p : Addr} {v : Value} (hc : w.cell? p = some v) : p.block < w.heap.size := by
  cases hh : w.heap[p.block]? with
  | none => simp [World.cell?, hh] at hc
  | some o => exact (Array.getElem?_eq_some_iff.1 hh).1

theorem z1e {w : World} {p q : Addr} {x : Value} (h : q.block ≠ p.block) : (w.setCell p x).cell? q = w.cell? q := by
  simp only [World.setCell, World.cell?]
  rw [Array.getElem?_modify, if_neg (Ne.symm h)]

theorem zmv {w : World} {n : Nat} {tmps : Array Value} {a1 a2 a3 a4 : Int} {ok : Bool} (h6 : tmps.getD 6 undef = .pointer (some ⟨n, 0, none⟩)) (h7 : tmps.getD 7 undef = .bool ok)
    (c0 : w.cell? ⟨n, 0, none⟩ = some (.int .i64 a1)) (c1 : w.cell? ⟨n, 1, none⟩ = some (.int .i64 a2)) (c2 : w.cell? ⟨n, 2, none⟩ = some (.int .i64 a3)) (c3 : w.cell? ⟨n, 3, none⟩ = some (.int .i64 a4)) :
    (results Try.f22 tmps).run Try.prog w = .ok (.tuple #[bkV a1 a2 a3 a4, .bool ok]) w := by
  rw [results_cell_tmp rfl, h6, h7]
  simp [asAddr, Go.loadVar, go_sem, c0, c1, c2, c3]

set_option maxHeartbeats 4000000 in
theorem zny (N : Nat) {w0 w : World} {S0 : Hp} {ob0 : List Nat} {bf : Nat} {L : List (Nat × Array Value × Nat)} {cls : List ClassT.den} {start : Int} {xs : List (OwT.den × BkT.den)} {mb : Nat} {t c : List UInt8} {a1 a2 a3 a4 : Int} {fv : Value}
    (h : BSt RtT w0 S0 ob0 bf w (cls, (start, (some xs, ()))) L) (hc : w.cell? ⟨bf, 2, none⟩ = some (.map (some mb)))
    (hl : z4q (eqD OwT) (t, (c, ())) xs = some (a1, (a2, (a3, (a4, ()))))) {R : Ending -> World -> Prop} (HR : ∀ w', BSt RtT w0 S0 ob0 bf w' (cls, (start, (some xs, ()))) L -> w'.cell? ⟨bf, 2, none⟩ = some (.map (some mb)) -> R (.returned (.tuple #[bkV a1 a2 a3 a4, .bool true])) w') :
    Calls Try.prog 22 #[.map (some mb), .agg #[.string ⟨⟨t⟩⟩, .string ⟨⟨c⟩⟩], fv] w R := by
  have HH := Go.Lib.hid HR
  have H1 := (h.alloc #[.string ⟨⟨t⟩⟩, .string ⟨⟨c⟩⟩] 58).alloc #[.int .i64 0, .int .i64 0, .int .i64 0, .int .i64 0] 54
  obtain ⟨b1, b2, b3, b4, e1, e2⟩ := zp1 N t c H1 (z1s (z1s hc))
  rw [hl] at e1 e2
  cases e1
  have HS := Go.Lib.hid h
  have HC := Go.Lib.hid hc
  clear HR H1 h hl hc
  go_enter Try.func22, Try.ntmps22
  go_wp2
  refine bodyPost_ret (zmv (n := w.heap.size + 1) (a1 := a1) (a2 := a2) (a3 := a3) (a4 := a4) (ok := true) rfl rfl ?_ ?_ ?_ ?_) rfl ?_
  iterate 4 · exact z1s (zu3 rfl)
  exact HH.out _ ((((HS.out.alloc _ _).alloc _ _).alloc _ _).swap (fun p hp => by simp [hp])) (z1s (z1s (z1s HC.out)))

set_option maxHeartbeats 4000000 in
theorem znx (N : Nat) {w0 w : World} {S0 : Hp} {ob0 : List Nat} {bf : Nat} {L : List (Nat × Array Value × Nat)} {cls : List ClassT.den} {start : Int} {xs : List (OwT.den × BkT.den)} {mb : Nat} {t c : List UInt8} {a1 a2 a3 a4 : Int} {ok : Bool}
    (h : BSt RtT w0 S0 ob0 bf w (cls, (start, (some xs, ()))) L) (hc : w.cell? ⟨bf, 2, none⟩ = some (.map (some mb)))
    (hl : z4q (eqD OwT) (t, (c, ())) xs = none) (hy : zg0 N cls start (t, (c, ())) = some ((a1, (a2, (a3, (a4, ())))), (ok, ()))) {R : Ending -> World -> Prop} (HR : ∀ w', BSt RtT w0 S0 ob0 bf w' (cls, (start, (some xs, ()))) L -> w'.cell? ⟨bf, 2, none⟩ = some (.map (some mb)) -> R (.returned (.tuple #[bkV a1 a2 a3 a4, .bool ok])) w') :
    Calls Try.prog 22 #[.map (some mb), .agg #[.string ⟨⟨t⟩⟩, .string ⟨⟨c⟩⟩], .func (.func 23) #[.pointer (some ⟨bf, 0, none⟩)] #[]] w R := by
  have HH := Go.Lib.hid HR
  have HD := Go.Lib.hid (fun (q : Nat × Array Value × Nat) (hq : q ∈ L) => (Nat.ne_of_lt (Nat.lt_succ_of_lt (h.lt q hq)) : q.1 ≠ w.heap.size + 1))
  have H1 := (h.alloc #[.string ⟨⟨t⟩⟩, .string ⟨⟨c⟩⟩] 58).alloc #[.int .i64 0, .int .i64 0, .int .i64 0, .int .i64 0] 54
  obtain ⟨b1, b2, b3, b4, e1, e2⟩ := zp1 N t c H1 (z1s (z1s hc))
  rw [hl] at e1 e2
  cases e1
  have H2 := (H1.alloc #[.int .i64 0, .int .i64 0, .int .i64 0, .int .i64 0] 54)
  simp only [zu2] at H2
  have HF := zo9 N H2 (z1s (z1s (z1s hc))) hy
  have HL := Go.Lib.hid (zc5 hc)
  clear HR H1 h hl hc H2 hy
  go_enter Try.func22, Try.ntmps22
  go_wp2_with (go_at_call 23; refine HF.mono ?_; rintro r w2 ⟨rfl, hq, hm⟩; have Q := Go.Lib.hid hq; have QM := Go.Lib.hid hm; have q0 := hq.cell (p := w.heap.size + 1) (cs := #[.int .i64 0, .int .i64 0, .int .i64 0, .int .i64 0]) (E := 54) (i := 0) (v := .int .i64 0) (by simp) rfl; have q1 := hq.cell (p := w.heap.size + 1) (cs := #[.int .i64 0, .int .i64 0, .int .i64 0, .int .i64 0]) (E := 54) (i := 1) (v := .int .i64 0) (by simp) rfl; have q2 := hq.cell (p := w.heap.size + 1) (cs := #[.int .i64 0, .int .i64 0, .int .i64 0, .int .i64 0]) (E := 54) (i := 2) (v := .int .i64 0) (by simp) rfl; have q3 := hq.cell (p := w.heap.size + 1) (cs := #[.int .i64 0, .int .i64 0, .int .i64 0, .int .i64 0]) (E := 54) (i := 3) (v := .int .i64 0) (by simp) rfl; have f0 := hq.free (p := w.heap.size + 1) (cs := #[.int .i64 0, .int .i64 0, .int .i64 0, .int .i64 0]) (E := 54) (i := 0) (by simp); have f1 := hq.free (p := w.heap.size + 1) (cs := #[.int .i64 0, .int .i64 0, .int .i64 0, .int .i64 0]) (E := 54) (i := 1) (by simp); have f2 := hq.free (p := w.heap.size + 1) (cs := #[.int .i64 0, .int .i64 0, .int .i64 0, .int .i64 0]) (E := 54) (i := 2) (by simp); have f3 := hq.free (p := w.heap.size + 1) (cs := #[.int .i64 0, .int .i64 0, .int .i64 0, .int .i64 0]) (E := 54) (i := 3) (by simp); clear HF hq hm)
  have F := (((((Q.out.swap (L' := (w.heap.size + 1, #[.int .i64 0, .int .i64 0, .int .i64 0, .int .i64 0], 54) :: L) (fun p hp => by rcases List.mem_cons.1 hp with rfl | hp <;> simp [*])).setCell HD.out 0 (.int .i64 a1)).setCell HD.out 1 (.int .i64 a2)).setCell HD.out 2 (.int .i64 a3)).setCell HD.out 3 (.int .i64 a4))
  exact bodyPost_ret (zmv (n := w.heap.size + 1) (a1 := a1) (a2 := a2) (a3 := a3) (a4 := a4) (ok := ok) rfl rfl (F.cell (List.mem_cons_self ..) rfl) (F.cell (List.mem_cons_self ..) rfl) (F.cell (List.mem_cons_self ..) rfl) (F.cell (List.mem_cons_self ..) rfl)) rfl (HH.out _ (F.swap (fun p hp => by simp [hp])) (by have := HL.out; rw [z1e, z1e, z1e, z1e]; exact QM.out; all_goals (dsimp only at this ⊢; omega)))

theorem z6x (N : Nat) {w0 w : World} {S0 : Hp} {ob0 : List Nat} {bf : Nat} {L : List (Nat × Array Value × Nat)} {cls : List ClassT.den} {start : Int} {xs : List (OwT.den × BkT.den)} {mb : Nat} {t c : List UInt8} {a1 a2 a3 a4 : Int} {ok : Bool} {x' : RtT.den}
    (h : BSt RtT w0 S0 ob0 bf w (cls, (start, (some xs, ()))) L) (hc : w.cell? ⟨bf, 2, none⟩ = some (.map (some mb)))
    (hy : z1p N (cls, (start, (some xs, ()))) (t, (c, ())) = some (((a1, (a2, (a3, (a4, ())))), (ok, ())), x')) :
    Calls Try.prog 22 #[.map (some mb), .agg #[.string ⟨⟨t⟩⟩, .string ⟨⟨c⟩⟩], .func (.func 23) #[.pointer (some ⟨bf, 0, none⟩)] #[]] w fun e w' => e = .returned (.tuple #[bkV a1 a2 a3 a4, .bool ok]) /\ x' = (cls, (start, (some xs, ()))) /\ BSt RtT w0 S0 ob0 bf w' (cls, (start, (some xs, ()))) L /\ w'.cell? ⟨bf, 2, none⟩ = some (.map (some mb)) := by
  unfold z1p at hy
  dsimp only [Option.getD_some] at hy
  cases hl : z4q (eqD OwT) (t, (c, ())) xs with
  | some b =>
    rw [hl] at hy
    cases hy
    exact zny N h hc hl (fun w' h' hm => ⟨rfl, rfl, h', hm⟩)
  | none =>
    rw [hl] at hy
    dsimp only at hy
    cases hf : zg0 N cls start (t, (c, ())) with
    | none => rw [hf] at hy; cases hy
    | some q =>
      rw [hf] at hy
      cases hy
      exact znx N h hc hl hf (fun w' h' hm => ⟨rfl, rfl, h', hm⟩)

theorem fld_a (b1 b2 b3 b4 : Int) (w : World) : (Instr.field 54 (.agg #[.int .i64 b1, .int .i64 b2, .int .i64 b3, .int .i64 b4]) 2).run Try.prog w = .ok (.int .i64 b3) w := by
  kernel_rfl

set_option maxHeartbeats 4000000 in
theorem zpw (N : Nat) {w0 w : World} {S0 : Hp} {ob0 : List Nat} {bf : Nat} {cls : List ClassT.den} {start : Int} {xs : List (OwT.den × BkT.den)} {t c : List UInt8} {now : Int} {a1 a2 a3 a4 b1 b2 b3 b4 : Int} {x' : RtT.den}
    (h : BSt RtT w0 S0 ob0 bf w (cls, (start, (some xs, ()))) [])
    (hy : z1p N (cls, (start, (some xs, ()))) (t, (c, ())) = some (((a1, (a2, (a3, (a4, ())))), (true, ())), x')) (hz : z4o N (a1, (a2, (a3, (a4, ())))) now = some (b1, (b2, (b3, (b4, ()))))) :
    Calls Try.prog 12 #[.pointer (some ⟨bf, 0, none⟩), .string ⟨⟨t⟩⟩, .string ⟨⟨c⟩⟩, .int .i64 now] w fun e w' => e = .returned (.int .i64 b3) /\ BSt RtT w0 S0 ob0 bf w' x' [] := by
  suffices HX : ∀ R : Ending -> World -> Prop, Go.RowKit.Hid (∀ w', BSt RtT w0 S0 ob0 bf w' x' [] -> R (.returned (.int .i64 b3)) w') -> Calls Try.prog 12 #[.pointer (some ⟨bf, 0, none⟩), .string ⟨⟨t⟩⟩, .string ⟨⟨c⟩⟩, .int .i64 now] w R from HX _ (Go.Lib.hid (fun w' h => ⟨rfl, h⟩))
  intro R HR
  have HM := z6w N h
  have HY := Go.Lib.hid hy
  have HZ := Go.Lib.hid hz
  have hfd := fld_a b1 b2 b3 b4
  clear h hy hz
  go_enter Try.func12, Try.ntmps12
  go_wp2_with (first
    | (go_at_call 21; refine HM.mono ?_; rintro r w1 ⟨rfl, hq⟩; obtain ⟨mb, c2⟩ := zjy hq; have HL := z6x N hq c2 HY.out; clear HM hq)
    | (go_at_call 22; refine HL.mono ?_; rintro r w2 ⟨rfl, rfl, hq, hm⟩; have HA := zrt N (hq.alloc #[.int .i64 a1, .int .i64 a2, .int .i64 a3, .int .i64 a4] 54) HZ.out; clear HL hq hm)
    | (go_at_call 24; refine HA.mono ?_; rintro r w3 ⟨rfl, hq⟩; have HE := Go.Lib.hid hq; clear HA hq))
  try go_ret
  exact HR.out _ (HE.out.swap (fun p hp => by cases hp))

set_option maxHeartbeats 4000000 in
theorem zt8 (N : Nat) {w0 w : World} {S0 : Hp} {ob0 : List Nat} {bf : Nat} {cls : List ClassT.den} {start : Int} {xs : List (OwT.den × BkT.den)} {t c : List UInt8} {now : Int} {a1 a2 a3 a4 : Int} {x' : RtT.den}
    (h : BSt RtT w0 S0 ob0 bf w (cls, (start, (some xs, ()))) [])
    (hy : z1p N (cls, (start, (some xs, ()))) (t, (c, ())) = some (((a1, (a2, (a3, (a4, ())))), (false, ())), x')) :
    Calls Try.prog 12 #[.pointer (some ⟨bf, 0, none⟩), .string ⟨⟨t⟩⟩, .string ⟨⟨c⟩⟩, .int .i64 now] w fun e w' => e = .returned (.int .i64 0) /\ BSt RtT w0 S0 ob0 bf w' x' [] := by
  suffices HX : ∀ R : Ending -> World -> Prop, Go.RowKit.Hid (∀ w', BSt RtT w0 S0 ob0 bf w' x' [] -> R (.returned (.int .i64 0)) w') -> Calls Try.prog 12 #[.pointer (some ⟨bf, 0, none⟩), .string ⟨⟨t⟩⟩, .string ⟨⟨c⟩⟩, .int .i64 now] w R from HX _ (Go.Lib.hid (fun w' h => ⟨rfl, h⟩))
  intro R HR
  have HM := z6w N h
  have HY := Go.Lib.hid hy
  clear h hy
  go_enter Try.func12, Try.ntmps12
  go_wp2_with (first
    | (go_at_call 21; refine HM.mono ?_; rintro r w1 ⟨rfl, hq⟩; obtain ⟨mb, c2⟩ := zjy hq; have HL := z6x N hq c2 HY.out; clear HM hq)
    | (go_at_call 22; refine HL.mono ?_; rintro r w2 ⟨rfl, rfl, hq, hm⟩; have HE := Go.Lib.hid (hq.alloc #[.int .i64 a1, .int .i64 a2, .int .i64 a3, .int .i64 a4] 54); clear HL hq hm))
  try go_ret
  exact HR.out _ (HE.out.swap (fun p hp => by cases hp))

set_option maxHeartbeats 4000000 in
theorem zpx (N : Nat) {w0 w : World} {S0 : Hp} {ob0 : List Nat} {bf : Nat} {cls : List ClassT.den} {start : Int} {t c : List UInt8} {now : Int}
    (h : BSt RtT w0 S0 ob0 bf w (cls, (start, (none, ()))) []) :
    Calls Try.prog 12 #[.pointer (some ⟨bf, 0, none⟩), .string ⟨⟨t⟩⟩, .string ⟨⟨c⟩⟩, .int .i64 now] w fun e w' => e = .returned (.int .i64 0) /\ BSt RtT w0 S0 ob0 bf w' (cls, (start, (none, ()))) [] := by
  suffices HX : ∀ R : Ending -> World -> Prop, Go.RowKit.Hid (∀ w', BSt RtT w0 S0 ob0 bf w' (cls, (start, (none, ()))) [] -> R (.returned (.int .i64 0)) w') -> Calls Try.prog 12 #[.pointer (some ⟨bf, 0, none⟩), .string ⟨⟨t⟩⟩, .string ⟨⟨c⟩⟩, .int .i64 now] w R from HX _ (Go.Lib.hid (fun w' h => ⟨rfl, h⟩))
  intro R HR
  have HM := z6w N h
  clear h
  go_enter Try.func12, Try.ntmps12
  go_wp2_with (go_at_call 21; refine HM.mono ?_; rintro r w1 ⟨rfl, hq⟩; have HE := Go.Lib.hid hq; clear HM hq)
  try go_ret
  exact HR.out _ HE.out

def z58 (N : Nat) (r : RtT.den) (t c : List UInt8) (now : Int) : Option (Int × (RtT.den × Unit)) := match r.2.2.1 with
  | none => some (0, (r, ()))
  | some _ => (z1p N r (t, (c, ()))).bind fun q => cond q.1.2.1 ((z4o N q.1.1 now).bind fun b => some (b.2.2.1, (q.2, ()))) (some (0, (q.2, ())))

def z57 (N : Nat) : List A -> Res := z1k [(0, .box RtT), (0, .v .str), (0, .v .str), (0, .v (.int .i64))] (fun x => z58 N x.1 x.2.1 x.2.2.1 x.2.2.2.1) (znu (.v (.int .i64)) [(0, .box RtT)] 3)

theorem zpy (N : Nat) {w0 w : World} {S0 : Hp} {ob0 : List Nat} {bf : Nat} {x x' : RtT.den} {t c : List UInt8} {now v : Int} (h : BSt RtT w0 S0 ob0 bf w x []) (hy : z58 N x t c now = some (v, (x', ()))) :
    Calls Try.prog 12 #[.pointer (some ⟨bf, 0, none⟩), .string ⟨⟨t⟩⟩, .string ⟨⟨c⟩⟩, .int .i64 now] w fun e w' => e = .returned (.int .i64 v) /\ BSt RtT w0 S0 ob0 bf w' x' [] := by
  obtain ⟨cls, start, m, ⟨⟩⟩ := x
  cases m with
  | none => cases hy; exact zpx N h
  | some xs =>
    replace hy : ((z1p N (cls, (start, (some xs, ()))) (t, (c, ()))).bind fun q => cond q.1.2.1 ((z4o N q.1.1 now).bind fun b => some (b.2.2.1, (q.2, ()))) (some (0, (q.2, ())))) = some (v, (x', ())) := hy
    cases hl : z1p N (cls, (start, (some xs, ()))) (t, (c, ())) with
    | none => rw [hl] at hy; cases hy
    | some q =>
      rw [hl, Option.bind_some] at hy
      obtain ⟨⟨⟨a1, a2, a3, a4, ⟨⟩⟩, ok, ⟨⟩⟩, x2⟩ := q
      cases ok with
      | false => cases hy; exact zt8 N h hl
      | true =>
        simp only [cond_true] at hy
        cases hz : z4o N (a1, (a2, (a3, (a4, ())))) now with
        | none => rw [hz] at hy; cases hy
        | some b =>
          rw [hz] at hy
          obtain ⟨b1, b2, b3, b4, ⟨⟩⟩ := b
          cases hy
          exact zpw N h hl hz

theorem zqw {w : World} {S : Hp} {x : RtT.den} {t c : List UInt8} {now : Int} {vals : List Value} {ob : Nat -> List Nat} (har : ArgsRel (hp w) S [.box RtT x, .v .str t, .v .str c, .v (.int .i64) now] vals ob) (hS : Lift.Sub S (hp w)) :
    ∃ bf, vals = [.pointer (some ⟨bf, 0, none⟩), .string ⟨⟨t⟩⟩, .string ⟨⟨c⟩⟩, .int .i64 now] /\ ob 0 ≠ [] /\ (∀ i, ob (i + 1) = []) /\ BSt RtT w S (ob 0) bf w x [] := by
  obtain ⟨bf, vs, rfl, hne, hB⟩ := BSt.start har hS
  have hl := har.len
  match vs, hl with
  | [v1, v2, v3], _ =>
    obtain ⟨⟨u1, e1, r1⟩, _⟩ := har.rel 1 _ rfl
    obtain ⟨⟨u2, e2, r2⟩, _⟩ := har.rel 2 _ rfl
    obtain ⟨⟨u3, e3, r3⟩, _⟩ := har.rel 3 _ rfl
    cases e1; cases e2; cases e3
    refine ⟨bf, ?_, hne, fun i => ?_, hB⟩
    . rw [VR.str_inv r1.1, VR.str_inv r2.1, VR.int_inv r3.1]
    . match i with
      | 0 => exact r1.2
      | 1 => exact r2.2
      | 2 => exact r3.2
      | i + 3 => exact har.out _ (by simp)

theorem zbf (N : Nat) : Contract Try.prog zh 12 (z57 N) := by
  refine Contract.hand ⟨_, Try.func12, by kernel_rfl, by decide⟩ ?_
  rintro w S vals ob ⟨x, t, c, now, ⟨⟩⟩ ⟨v, x', ⟨⟩⟩ har hS hg hy
  obtain ⟨bf, rfl, hne, hob, hB⟩ := zqw har hS
  refine (zpy N hB hy).mono ?_
  rintro e w' ⟨rfl, h'⟩
  exact h'.ends hob hne (by intro y hy; have hy : y ∈ [A.v .str t, A.v .str c, A.v (.int .i64) now] := hy; simp at hy; rcases hy with rfl | rfl | rfl <;> rfl) (fun S' => ⟨VR.int, rfl⟩) rfl

theorem zs2 (N : Nat) {w0 w : World} {S0 : Hp} {ob0 : List Nat} {bf : Nat} {L : List (Nat × Array Value × Nat)} {cls : List ClassT.den} {start : Int} {xs : List (OwT.den × BkT.den)} {mb : Nat} (t c : List UInt8) (b1 b2 b3 b4 : Int)
    (h : BSt RtT w0 S0 ob0 bf w (cls, (start, (some xs, ()))) L) (hc : w.cell? ⟨bf, 2, none⟩ = some (.map (some mb))) :
    ∃ w', (Instr.mapUpdate 46 (.map (some mb)) (.agg #[.string ⟨⟨t⟩⟩, .string ⟨⟨c⟩⟩]) (.agg #[.int .i64 b1, .int .i64 b2, .int .i64 b3, .int .i64 b4])).run Try.prog w = .ok () w' /\ BSt RtT w0 S0 ob0 bf w' (cls, (start, (some (zmk (eqD OwT) (t, (c, ())) (b1, (b2, (b3, (b4, ())))) xs), ()))) L /\ w'.cell? ⟨bf, 2, none⟩ = some (.map (some mb)) := by
  obtain ⟨S, o, h1, h2, h3, h4, h5, h6, h7, hL⟩ := h
  obtain ⟨b, sv, mv, E, fr, p1, p2, rfl, e, hb, hf, hrow, hmp⟩ := zmn h5
  cases e
  have hb' : w.heap[bf]? = _ := hb
  have hmv : mv = .map (some mb) := by simpa [World.cell?, hb'] using hc
  subst hmv
  rcases hmp with ⟨e, _⟩ | ⟨xs', mb', es, cl, e, e1, e2, e3, e4, e5, e6⟩
  . cases e
  . cases e; cases e2
    subst e1
    obtain ⟨es', cl', hrun, g1, g2, g3⟩ := zlb (z99 N) (S := S) (t := 46) (ki := 58) (ke := ty58) (ve := ty54) (by kernel_rfl) (zpd S t c) (zqu S b1 b2 b3 b4) e3 e4 e5 e6
    refine ⟨_, hrun, ?_, ?_⟩
    rotate_left
    . have hbm : bf ≠ mb := by
        rw [List.nodup_cons] at h6
        exact fun e => h6.1 (by simp [e])
      have := zb (w := w) (o := .map es' cl') hbm
      have hb2 : (zm w mb (.map es' cl')).heap[bf]? = w.heap[bf]? := this
      simp [World.cell?, hb2, hb']
    have hne : ∀ k, k ≠ mb -> (zm w mb (.map es' cl')).heap[k]? = w.heap[k]? := fun k hk => zb (w := w) (o := .map es' cl') hk
    have hsz : (zm w mb (.map es' cl')).heap.size = w.heap.size := by simp [zm]
    have hnd : bf ≠ mb /\ mb ∉ p1 := by
      have h6' := h6
      rw [List.nodup_cons] at h6'
      refine ⟨fun e => h6'.1 (by simp [e]), fun hm => ?_⟩
      have := (List.nodup_append.1 h6'.2).2.2 mb hm mb (by simp)
      exact this rfl
    refine zqq h1 h2 h4 h7 hL (S' := S) (o' := bf :: (p1 ++ [mb])) ⟨Nat.le_of_eq hsz.symm, fun k hk hn => hne k (fun e => hn (by simp [e])), rfl, rfl, rfl⟩ (Lift.Sub.refl S) (fun k q hq => ?_) (fun k hk => .inl hk) ?_ h6 (fun k hk => ⟨(h7 k hk).1, .inl hk⟩)
    . have := h3 k q hq
      simp only [hp] at this ⊢
      rw [hne k (fun e => ?_)]
      . exact this
      . subst e
        rw [(h7 k (by simp)).1] at hq
        cases hq
    . refine ztr (b := bf) (sv := sv) (mv := .map (some mb)) (E := E) (fr := fr) ?_ hf (hrow.mono (Lift.Sub.refl S) (fun k hk => hne k (fun e => hnd.2 (e ▸ hk)))) (.inr ⟨_, mb, es', cl', rfl, rfl, rfl, z15 e3, g1, g2, g3⟩)
      show (zm w mb (.map es' cl')).heap[bf]? = _
      rw [hne bf hnd.1]; exact hb'

theorem sK {w0 w : World} {S0 : Hp} {ob0 : List Nat} {bf n p E F mb : Nat} {x : RtT.den} {t c : Value} {zs : Array Value} (h : BSt RtT w0 S0 ob0 bf w x [(p, zs, E), (n, #[t, c], F)]) (hm : w.cell? ⟨bf, 2, none⟩ = some (.map (some mb))) :
    BSt RtT w0 S0 ob0 bf w x [(n, #[t, c], F)] /\ w.cell? ⟨n, 0, none⟩ = some t /\ w.cell? ⟨n, 1, none⟩ = some c /\ w.cell? ⟨bf, 2, none⟩ = some (.map (some mb)) :=
  ⟨h.swap (fun p hp => by simp at hp; simp [hp]), h.cell (p := n) (cs := #[t, c]) (E := F) (by simp) rfl, h.cell (p := n) (cs := #[t, c]) (E := F) (by simp) rfl, hm⟩

theorem s4b {w0 w : World} {S0 : Hp} {ob0 : List Nat} {bf n p E F : Nat} {x : RtT.den} {t c : Value} {zs : Array Value} (h : BSt RtT w0 S0 ob0 bf w x [(p, zs, E), (n, #[t, c], F)]) (hn : n ≠ p) (a b d e : Value) :
    BSt RtT w0 S0 ob0 bf ((((w.setCell ⟨p, 0, none⟩ a).setCell ⟨p, 1, none⟩ b).setCell ⟨p, 2, none⟩ d).setCell ⟨p, 3, none⟩ e) x [(p, (((zs.setIfInBounds 0 a).setIfInBounds 1 b).setIfInBounds 2 d).setIfInBounds 3 e, E), (n, #[t, c], F)] := by
  have hd : ∀ q ∈ [(n, #[t, c], F)], q.1 ≠ p := fun q hq => by rw [List.mem_singleton.1 hq]; exact hn
  exact (((h.setCell hd 0 a).setCell hd 1 b).setCell hd 2 d).setCell hd 3 e

theorem s4 {w0 w : World} {S0 : Hp} {ob0 : List Nat} {bf n p E F mb : Nat} {x : RtT.den} {t c : Value} {zs : Array Value} (h : BSt RtT w0 S0 ob0 bf w x [(p, zs, E), (n, #[t, c], F)]) (hm : w.cell? ⟨bf, 2, none⟩ = some (.map (some mb))) (hn : n ≠ p) (hb : bf ≠ p) (a b d e : Value) :
    BSt RtT w0 S0 ob0 bf ((((w.setCell ⟨p, 0, none⟩ a).setCell ⟨p, 1, none⟩ b).setCell ⟨p, 2, none⟩ d).setCell ⟨p, 3, none⟩ e) x [(n, #[t, c], F)] /\ ((((w.setCell ⟨p, 0, none⟩ a).setCell ⟨p, 1, none⟩ b).setCell ⟨p, 2, none⟩ d).setCell ⟨p, 3, none⟩ e).cell? ⟨n, 0, none⟩ = some t /\ ((((w.setCell ⟨p, 0, none⟩ a).setCell ⟨p, 1, none⟩ b).setCell ⟨p, 2, none⟩ d).setCell ⟨p, 3, none⟩ e).cell? ⟨n, 1, none⟩ = some c /\ ((((w.setCell ⟨p, 0, none⟩ a).setCell ⟨p, 1, none⟩ b).setCell ⟨p, 2, none⟩ d).setCell ⟨p, 3, none⟩ e).cell? ⟨bf, 2, none⟩ = some (.map (some mb)) :=
  sK (s4b h hn a b d e) (by rw [z1e hb, z1e hb, z1e hb, z1e hb]; exact hm)

theorem sC {w0 w : World} {S0 : Hp} {ob0 : List Nat} {bf n p5 E F mb' : Nat} {x : RtT.den} {t c : List UInt8} {b1 b2 b3 b4 : Int} (h : BSt RtT w0 S0 ob0 bf w x [(p5, #[.int .i64 b1, .int .i64 b2, .int .i64 b3, .int .i64 b4], E), (n, #[.string ⟨⟨t⟩⟩, .string ⟨⟨c⟩⟩], F)]) (hm : w.cell? ⟨bf, 2, none⟩ = some (.map (some mb'))) :
    World.cell? w ⟨n, 0, none⟩ = some (.string ⟨⟨t⟩⟩) /\ World.cell? w ⟨n, 1, none⟩ = some (.string ⟨⟨c⟩⟩) /\ World.cell? w ⟨bf, 2, none⟩ = some (.map (some mb')) /\ World.cell? w ⟨p5, 0, none⟩ = some (.int .i64 b1) /\ World.cell? w ⟨p5, 1, none⟩ = some (.int .i64 b2) /\ World.cell? w ⟨p5, 2, none⟩ = some (.int .i64 b3) /\ World.cell? w ⟨p5, 3, none⟩ = some (.int .i64 b4) :=
  ⟨h.cell (p := n) (cs := #[.string ⟨⟨t⟩⟩, .string ⟨⟨c⟩⟩]) (E := F) (by simp) rfl, h.cell (p := n) (cs := #[.string ⟨⟨t⟩⟩, .string ⟨⟨c⟩⟩]) (E := F) (by simp) rfl, hm, h.cell (List.mem_cons_self ..) rfl, h.cell (List.mem_cons_self ..) rfl, h.cell (List.mem_cons_self ..) rfl, h.cell (List.mem_cons_self ..) rfl⟩

attribute [local irreducible] BSt in
set_option maxHeartbeats 4000000 in
theorem zor (N : Nat) {w0 w : World} {S0 : Hp} {ob0 : List Nat} {bf : Nat} {cls : List ClassT.den} {start : Int} {xs : List (OwT.den × BkT.den)} {t c : List UInt8} {now : Int} {a1 a2 a3 a4 b1 b2 b3 b4 : Int} {ok : Bool}
    (h : BSt RtT w0 S0 ob0 bf w (cls, (start, (some xs, ()))) [])
    (hy : z1p N (cls, (start, (some xs, ()))) (t, (c, ())) = some (((a1, (a2, (a3, (a4, ())))), (true, ())), (cls, (start, (some xs, ()))))) (hz : z3d N (a1, (a2, (a3, (a4, ())))) now = some ((b1, (b2, (b3, (b4, ())))), (ok, ()))) :
    Calls Try.prog 15 #[.pointer (some ⟨bf, 0, none⟩), .string ⟨⟨t⟩⟩, .string ⟨⟨c⟩⟩, .int .i64 now] w fun e w' => e = .returned (.int .i64 (if ok then 0 else 17)) /\ BSt RtT w0 S0 ob0 bf w' (cls, (start, (some (zmk (eqD OwT) (t, (c, ())) (b1, (b2, (b3, (b4, ())))) xs), ()))) [] := by
  suffices HX : ∀ R : Ending -> World -> Prop, Go.RowKit.Hid (∀ w', BSt RtT w0 S0 ob0 bf w' (cls, (start, (some (zmk (eqD OwT) (t, (c, ())) (b1, (b2, (b3, (b4, ())))) xs), ()))) [] -> R (.returned (.int .i64 (if ok then 0 else 17))) w') -> Calls Try.prog 15 #[.pointer (some ⟨bf, 0, none⟩), .string ⟨⟨t⟩⟩, .string ⟨⟨c⟩⟩, .int .i64 now] w R from HX _ (Go.Lib.hid (fun w' h => ⟨rfl, h⟩))
  intro R HR
  have HM := z6w N h
  have HY := Go.Lib.hid hy
  have HZ := Go.Lib.hid hz
  clear h hy hz
  go_enter Try.func15, Try.ntmps15
  go_wp2_with (go_at_call 21; refine HM.mono ?_; rintro r w1 ⟨rfl, hq⟩; obtain ⟨mb, c2⟩ := zjy hq; have HB := Go.Lib.hid hq; clear HM hq)
  obtain ⟨W, hW⟩ : ∃ W, W = w1.alloc (.cells #[.string ⟨⟨t⟩⟩, .string ⟨⟨c⟩⟩] 58) := ⟨_, rfl⟩
  have y0 := HB.out.alloc #[.string ⟨⟨t⟩⟩, .string ⟨⟨c⟩⟩] 58
  have m2 := z1s (cs := #[.string ⟨⟨t⟩⟩, .string ⟨⟨c⟩⟩]) (E := 58) c2
  have o0 := zje (w := w1) (cs := #[.string ⟨⟨t⟩⟩, .string ⟨⟨c⟩⟩]) (E := 58) (i := 0) (v := .string ⟨⟨t⟩⟩) rfl
  have o1 := zje (w := w1) (cs := #[.string ⟨⟨t⟩⟩, .string ⟨⟨c⟩⟩]) (E := 58) (i := 1) (v := .string ⟨⟨c⟩⟩) rfl
  rw [<- hW] at y0 m2 o0 o1 ⊢
  obtain ⟨n, hn⟩ : ∃ n, n = w1.heap.size := ⟨_, rfl⟩
  rw [<- hn] at y0 o0 o1 ⊢
  have np : n ≠ W.heap.size := Nat.ne_of_lt (zc5 o0)
  have bp : bf ≠ W.heap.size := Nat.ne_of_lt (zc5 m2)
  clear hW hn c2 HB
  have hS0 : BSt RtT w0 S0 ob0 bf W (cls, (start, (some xs, ()))) [(n, #[.string ⟨⟨t⟩⟩, .string ⟨⟨c⟩⟩], 58)] /\ World.cell? W ⟨n, 0, none⟩ = some (.string ⟨⟨t⟩⟩) /\ World.cell? W ⟨n, 1, none⟩ = some (.string ⟨⟨c⟩⟩) /\ World.cell? W ⟨bf, 2, none⟩ = some (.map (some mb)) := ⟨y0, o0, o1, m2⟩
  have hSD : BSt RtT w0 S0 ob0 bf W.drew (cls, (start, (some xs, ()))) [(n, #[.string ⟨⟨t⟩⟩, .string ⟨⟨c⟩⟩], 58)] /\ World.cell? W.drew ⟨n, 0, none⟩ = some (.string ⟨⟨t⟩⟩) /\ World.cell? W.drew ⟨n, 1, none⟩ = some (.string ⟨⟨c⟩⟩) /\ World.cell? W.drew ⟨bf, 2, none⟩ = some (.map (some mb)) := ⟨y0.drew, o0, o1, m2⟩
  have yA := (y0.alloc #[.int .i64 0, .int .i64 0, .int .i64 0, .int .i64 0] 54).drew
  have mA : (W.alloc (.cells #[.int .i64 0, .int .i64 0, .int .i64 0, .int .i64 0] 54)).drew.cell? ⟨bf, 2, none⟩ = some (.map (some mb)) := z1s m2
  have hSA : BSt RtT w0 S0 ob0 bf (W.alloc (.cells #[.int .i64 0, .int .i64 0, .int .i64 0, .int .i64 0] 54)).drew (cls, (start, (some xs, ()))) [(n, #[.string ⟨⟨t⟩⟩, .string ⟨⟨c⟩⟩], 58)] /\ World.cell? (W.alloc (.cells #[.int .i64 0, .int .i64 0, .int .i64 0, .int .i64 0] 54)).drew ⟨n, 0, none⟩ = some (.string ⟨⟨t⟩⟩) /\ World.cell? (W.alloc (.cells #[.int .i64 0, .int .i64 0, .int .i64 0, .int .i64 0] 54)).drew ⟨n, 1, none⟩ = some (.string ⟨⟨c⟩⟩) /\ World.cell? (W.alloc (.cells #[.int .i64 0, .int .i64 0, .int .i64 0, .int .i64 0] 54)).drew ⟨bf, 2, none⟩ = some (.map (some mb)) := sK yA mA
  have hL1 := z6x N y0.drew m2 HY.out
  have hL2 := z6x N yA mA HY.out
  clear y0 m2 yA mA
  go_region_held3 (fun w' => BSt RtT w0 S0 ob0 bf w' (cls, (start, (some xs, ()))) [(n, #[.string ⟨⟨t⟩⟩, .string ⟨⟨c⟩⟩], 58)] /\ World.cell? w' ⟨n, 0, none⟩ = some (.string ⟨⟨t⟩⟩) /\ World.cell? w' ⟨n, 1, none⟩ = some (.string ⟨⟨c⟩⟩) /\ World.cell? w' ⟨bf, 2, none⟩ = some (.map (some mb)))
    (first
      | assumption
      | exact hSB _ _)
    (first
      | (go_at_call 22; refine hL1.mono ?_; rintro r w2 ⟨rfl, _, hq, hm⟩; have hSW : BSt RtT w0 S0 ob0 bf w2 (cls, (start, (some xs, ()))) [(n, #[.string ⟨⟨t⟩⟩, .string ⟨⟨c⟩⟩], 58)] /\ World.cell? w2 ⟨n, 0, none⟩ = some (.string ⟨⟨t⟩⟩) /\ World.cell? w2 ⟨n, 1, none⟩ = some (.string ⟨⟨c⟩⟩) /\ World.cell? w2 ⟨bf, 2, none⟩ = some (.map (some mb)) := ⟨hq, hq.cell (List.mem_cons_self ..) rfl, hq.cell (List.mem_cons_self ..) rfl, hm⟩; have hSB : ∀ (cs : Array Value) (E : Nat), BSt RtT w0 S0 ob0 bf (w2.alloc (.cells cs E)) (cls, (start, (some xs, ()))) [(n, #[.string ⟨⟨t⟩⟩, .string ⟨⟨c⟩⟩], 58)] /\ World.cell? (w2.alloc (.cells cs E)) ⟨n, 0, none⟩ = some (.string ⟨⟨t⟩⟩) /\ World.cell? (w2.alloc (.cells cs E)) ⟨n, 1, none⟩ = some (.string ⟨⟨c⟩⟩) /\ World.cell? (w2.alloc (.cells cs E)) ⟨bf, 2, none⟩ = some (.map (some mb)) := fun cs E => ⟨(hq.alloc cs E).swap (fun p hp => by simp at hp; simp [hp]), z1s hSW.2.1, z1s hSW.2.2.1, z1s hm⟩; clear hq hm hL1 hL2)
      | (go_at_call 22; refine hL2.mono ?_; rintro r w2 ⟨rfl, _, hq, hm⟩; have hSW : BSt RtT w0 S0 ob0 bf w2 (cls, (start, (some xs, ()))) [(n, #[.string ⟨⟨t⟩⟩, .string ⟨⟨c⟩⟩], 58)] /\ World.cell? w2 ⟨n, 0, none⟩ = some (.string ⟨⟨t⟩⟩) /\ World.cell? w2 ⟨n, 1, none⟩ = some (.string ⟨⟨c⟩⟩) /\ World.cell? w2 ⟨bf, 2, none⟩ = some (.map (some mb)) := sK hq hm; have hST := s4 hq hm np bp (.int .i64 a1) (.int .i64 a2) (.int .i64 a3) (.int .i64 a4); have q0 := hq.cell (List.mem_cons_self ..) (i := 0) rfl; have q1 := hq.cell (List.mem_cons_self ..) (i := 1) rfl; have q2 := hq.cell (List.mem_cons_self ..) (i := 2) rfl; have q3 := hq.cell (List.mem_cons_self ..) (i := 3) rfl; have f0 := hq.free (List.mem_cons_self ..) (i := 0); have f1 := hq.free (List.mem_cons_self ..) (i := 1); have f2 := hq.free (List.mem_cons_self ..) (i := 2); have f3 := hq.free (List.mem_cons_self ..) (i := 3); clear hm hL1 hL2))
  all_goals (first
    | (have U := hSB #[.int .i64 a1, .int .i64 a2, .int .i64 a3, .int .i64 a4] 54; have u0 := zje (w := w2) (cs := #[.int .i64 a1, .int .i64 a2, .int .i64 a3, .int .i64 a4]) (E := 54) (i := 0) (v := .int .i64 a1) rfl; have u1 := zje (w := w2) (cs := #[.int .i64 a1, .int .i64 a2, .int .i64 a3, .int .i64 a4]) (E := 54) (i := 1) (v := .int .i64 a2) rfl; have u2 := zje (w := w2) (cs := #[.int .i64 a1, .int .i64 a2, .int .i64 a3, .int .i64 a4]) (E := 54) (i := 2) (v := .int .i64 a3) rfl; have u3 := zje (w := w2) (cs := #[.int .i64 a1, .int .i64 a2, .int .i64 a3, .int .i64 a4]) (E := 54) (i := 3) (v := .int .i64 a4) rfl; generalize (w2.alloc (.cells #[.int .i64 a1, .int .i64 a2, .int .i64 a3, .int .i64 a4] 54)) = w3 at U u0 u1 u2 u3 ⊢; generalize w2.heap.size = p at u0 u1 u2 u3 ⊢; clear hSB hSW)
    | (have U := hST; have Y := s4b hq np (.int .i64 a1) (.int .i64 a2) (.int .i64 a3) (.int .i64 a4); have u0 := Y.cell (List.mem_cons_self ..) (i := 0) (v := .int .i64 a1) rfl; have u1 := Y.cell (List.mem_cons_self ..) (i := 1) (v := .int .i64 a2) rfl; have u2 := Y.cell (List.mem_cons_self ..) (i := 2) (v := .int .i64 a3) rfl; have u3 := Y.cell (List.mem_cons_self ..) (i := 3) (v := .int .i64 a4) rfl; generalize ((((w2.setCell ⟨W.heap.size, 0, none⟩ (.int .i64 a1)).setCell ⟨W.heap.size, 1, none⟩ (.int .i64 a2)).setCell ⟨W.heap.size, 2, none⟩ (.int .i64 a3)).setCell ⟨W.heap.size, 3, none⟩ (.int .i64 a4)) = w3 at U u0 u1 u2 u3 ⊢; generalize W.heap.size = p at u0 u1 u2 u3 ⊢; clear Y hST q0 q1 q2 q3 f0 f1 f2 f3 hq hSW))
  all_goals have HT := zog N U.1 HZ.out
  all_goals clear U hS0 hSD hSA o0 o1 np bp
  all_goals go_wp2_with (go_at_call 26; refine HT.mono ?_; rintro r w4 ⟨rfl, hq⟩; have HQ := Go.Lib.hid hq; clear HT hq u0 u1 u2 u3)
  all_goals have y5 := HQ.out.alloc #[.int .i64 b1, .int .i64 b2, .int .i64 b3, .int .i64 b4] 54
  all_goals generalize w4.alloc (.cells #[.int .i64 b1, .int .i64 b2, .int .i64 b3, .int .i64 b4] 54) = W5 at y5 ⊢
  all_goals generalize w4.heap.size = p5 at y5 ⊢
  all_goals clear HQ
  all_goals obtain ⟨mb', m5⟩ := zjy y5
  all_goals obtain ⟨w6, r6, g6, k6⟩ := zs2 N t c b1 b2 b3 b4 y5 m5
  all_goals obtain ⟨w7, r7, g7, k7⟩ := zs2 (w := W5.drew) N t c b1 b2 b3 b4 y5.drew m5
  all_goals have hC5 : World.cell? W5 ⟨n, 0, none⟩ = some (.string ⟨⟨t⟩⟩) /\ World.cell? W5 ⟨n, 1, none⟩ = some (.string ⟨⟨c⟩⟩) /\ World.cell? W5 ⟨bf, 2, none⟩ = some (.map (some mb')) /\ World.cell? W5 ⟨p5, 0, none⟩ = some (.int .i64 b1) /\ World.cell? W5 ⟨p5, 1, none⟩ = some (.int .i64 b2) /\ World.cell? W5 ⟨p5, 2, none⟩ = some (.int .i64 b3) /\ World.cell? W5 ⟨p5, 3, none⟩ = some (.int .i64 b4) := sC y5 m5
  all_goals have hC5d : World.cell? W5.drew ⟨n, 0, none⟩ = some (.string ⟨⟨t⟩⟩) /\ World.cell? W5.drew ⟨n, 1, none⟩ = some (.string ⟨⟨c⟩⟩) /\ World.cell? W5.drew ⟨bf, 2, none⟩ = some (.map (some mb')) /\ World.cell? W5.drew ⟨p5, 0, none⟩ = some (.int .i64 b1) /\ World.cell? W5.drew ⟨p5, 1, none⟩ = some (.int .i64 b2) /\ World.cell? W5.drew ⟨p5, 2, none⟩ = some (.int .i64 b3) /\ World.cell? W5.drew ⟨p5, 3, none⟩ = some (.int .i64 b4) := sC y5.drew m5
  all_goals have hC6 : World.cell? w6 ⟨n, 0, none⟩ = some (.string ⟨⟨t⟩⟩) /\ World.cell? w6 ⟨n, 1, none⟩ = some (.string ⟨⟨c⟩⟩) /\ World.cell? w6 ⟨bf, 2, none⟩ = some (.map (some mb')) /\ World.cell? w6 ⟨p5, 0, none⟩ = some (.int .i64 b1) /\ World.cell? w6 ⟨p5, 1, none⟩ = some (.int .i64 b2) /\ World.cell? w6 ⟨p5, 2, none⟩ = some (.int .i64 b3) /\ World.cell? w6 ⟨p5, 3, none⟩ = some (.int .i64 b4) := sC g6 k6
  all_goals have hC7 : World.cell? w7 ⟨n, 0, none⟩ = some (.string ⟨⟨t⟩⟩) /\ World.cell? w7 ⟨n, 1, none⟩ = some (.string ⟨⟨c⟩⟩) /\ World.cell? w7 ⟨bf, 2, none⟩ = some (.map (some mb')) /\ World.cell? w7 ⟨p5, 0, none⟩ = some (.int .i64 b1) /\ World.cell? w7 ⟨p5, 1, none⟩ = some (.int .i64 b2) /\ World.cell? w7 ⟨p5, 2, none⟩ = some (.int .i64 b3) /\ World.cell? w7 ⟨p5, 3, none⟩ = some (.int .i64 b4) := sC g7 k7
  all_goals have G6 := Go.Lib.hid g6
  all_goals have G7 := Go.Lib.hid g7
  all_goals clear g6 g7 k6 k7 m5 y5
  all_goals go_region_held3 (fun w' => World.cell? w' ⟨n, 0, none⟩ = some (.string ⟨⟨t⟩⟩) /\ World.cell? w' ⟨n, 1, none⟩ = some (.string ⟨⟨c⟩⟩) /\ World.cell? w' ⟨bf, 2, none⟩ = some (.map (some mb')) /\ World.cell? w' ⟨p5, 0, none⟩ = some (.int .i64 b1) /\ World.cell? w' ⟨p5, 1, none⟩ = some (.int .i64 b2) /\ World.cell? w' ⟨p5, 2, none⟩ = some (.int .i64 b3) /\ World.cell? w' ⟨p5, 3, none⟩ = some (.int .i64 b4)) (assumption) (fail)
  all_goals cases ok
  all_goals go_wp2
  all_goals (first
    | exact HR.out _ (G6.out.swap (fun p hp => by cases hp))
    | exact HR.out _ (G7.out.swap (fun p hp => by cases hp)))

attribute [local irreducible] BSt in
set_option maxHeartbeats 4000000 in
theorem zsx (N : Nat) {w0 w : World} {S0 : Hp} {ob0 : List Nat} {bf : Nat} {cls : List ClassT.den} {start : Int} {xs : List (OwT.den × BkT.den)} {t c : List UInt8} {now : Int} {a1 a2 a3 a4 : Int}
    (h : BSt RtT w0 S0 ob0 bf w (cls, (start, (some xs, ()))) [])
    (hy : z1p N (cls, (start, (some xs, ()))) (t, (c, ())) = some (((a1, (a2, (a3, (a4, ())))), (false, ())), (cls, (start, (some xs, ()))))) :
    Calls Try.prog 15 #[.pointer (some ⟨bf, 0, none⟩), .string ⟨⟨t⟩⟩, .string ⟨⟨c⟩⟩, .int .i64 now] w fun e w' => e = .returned (.int .i64 6) /\ BSt RtT w0 S0 ob0 bf w' (cls, (start, (some xs, ()))) [] := by
  suffices HX : ∀ R : Ending -> World -> Prop, Go.RowKit.Hid (∀ w', BSt RtT w0 S0 ob0 bf w' (cls, (start, (some xs, ()))) [] -> R (.returned (.int .i64 6)) w') -> Calls Try.prog 15 #[.pointer (some ⟨bf, 0, none⟩), .string ⟨⟨t⟩⟩, .string ⟨⟨c⟩⟩, .int .i64 now] w R from HX _ (Go.Lib.hid (fun w' h => ⟨rfl, h⟩))
  intro R HR
  have HM := z6w N h
  have HY := Go.Lib.hid hy
  clear h hy
  go_enter Try.func15, Try.ntmps15
  go_wp2_with (go_at_call 21; refine HM.mono ?_; rintro r w1 ⟨rfl, hq⟩; obtain ⟨mb, c2⟩ := zjy hq; have HB := Go.Lib.hid hq; clear HM hq)
  obtain ⟨W, hW⟩ : ∃ W, W = w1.alloc (.cells #[.string ⟨⟨t⟩⟩, .string ⟨⟨c⟩⟩] 58) := ⟨_, rfl⟩
  have y0 := HB.out.alloc #[.string ⟨⟨t⟩⟩, .string ⟨⟨c⟩⟩] 58
  have m2 := z1s (cs := #[.string ⟨⟨t⟩⟩, .string ⟨⟨c⟩⟩]) (E := 58) c2
  have o0 := zje (w := w1) (cs := #[.string ⟨⟨t⟩⟩, .string ⟨⟨c⟩⟩]) (E := 58) (i := 0) (v := .string ⟨⟨t⟩⟩) rfl
  have o1 := zje (w := w1) (cs := #[.string ⟨⟨t⟩⟩, .string ⟨⟨c⟩⟩]) (E := 58) (i := 1) (v := .string ⟨⟨c⟩⟩) rfl
  rw [<- hW] at y0 m2 o0 o1 ⊢
  obtain ⟨n, hn⟩ : ∃ n, n = w1.heap.size := ⟨_, rfl⟩
  rw [<- hn] at y0 o0 o1 ⊢
  have np : n ≠ W.heap.size := Nat.ne_of_lt (zc5 o0)
  have bp : bf ≠ W.heap.size := Nat.ne_of_lt (zc5 m2)
  clear hW hn c2 HB
  have hS0 : BSt RtT w0 S0 ob0 bf W (cls, (start, (some xs, ()))) [(n, #[.string ⟨⟨t⟩⟩, .string ⟨⟨c⟩⟩], 58)] /\ World.cell? W ⟨n, 0, none⟩ = some (.string ⟨⟨t⟩⟩) /\ World.cell? W ⟨n, 1, none⟩ = some (.string ⟨⟨c⟩⟩) /\ World.cell? W ⟨bf, 2, none⟩ = some (.map (some mb)) := ⟨y0, o0, o1, m2⟩
  have hSD : BSt RtT w0 S0 ob0 bf W.drew (cls, (start, (some xs, ()))) [(n, #[.string ⟨⟨t⟩⟩, .string ⟨⟨c⟩⟩], 58)] /\ World.cell? W.drew ⟨n, 0, none⟩ = some (.string ⟨⟨t⟩⟩) /\ World.cell? W.drew ⟨n, 1, none⟩ = some (.string ⟨⟨c⟩⟩) /\ World.cell? W.drew ⟨bf, 2, none⟩ = some (.map (some mb)) := ⟨y0.drew, o0, o1, m2⟩
  have yA := (y0.alloc #[.int .i64 0, .int .i64 0, .int .i64 0, .int .i64 0] 54).drew
  have mA : (W.alloc (.cells #[.int .i64 0, .int .i64 0, .int .i64 0, .int .i64 0] 54)).drew.cell? ⟨bf, 2, none⟩ = some (.map (some mb)) := z1s m2
  have hSA : BSt RtT w0 S0 ob0 bf (W.alloc (.cells #[.int .i64 0, .int .i64 0, .int .i64 0, .int .i64 0] 54)).drew (cls, (start, (some xs, ()))) [(n, #[.string ⟨⟨t⟩⟩, .string ⟨⟨c⟩⟩], 58)] /\ World.cell? (W.alloc (.cells #[.int .i64 0, .int .i64 0, .int .i64 0, .int .i64 0] 54)).drew ⟨n, 0, none⟩ = some (.string ⟨⟨t⟩⟩) /\ World.cell? (W.alloc (.cells #[.int .i64 0, .int .i64 0, .int .i64 0, .int .i64 0] 54)).drew ⟨n, 1, none⟩ = some (.string ⟨⟨c⟩⟩) /\ World.cell? (W.alloc (.cells #[.int .i64 0, .int .i64 0, .int .i64 0, .int .i64 0] 54)).drew ⟨bf, 2, none⟩ = some (.map (some mb)) := sK yA mA
  have hL1 := z6x N y0.drew m2 HY.out
  have hL2 := z6x N yA mA HY.out
  clear y0 m2 yA mA
  go_region_held3 (fun w' => BSt RtT w0 S0 ob0 bf w' (cls, (start, (some xs, ()))) [(n, #[.string ⟨⟨t⟩⟩, .string ⟨⟨c⟩⟩], 58)] /\ World.cell? w' ⟨n, 0, none⟩ = some (.string ⟨⟨t⟩⟩) /\ World.cell? w' ⟨n, 1, none⟩ = some (.string ⟨⟨c⟩⟩) /\ World.cell? w' ⟨bf, 2, none⟩ = some (.map (some mb)))
    (first
      | assumption
      | exact hSB _ _)
    (first
      | (go_at_call 22; refine hL1.mono ?_; rintro r w2 ⟨rfl, _, hq, hm⟩; have hSW : BSt RtT w0 S0 ob0 bf w2 (cls, (start, (some xs, ()))) [(n, #[.string ⟨⟨t⟩⟩, .string ⟨⟨c⟩⟩], 58)] /\ World.cell? w2 ⟨n, 0, none⟩ = some (.string ⟨⟨t⟩⟩) /\ World.cell? w2 ⟨n, 1, none⟩ = some (.string ⟨⟨c⟩⟩) /\ World.cell? w2 ⟨bf, 2, none⟩ = some (.map (some mb)) := ⟨hq, hq.cell (List.mem_cons_self ..) rfl, hq.cell (List.mem_cons_self ..) rfl, hm⟩; have hSB : ∀ (cs : Array Value) (E : Nat), BSt RtT w0 S0 ob0 bf (w2.alloc (.cells cs E)) (cls, (start, (some xs, ()))) [(n, #[.string ⟨⟨t⟩⟩, .string ⟨⟨c⟩⟩], 58)] /\ World.cell? (w2.alloc (.cells cs E)) ⟨n, 0, none⟩ = some (.string ⟨⟨t⟩⟩) /\ World.cell? (w2.alloc (.cells cs E)) ⟨n, 1, none⟩ = some (.string ⟨⟨c⟩⟩) /\ World.cell? (w2.alloc (.cells cs E)) ⟨bf, 2, none⟩ = some (.map (some mb)) := fun cs E => ⟨(hq.alloc cs E).swap (fun p hp => by simp at hp; simp [hp]), z1s hSW.2.1, z1s hSW.2.2.1, z1s hm⟩; clear hq hm hL1 hL2)
      | (go_at_call 22; refine hL2.mono ?_; rintro r w2 ⟨rfl, _, hq, hm⟩; have hSW : BSt RtT w0 S0 ob0 bf w2 (cls, (start, (some xs, ()))) [(n, #[.string ⟨⟨t⟩⟩, .string ⟨⟨c⟩⟩], 58)] /\ World.cell? w2 ⟨n, 0, none⟩ = some (.string ⟨⟨t⟩⟩) /\ World.cell? w2 ⟨n, 1, none⟩ = some (.string ⟨⟨c⟩⟩) /\ World.cell? w2 ⟨bf, 2, none⟩ = some (.map (some mb)) := sK hq hm; have hST := s4 hq hm np bp (.int .i64 a1) (.int .i64 a2) (.int .i64 a3) (.int .i64 a4); have q0 := hq.cell (List.mem_cons_self ..) (i := 0) rfl; have q1 := hq.cell (List.mem_cons_self ..) (i := 1) rfl; have q2 := hq.cell (List.mem_cons_self ..) (i := 2) rfl; have q3 := hq.cell (List.mem_cons_self ..) (i := 3) rfl; have f0 := hq.free (List.mem_cons_self ..) (i := 0); have f1 := hq.free (List.mem_cons_self ..) (i := 1); have f2 := hq.free (List.mem_cons_self ..) (i := 2); have f3 := hq.free (List.mem_cons_self ..) (i := 3); clear hm hL1 hL2))
  all_goals (first
    | (have U := Go.Lib.hid (hSB #[.int .i64 a1, .int .i64 a2, .int .i64 a3, .int .i64 a4] 54))
    | (have U := Go.Lib.hid hST))
  all_goals go_wp2
  all_goals exact HR.out _ (U.out.1.swap (fun p hp => by cases hp))

set_option maxHeartbeats 4000000 in
theorem zos (N : Nat) {w0 w : World} {S0 : Hp} {ob0 : List Nat} {bf : Nat} {cls : List ClassT.den} {start : Int} {t c : List UInt8} {now : Int}
    (h : BSt RtT w0 S0 ob0 bf w (cls, (start, (none, ()))) []) :
    Calls Try.prog 15 #[.pointer (some ⟨bf, 0, none⟩), .string ⟨⟨t⟩⟩, .string ⟨⟨c⟩⟩, .int .i64 now] w fun e w' => e = .returned (.int .i64 21) /\ BSt RtT w0 S0 ob0 bf w' (cls, (start, (none, ()))) [] := by
  suffices HX : ∀ R : Ending -> World -> Prop, Go.RowKit.Hid (∀ w', BSt RtT w0 S0 ob0 bf w' (cls, (start, (none, ()))) [] -> R (.returned (.int .i64 21)) w') -> Calls Try.prog 15 #[.pointer (some ⟨bf, 0, none⟩), .string ⟨⟨t⟩⟩, .string ⟨⟨c⟩⟩, .int .i64 now] w R from HX _ (Go.Lib.hid (fun w' h => ⟨rfl, h⟩))
  intro R HR
  have HM := z6w N h
  clear h
  go_enter Try.func15, Try.ntmps15
  go_wp2_with (go_at_call 21; refine HM.mono ?_; rintro r w1 ⟨rfl, hq⟩; have HE := Go.Lib.hid hq; clear HM hq)
  try go_ret
  exact HR.out _ HE.out

def z1v (N : Nat) (r : RtT.den) (t c : List UInt8) (now : Int) : Option (Int × (RtT.den × Unit)) := match r.2.2.1 with
  | none => some (21, (r, ()))
  | some xs => (z1p N r (t, (c, ()))).bind fun q => cond q.1.2.1 ((z3d N q.1.1 now).bind fun b => some ((if b.2.1 then 0 else 17), ((r.1, (r.2.1, (some (zmk (eqD OwT) (t, (c, ())) b.1 xs), ()))), ()))) (some (6, (r, ())))

def z56 (N : Nat) : List A -> Res := z1k [(0, .box RtT), (0, .v .str), (0, .v .str), (0, .v (.int .i64))] (fun x => z1v N x.1 x.2.1 x.2.2.1 x.2.2.2.1) (znu (.v (.int .i64)) [(0, .box RtT)] 3)

theorem zpr (N : Nat) {r x' : RtT.den} {o : OwT.den} {q : BkT.den × (Bool × Unit)} (h : z1p N r o = some (q, x')) : x' = r := by
  unfold z1p at h
  cases hl : z4q (eqD OwT) o (r.2.2.1.getD []) with
  | some b => rw [hl] at h; cases h; rfl
  | none =>
    rw [hl] at h
    dsimp only at h
    cases hf : zg0 N r.1 r.2.1 o with
    | none => rw [hf] at h; cases h
    | some q => rw [hf] at h; cases h; rfl

theorem zot (N : Nat) {w0 w : World} {S0 : Hp} {ob0 : List Nat} {bf : Nat} {x x' : RtT.den} {t c : List UInt8} {now v : Int} (h : BSt RtT w0 S0 ob0 bf w x []) (hy : z1v N x t c now = some (v, (x', ()))) :
    Calls Try.prog 15 #[.pointer (some ⟨bf, 0, none⟩), .string ⟨⟨t⟩⟩, .string ⟨⟨c⟩⟩, .int .i64 now] w fun e w' => e = .returned (.int .i64 v) /\ BSt RtT w0 S0 ob0 bf w' x' [] := by
  obtain ⟨cls, start, m, ⟨⟩⟩ := x
  cases m with
  | none => cases hy; exact zos N h
  | some xs =>
    replace hy : ((z1p N (cls, (start, (some xs, ()))) (t, (c, ()))).bind fun q => cond q.1.2.1 ((z3d N q.1.1 now).bind fun b => some ((if b.2.1 then 0 else 17), ((cls, (start, (some (zmk (eqD OwT) (t, (c, ())) b.1 xs), ()))), ()))) (some (6, ((cls, (start, (some xs, ()))), ())))) = some (v, (x', ())) := hy
    cases hl : z1p N (cls, (start, (some xs, ()))) (t, (c, ())) with
    | none => rw [hl] at hy; cases hy
    | some q =>
      rw [hl, Option.bind_some] at hy
      obtain ⟨⟨⟨a1, a2, a3, a4, ⟨⟩⟩, ok, ⟨⟩⟩, x2⟩ := q
      have hx := zpr N hl
      subst hx
      cases ok with
      | false => cases hy; exact zsx N h hl
      | true =>
        simp only [cond_true] at hy
        cases hz : z3d N (a1, (a2, (a3, (a4, ())))) now with
        | none => rw [hz] at hy; cases hy
        | some b =>
          rw [hz] at hy
          obtain ⟨⟨b1, b2, b3, b4, ⟨⟩⟩, ok, ⟨⟩⟩ := b
          cases hy
          exact zor N h hl hz

theorem zbe (N : Nat) : Contract Try.prog zh 15 (z56 N) := by
  refine Contract.hand ⟨_, Try.func15, by kernel_rfl, by decide⟩ ?_
  rintro w S vals ob ⟨x, t, c, now, ⟨⟩⟩ ⟨v, x', ⟨⟩⟩ har hS hg hy
  obtain ⟨bf, rfl, hne, hob, hB⟩ := zqw har hS
  refine (zot N hB hy).mono ?_
  rintro e w' ⟨rfl, h'⟩
  exact h'.ends hob hne (by intro y hy; have hy : y ∈ [A.v .str t, A.v .str c, A.v (.int .i64) now] := hy; simp at hy; rcases hy with rfl | rfl | rfl <;> rfl) (fun S' => ⟨VR.int, rfl⟩) rfl

def z6l : Code := (Go.Proofs.Try.f15.body).getD .skip

def z4h : List (List Nat × List Nat) := [([0], [0, 1, 2, 3]), ([0, 0, 1], [16, 1, 2, 0, 3]), ([1, 0, 1], [1, 2, 0, 3]), ([0, 0, 1, 0, 1], [8]), ([1, 0, 1, 0, 1], [8]), ([0, 1, 1], [0, 9, 3]), ([0, 1, 1, 1], [11, 10, 3, 0, 9]), ([0, 0, 1, 1, 1, 1], [32, 10, 3, 0, 9]), ([1, 0, 1, 1, 1, 1], [10, 3, 0, 9]), ([0, 0, 1, 0, 1, 1, 1, 1], [8]), ([1, 0, 1, 0, 1, 1, 1, 1], [8]), ([0, 1, 1, 1, 1, 1], [0, 9, 12, 13]), ([0, 1, 1, 1, 1, 1, 1], [13]), ([0, 0, 1, 1, 1, 1, 1, 1, 1], [46]), ([1, 0, 1, 1, 1, 1, 1, 1, 1], []), ([0, 0, 1, 0, 1, 1, 1, 1, 1, 1, 1], [8]), ([1, 0, 1, 0, 1, 1, 1, 1, 1, 1, 1], [8]), ([0, 1, 1, 1, 1, 1, 1, 1, 1], [8]), ([1, 1, 1, 1, 1, 1, 1, 1, 1], [8])]

def z2m (N : Nat) : Env := z3q tys zh [(26, z9m N), (23, z2z N), (21, z13 N)] [] [] [] false [] []

theorem z7h (N : Nat) : EnvOk Go.Proofs.Try.prog (z2m N) := zp mixed z1t (FnsOk.cons (zaj N) (FnsOk.cons (z38 N) (FnsOk.cons (z19 N) (FnsOk.nil)))) (ItsOk.nil)

def z39 (N : Nat) (tenant : (List UInt8)) (class_ : (List UInt8)) (now : Int) : Option Int :=
 some (21 : Int)

def z4g (N : Nat) : Tab Int := []

theorem z6k (N : Nat) (x : z21 [(0, .nilp), (0, .v .str), (0, .v .str), (0, .v (.int .i64))]) : za0 (z2m N) N (z4g N) z4h Go.Proofs.Try.f15 (mkS [(0, .nilp), (0, .v .str), (0, .v .str), (0, .v (.int .i64))] 0 x) (z4p (.v (.int .i64)) 4) = z39 N x.2.1 x.2.2.1 x.2.2.2.1 := by kernel_rfl

def z7g (N : Nat) : List A -> Res := z1k [(0, .nilp), (0, .v .str), (0, .v .str), (0, .v (.int .i64))] (fun x => z39 N x.2.1 x.2.2.1 x.2.2.2.1) (z8t (.v (.int .i64)) 4)

theorem z8o (N : Nat) : Contract Go.Proofs.Try.prog zh 15 (z7g N) :=
  Contract.of (E := z2m N) (H := z4g N) (L := z4h) (N := N) (body := z6l) (K := (z4p (.v (.int .i64)) 4)) (z7h N) Go.Proofs.Try.func15 (by kernel_rfl) (by decide) (fun _ hb => TabOk.nil) (fun x y h => by rw [z6k]; exact h) (z1d (s := (.v (.int .i64))) (m := 4))

def z26 (N : Nat) : List A -> Res := zhp [(0, .nilp), (0, .v .str), (0, .v .str), (0, .v (.int .i64))] (fun x => z39 N x.2.1 x.2.2.1 x.2.2.2.1) (z8t (.v (.int .i64)) 4) (z56 N)

theorem z32 (N : Nat) : Contract Go.Proofs.Try.prog zh 15 (z26 N) := Contract.alt (z8o N) (zbe N)

def z6n : Code := (Go.Proofs.Try.f12.body).getD .skip

def z4j : List (List Nat × List Nat) := [([0], [0, 1, 2, 3]), ([0, 0, 1], [13, 0, 1, 2, 3]), ([1, 0, 1], [0, 1, 2, 3]), ([0, 0, 1, 0, 1], [8]), ([1, 0, 1, 0, 1], [8]), ([0, 1, 1], [10, 9, 3]), ([0, 0, 1, 1, 1], [28, 9, 3]), ([1, 0, 1, 1, 1], [9, 3]), ([0, 0, 1, 0, 1, 1, 1], [8]), ([1, 0, 1, 0, 1, 1, 1], [8]), ([0, 1, 1, 1, 1], [8]), ([1, 1, 1, 1, 1], [8])]

def z2n (N : Nat) : Env := z3q tys zh [(23, z2z N), (24, z80 N), (21, z13 N)] [] [] [] false [] []

theorem z7j (N : Nat) : EnvOk Go.Proofs.Try.prog (z2n N) := zp mixed z1t (FnsOk.cons (z38 N) (FnsOk.cons (z9p N) (FnsOk.cons (z19 N) (FnsOk.nil)))) (ItsOk.nil)

def z3a (N : Nat) (tenant : (List UInt8)) (class_ : (List UInt8)) (now : Int) : Option Int :=
 some (0 : Int)

def z4i (N : Nat) : Tab Int := []

theorem z6m (N : Nat) (x : z21 [(0, .nilp), (0, .v .str), (0, .v .str), (0, .v (.int .i64))]) : za0 (z2n N) N (z4i N) z4j Go.Proofs.Try.f12 (mkS [(0, .nilp), (0, .v .str), (0, .v .str), (0, .v (.int .i64))] 0 x) (z4p (.v (.int .i64)) 4) = z3a N x.2.1 x.2.2.1 x.2.2.2.1 := by kernel_rfl

def z7i (N : Nat) : List A -> Res := z1k [(0, .nilp), (0, .v .str), (0, .v .str), (0, .v (.int .i64))] (fun x => z3a N x.2.1 x.2.2.1 x.2.2.2.1) (z8t (.v (.int .i64)) 4)

theorem z8p (N : Nat) : Contract Go.Proofs.Try.prog zh 12 (z7i N) :=
  Contract.of (E := z2n N) (H := z4i N) (L := z4j) (N := N) (body := z6n) (K := (z4p (.v (.int .i64)) 4)) (z7j N) Go.Proofs.Try.func12 (by kernel_rfl) (by decide) (fun _ hb => TabOk.nil) (fun x y h => by rw [z6m]; exact h) (z1d (s := (.v (.int .i64))) (m := 4))

def z27 (N : Nat) : List A -> Res := zhp [(0, .nilp), (0, .v .str), (0, .v .str), (0, .v (.int .i64))] (fun x => z3a N x.2.1 x.2.2.1 x.2.2.2.1) (z8t (.v (.int .i64)) 4) (z57 N)

theorem z33 (N : Nat) : Contract Go.Proofs.Try.prog zh 12 (z27 N) := Contract.alt (z8p N) (zbf N)

def z8r : Code := (Go.Proofs.Try.f6.body).getD .skip

def z5d : List (List Nat × List Nat) := [([0], []), ([0, 1], [2, 1]), ([0, 1, 1], [0]), ([1, 1, 1], [0])]

def z3b (N : Nat) : Env := z3q tys zh [(12, z27 N), (15, z26 N), (7, zdc N)] [] [] [] false [(1, (.pair (.own (.pair .str (.pair (.int .i64) (.pair (.int .i64) .unit)))) (.pair (.int .i64) (.pair (.mp (.pair .str (.pair .str .unit)) (.pair (.int .i64) (.pair (.int .i64) (.pair (.int .i64) (.pair (.int .i64) .unit))))) .unit))))] []

theorem z9a (N : Nat) : EnvOk Go.Proofs.Try.prog (z3b N) := zp mixed z1t (FnsOk.cons (z33 N) (FnsOk.cons (z32 N) (FnsOk.cons (zlf N) (FnsOk.nil)))) (ItsOk.nil)

def z2u (N : Nat) : Option Bool :=
 (zik N ([(([(103 : UInt8), (111 : UInt8), (108 : UInt8), (100 : UInt8)] : List UInt8), ((1 : Int), ((1 : Int), ())))] : List ((List UInt8) × (Int × (Int × Unit)))) (0 : Int)).bind fun y =>
 cond (Option.isSome y.1)
 (cond (y.2.1 == (0 : Int))
 ((z1v N (Option.getD y.1 (([] : List ((List UInt8) × (Int × (Int × Unit)))), ((0 : Int), ((Option.none), ())))) ([(97 : UInt8)] : List UInt8) ([(103 : UInt8), (111 : UInt8), (108 : UInt8), (100 : UInt8)] : List UInt8) (0 : Int)).bind fun y1 =>
 cond (y1.1 == (17 : Int))
 ((z1v N y1.2.1 ([(97 : UInt8)] : List UInt8) ([(103 : UInt8), (111 : UInt8), (108 : UInt8), (100 : UInt8)] : List UInt8) (1 : Int)).bind fun y2 =>
 cond (y2.1 == (0 : Int))
 ((z1v N y2.2.1 ([(97 : UInt8)] : List UInt8) ([(103 : UInt8), (111 : UInt8), (108 : UInt8), (100 : UInt8)] : List UInt8) (1 : Int)).bind fun y3 =>
 cond (y3.1 == (17 : Int))
 ((z1v N y3.2.1 ([(97 : UInt8)] : List UInt8) ([(120 : UInt8)] : List UInt8) (1 : Int)).bind fun y4 =>
 cond (y4.1 == (6 : Int))
 ((z58 N y4.2.1 ([(98 : UInt8)] : List UInt8) ([(103 : UInt8), (111 : UInt8), (108 : UInt8), (100 : UInt8)] : List UInt8) (5 : Int)).bind fun y5 =>
 some (y5.1 == (1 : Int)))
 (some false))
 (some false))
 (some false))
 (some false))
 (some false))
 (none)

def z5c (N : Nat) : Tab Bool := []

theorem z8q (N : Nat) (x : z21 []) : za0 (z3b N) N (z5c N) z5d Go.Proofs.Try.f6 (mkS [] 0 x) (z4p (.v .bool) 0) = z2u N := by kernel_rfl

def z4l (N : Nat) : List A -> Res := z1k [] (fun x => z2u N) (z8t (.v .bool) 0)

theorem za8 (N : Nat) : Contract Go.Proofs.Try.prog zh 6 (z4l N) :=
  Contract.of (E := z3b N) (H := z5c N) (L := z5d) (N := N) (body := z8r) (K := (z4p (.v .bool) 0)) (z9a N) Go.Proofs.Try.func6 (by kernel_rfl) (by decide) (fun _ hb => TabOk.nil) (fun x y h => by rw [z8q]; exact h) (z1d (s := (.v .bool)) (m := 0))

def z65 : Code := (Go.Proofs.Try.f5.body).getD .skip

def z3y : List (List Nat × List Nat) := [([0], [2, 0, 1]), ([0, 1], [7, 2, 0, 1]), ([0, 1, 1], [7, 2, 8, 0, 1]), ([0, 1, 1, 1], [2, 8, 7, 0, 1]), ([0, 1, 1, 1, 1], [7, 0, 1, 2, 8]), ([0, 1, 1, 1, 1, 1], [6]), ([1, 1, 1, 1, 1, 1], [6])]

def z2e (N : Nat) : Env := z3q tys zh [(6, z4l N), (12, z27 N), (15, z26 N), (10, z3h N)] [] [] [] false [(8, (.pair (.own (.pair .str (.pair (.int .i64) (.pair (.int .i64) .unit)))) (.pair (.int .i64) (.pair (.mp (.pair .str (.pair .str .unit)) (.pair (.int .i64) (.pair (.int .i64) (.pair (.int .i64) (.pair (.int .i64) .unit))))) .unit))))] []

theorem z6t (N : Nat) : EnvOk Go.Proofs.Try.prog (z2e N) := zp mixed z1t (FnsOk.cons (za8 N) (FnsOk.cons (z33 N) (FnsOk.cons (z32 N) (FnsOk.cons (z5p N) (FnsOk.nil))))) (ItsOk.nil)

def z16 (N : Nat) (tenant : (List UInt8)) (class_ : (List UInt8)) (now : Int) : Option Bool :=
 (z2u N).bind fun y =>
 some y

def z3x (N : Nat) : Tab Bool := []

theorem z64 (N : Nat) (x : z21 [(0, .v .str), (0, .v .str), (0, .v (.int .i64))]) : za0 (z2e N) N (z3x N) z3y Go.Proofs.Try.f5 (mkS [(0, .v .str), (0, .v .str), (0, .v (.int .i64))] 0 x) (z4p (.v .bool) 3) = z16 N x.1 x.2.1 x.2.2.1 := by kernel_rfl

def z6s (N : Nat) : List A -> Res := z1k [(0, .v .str), (0, .v .str), (0, .v (.int .i64))] (fun x => z16 N x.1 x.2.1 x.2.2.1) (z8t (.v .bool) 3)

theorem z7m (N : Nat) : Contract Go.Proofs.Try.prog zh 5 (z6s N) :=
  Contract.of (E := z2e N) (H := z3x N) (L := z3y) (N := N) (body := z65) (K := (z4p (.v .bool) 3)) (z6t N) Go.Proofs.Try.func5 (by kernel_rfl) (by decide) (fun _ hb => TabOk.nil) (fun x y h => by rw [z64]; exact h) (z1d (s := (.v .bool)) (m := 3))

end
end Go.Proofs.YtdeemkigjeemjaaLg

set_option linter.all false
namespace Go.Proofs.YtdeemkigjeemjaaLg
noncomputable section
open Go Go.Lift Go.Proofs.YtdeemkigjeemjaaPx


end
end Go.Proofs.YtdeemkigjeemjaaLg
