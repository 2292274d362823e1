import Derived.Test.YtdeemkigjeemjaaLgPrPl2
import Derived.WalkKit
import Derived.Tactics
import Derived.Tactics2
import Derived.Defers
import Derived.Lib.Hide
import Derived.Below
import Derived.Recover
import Derived.Orders
import Derived.WalkSmall
import Derived.LoopN
import Derived.Deep.RegionHeld3
import Derived.Laws.IdiomStrings
import Derived.Test.YtdeemkigjeemjaaLgW
import Derived.Test.YtdeemkigjeemjaaChecked
import Derived.KernelRfl
import Derived.Test.YtdeemkigjeemjaaLgPrPl1
set_option linter.all false
set_option maxRecDepth 100000
namespace Go.Proofs.YtdeemkigjeemjaaLg
noncomputable section
open Go Go.Lift

def ty3 : TyI := ⟨(Go.TypeDesc.int Go.IntKind.i64), 1, 8, (.int .i64), (0 : Int), false⟩

theorem z11u : TyOk Go.Proofs.Try.prog 3 ty3 := TyOk.of (by kernel_rfl) (by kernel_rfl) (by kernel_rfl) (by kernel_rfl)

def ty4 : TyI := ⟨Go.TypeDesc.bool, 1, 1, .bool, false, false⟩

theorem z11t : TyOk Go.Proofs.Try.prog 4 ty4 := TyOk.of (by kernel_rfl) (by kernel_rfl) (by kernel_rfl) (by kernel_rfl)

def ty5 : TyI := ⟨(Go.TypeDesc.int Go.IntKind.u8), 1, 1, (.int .u8), (0 : Int), false⟩

theorem z11s : TyOk Go.Proofs.Try.prog 5 ty5 := TyOk.of (by kernel_rfl) (by kernel_rfl) (by kernel_rfl) (by kernel_rfl)

def ty9 : TyI := ⟨Go.TypeDesc.string, 1, 16, .str, ([] : List UInt8), false⟩

theorem z11r : TyOk Go.Proofs.Try.prog 9 ty9 := TyOk.of (by kernel_rfl) (by kernel_rfl) (by kernel_rfl) (by kernel_rfl)

def ty21 : TyI := ⟨(Go.TypeDesc.int Go.IntKind.i32), 1, 4, (.int .i32), (0 : Int), false⟩

theorem z10s : TyOk Go.Proofs.Try.prog 21 ty21 := TyOk.of (by kernel_rfl) (by kernel_rfl) (by kernel_rfl) (by kernel_rfl)

def ty22 : TyI := ⟨(Go.TypeDesc.slice 43), 1, 24, (.sl (.pair .str (.pair (.int .i64) (.pair (.int .i64) .unit)))), ([] : List ((List UInt8) × (Int × (Int × Unit)))), false⟩

theorem z10r : TyOk Go.Proofs.Try.prog 22 ty22 := TyOk.of (by kernel_rfl) (by kernel_rfl) (by kernel_rfl) (by kernel_rfl)

def ty23 : TyI := ⟨(Go.TypeDesc.slice 31), 1, 24, (.sl (.pair .str (.pair .str (.pair (.int .i64) .unit)))), ([] : List ((List UInt8) × ((List UInt8) × (Int × Unit)))), false⟩

theorem z10q : TyOk Go.Proofs.Try.prog 23 ty23 := TyOk.of (by kernel_rfl) (by kernel_rfl) (by kernel_rfl) (by kernel_rfl)

def ty25 : TyI := ⟨(Go.TypeDesc.pointer 48), 1, 8, .opq, (Go.Value.pointer none), false⟩

theorem z10p : TyOk Go.Proofs.Try.prog 25 ty25 := TyOk.of (by kernel_rfl) (by kernel_rfl) (by kernel_rfl) (by kernel_rfl)

def ty26 : TyI := ⟨(Go.TypeDesc.int Go.IntKind.i64), 1, 8, (.int .i64), (0 : Int), false⟩

theorem z10o : TyOk Go.Proofs.Try.prog 26 ty26 := TyOk.of (by kernel_rfl) (by kernel_rfl) (by kernel_rfl) (by kernel_rfl)

def ty31 : TyI := ⟨(Go.TypeDesc.struct (List.toArray ([(Go.Field.mk "Tenant" 9 0 false "" "" 0), (Go.Field.mk "Class" 9 1 false "" "" 16), (Go.Field.mk "Now" 3 2 false "" "" 32)] : List Go.Field))), 3, 40, (.pair .str (.pair .str (.pair (.int .i64) .unit))), (([] : List UInt8), ([] : List UInt8), (0 : Int), ()), true⟩

theorem z10n : TyOk Go.Proofs.Try.prog 31 ty31 := TyOk.of (by kernel_rfl) (by kernel_rfl) (by kernel_rfl) (by kernel_rfl)

def ty34 : TyI := ⟨(Go.TypeDesc.struct (List.toArray ([(Go.Field.mk "Cap" 3 0 false "" "" 0), (Go.Field.mk "Fill" 3 1 false "" "" 8), (Go.Field.mk "Have" 3 2 false "" "" 16), (Go.Field.mk "At" 3 3 false "" "" 24)] : List Go.Field))), 4, 32, (.pair (.int .i64) (.pair (.int .i64) (.pair (.int .i64) (.pair (.int .i64) .unit)))), ((0 : Int), (0 : Int), (0 : Int), (0 : Int), ()), true⟩

theorem z10m : TyOk Go.Proofs.Try.prog 34 ty34 := TyOk.of (by kernel_rfl) (by kernel_rfl) (by kernel_rfl) (by kernel_rfl)

def ty43 : TyI := ⟨(Go.TypeDesc.struct (List.toArray ([(Go.Field.mk "Name" 9 0 false "" "" 0), (Go.Field.mk "Cap" 3 1 false "" "" 16), (Go.Field.mk "Fill" 3 2 false "" "" 24)] : List Go.Field))), 3, 32, (.pair .str (.pair (.int .i64) (.pair (.int .i64) .unit))), (([] : List UInt8), (0 : Int), (0 : Int), ()), true⟩

theorem zvu : TyOk Go.Proofs.Try.prog 43 ty43 := TyOk.of (by kernel_rfl) (by kernel_rfl) (by kernel_rfl) (by kernel_rfl)

def ty44 : TyI := ⟨(Go.TypeDesc.array 2 3), 2, 16, (.arr 2 (.int .i64)), ([(0 : Int), (0 : Int)] : List Int), true⟩

theorem z10l : TyOk Go.Proofs.Try.prog 44 ty44 := TyOk.of (by kernel_rfl) (by kernel_rfl) (by kernel_rfl) (by kernel_rfl)

def ty46 : TyI := ⟨(Go.TypeDesc.map 58 54), 1, 8, .opq, (Go.Value.map none), false⟩

theorem z10k : TyOk Go.Proofs.Try.prog 46 ty46 := TyOk.of (by kernel_rfl) (by kernel_rfl) (by kernel_rfl) (by kernel_rfl)

def ty48 : TyI := ⟨(Go.TypeDesc.struct (List.toArray ([(Go.Field.mk "classes" 22 0 false "" "porter/rate" 0), (Go.Field.mk "start" 3 1 false "" "porter/rate" 24), (Go.Field.mk "buckets" 46 2 false "" "porter/rate" 32)] : List Go.Field))), 3, 40, (.pair (.sl (.pair .str (.pair (.int .i64) (.pair (.int .i64) .unit)))) (.pair (.int .i64) (.pair .opq .unit))), (([] : List ((List UInt8) × (Int × (Int × Unit)))), (0 : Int), (Go.Value.map none), ()), true⟩

theorem z10j : TyOk Go.Proofs.Try.prog 48 ty48 := TyOk.of (by kernel_rfl) (by kernel_rfl) (by kernel_rfl) (by kernel_rfl)

def ty54 : TyI := ⟨(Go.TypeDesc.struct (List.toArray ([(Go.Field.mk "Cap" 3 0 false "" "" 0), (Go.Field.mk "Fill" 3 1 false "" "" 8), (Go.Field.mk "Have" 3 2 false "" "" 16), (Go.Field.mk "At" 3 3 false "" "" 24)] : List Go.Field))), 4, 32, (.pair (.int .i64) (.pair (.int .i64) (.pair (.int .i64) (.pair (.int .i64) .unit)))), ((0 : Int), (0 : Int), (0 : Int), (0 : Int), ()), true⟩

theorem z10i : TyOk Go.Proofs.Try.prog 54 ty54 := TyOk.of (by kernel_rfl) (by kernel_rfl) (by kernel_rfl) (by kernel_rfl)

def ty58 : TyI := ⟨(Go.TypeDesc.struct (List.toArray ([(Go.Field.mk "tenant" 9 0 false "" "porter/rate" 0), (Go.Field.mk "class" 9 1 false "" "porter/rate" 16)] : List Go.Field))), 2, 32, (.pair .str (.pair .str .unit)), (([] : List UInt8), ([] : List UInt8), ()), true⟩

theorem z10h : TyOk Go.Proofs.Try.prog 58 ty58 := TyOk.of (by kernel_rfl) (by kernel_rfl) (by kernel_rfl) (by kernel_rfl)

def ty59 : TyI := ⟨(Go.TypeDesc.func (List.toArray ([58] : List Nat)) (List.toArray ([54, 4] : List Nat)) false), 1, 8, .opq, Go.Value.nilFunc, false⟩

theorem z10g : TyOk Go.Proofs.Try.prog 59 ty59 := TyOk.of (by kernel_rfl) (by kernel_rfl) (by kernel_rfl) (by kernel_rfl)

def ty64 : TyI := ⟨(Go.TypeDesc.func (List.toArray ([21, 4] : List Nat)) (List.toArray ([4] : List Nat)) false), 1, 8, .opq, Go.Value.nilFunc, false⟩

theorem z10f : TyOk Go.Proofs.Try.prog 64 ty64 := TyOk.of (by kernel_rfl) (by kernel_rfl) (by kernel_rfl) (by kernel_rfl)

def ty66 : TyI := ⟨(Go.TypeDesc.func (List.toArray ([43] : List Nat)) (List.toArray ([4] : List Nat)) false), 1, 8, .opq, Go.Value.nilFunc, false⟩

theorem z10e : TyOk Go.Proofs.Try.prog 66 ty66 := TyOk.of (by kernel_rfl) (by kernel_rfl) (by kernel_rfl) (by kernel_rfl)

def tys : List (Nat × TyI) := [(3, ty3), (4, ty4), (5, ty5), (9, ty9), (21, ty21), (22, ty22), (23, ty23), (25, ty25), (26, ty26), (31, ty31), (34, ty34), (43, ty43), (44, ty44), (46, ty46), (48, ty48), (54, ty54), (58, ty58), (59, ty59), (64, ty64), (66, ty66)]

theorem z1x : TysOk Go.Proofs.Try.prog tys := TysOk.cons z11u (TysOk.cons z11t (TysOk.cons z11s (TysOk.cons z11r (TysOk.cons z10s (TysOk.cons z10r (TysOk.cons z10q (TysOk.cons z10p (TysOk.cons z10o (TysOk.cons z10n (TysOk.cons z10m (TysOk.cons zvu (TysOk.cons z10l (TysOk.cons z10k (TysOk.cons z10j (TysOk.cons z10i (TysOk.cons z10h (TysOk.cons z10g (TysOk.cons z10f (TysOk.cons z10e (TysOk.nil))))))))))))))))))))

theorem mixed : Go.Proofs.Try.prog.follows .mixedOrders = true := by kernel_rfl

def zfk : Code := (Go.Proofs.Try.f21.body).getD .skip

def zaq : List (List Nat × List Nat) := [([0], [0]), ([0, 1], [2, 0]), ([1, 1], [2, 0])]

def z6h (N : Nat) : Env := z42 tys zj [] [] [] [0] false [] []

theorem zgl (N : Nat) : EnvOk Go.Proofs.Try.prog (z6h N) := z11 mixed z1x (FnsOk.nil) (ItsOk.nil)

def z8h (N : Nat) (r_ : ((List ((List UInt8) × (Int × (Int × Unit)))) × (Int × ((Option (List (((List UInt8) × ((List UInt8) × Unit)) × (Int × (Int × (Int × (Int × Unit))))))) × Unit)))) : Option (Bool × (((List ((List UInt8) × (Int × (Int × Unit)))) × (Int × ((Option (List (((List UInt8) × ((List UInt8) × Unit)) × (Int × (Int × (Int × (Int × Unit))))))) × Unit))) × Unit)) :=
 some ((!(!(Option.isSome r_.2.2.1))), (r_, ()))

def zan (N : Nat) : Tab (Bool × (((List ((List UInt8) × (Int × (Int × Unit)))) × (Int × ((Option (List (((List UInt8) × ((List UInt8) × Unit)) × (Int × (Int × (Int × (Int × Unit))))))) × Unit))) × Unit)) := []

theorem zfj (N : Nat) (x : z1v [(0, .box (.pair (.own (.pair .str (.pair (.int .i64) (.pair (.int .i64) .unit)))) (.pair (.int .i64) (.pair (.mp (.pair .str (.pair .str .unit)) (.pair (.int .i64) (.pair (.int .i64) (.pair (.int .i64) (.pair (.int .i64) .unit))))) .unit))))]) : zbu (z6h N) N (zan N) zaq Go.Proofs.Try.f21 (mkS [(0, .box (.pair (.own (.pair .str (.pair (.int .i64) (.pair (.int .i64) .unit)))) (.pair (.int .i64) (.pair (.mp (.pair .str (.pair .str .unit)) (.pair (.int .i64) (.pair (.int .i64) (.pair (.int .i64) (.pair (.int .i64) .unit))))) .unit))))] 0 x) (zr2 (.v .bool) [(0, .box (.pair (.own (.pair .str (.pair (.int .i64) (.pair (.int .i64) .unit)))) (.pair (.int .i64) (.pair (.mp (.pair .str (.pair .str .unit)) (.pair (.int .i64) (.pair (.int .i64) (.pair (.int .i64) (.pair (.int .i64) .unit))))) .unit))))] 0) = z8h N x.1 := by kernel_rfl

def z8g (N : Nat) : List A -> Res := z1w [(0, .box (.pair (.own (.pair .str (.pair (.int .i64) (.pair (.int .i64) .unit)))) (.pair (.int .i64) (.pair (.mp (.pair .str (.pair .str .unit)) (.pair (.int .i64) (.pair (.int .i64) (.pair (.int .i64) (.pair (.int .i64) .unit))))) .unit))))] (fun x => z8h N x.1) (zuy (.v .bool) [(0, .box (.pair (.own (.pair .str (.pair (.int .i64) (.pair (.int .i64) .unit)))) (.pair (.int .i64) (.pair (.mp (.pair .str (.pair .str .unit)) (.pair (.int .i64) (.pair (.int .i64) (.pair (.int .i64) (.pair (.int .i64) .unit))))) .unit))))] 0)

theorem z9n (N : Nat) : Contract Go.Proofs.Try.prog zj 21 (z8g N) :=
  Contract.of (E := z6h N) (H := zan N) (L := zaq) (N := N) (body := zfk) (K := (zr2 (.v .bool) [(0, .box (.pair (.own (.pair .str (.pair (.int .i64) (.pair (.int .i64) .unit)))) (.pair (.int .i64) (.pair (.mp (.pair .str (.pair .str .unit)) (.pair (.int .i64) (.pair (.int .i64) (.pair (.int .i64) (.pair (.int .i64) .unit))))) .unit))))] 0)) (zgl N) Go.Proofs.Try.func21 (by kernel_rfl) (by decide) (fun _ hb => TabOk.nil) (fun x y h => by rw [zfj]; exact h) (zpl (s := (.v .bool)) (os := [(0, .box (.pair (.own (.pair .str (.pair (.int .i64) (.pair (.int .i64) .unit)))) (.pair (.int .i64) (.pair (.mp (.pair .str (.pair .str .unit)) (.pair (.int .i64) (.pair (.int .i64) (.pair (.int .i64) (.pair (.int .i64) .unit))))) .unit))))]) (m := 0))

def zap : Code := (Go.Proofs.Try.f21.body).getD .skip

def z6w : List (List Nat × List Nat) := [([0], [0]), ([0, 1], [2]), ([1, 1], [2])]

def z3q (N : Nat) : Env := z42 tys zj [] [] [] [] false [] []

theorem zc4 (N : Nat) : EnvOk Go.Proofs.Try.prog (z3q N) := z11 mixed z1x (FnsOk.nil) (ItsOk.nil)

def z4t (N : Nat) : Option Bool :=
 some false

def z6v (N : Nat) : Tab Bool := []

theorem zao (N : Nat) (x : z1v [(0, .nilp)]) : zbu (z3q N) N (z6v N) z6w Go.Proofs.Try.f21 (mkS [(0, .nilp)] 0 x) (z4p (.v .bool) 1) = z4t N := by kernel_rfl

def zc3 (N : Nat) : List A -> Res := z1w [(0, .nilp)] (fun x => z4t N) (zaf (.v .bool) 1)

theorem zdb (N : Nat) : Contract Go.Proofs.Try.prog zj 21 (zc3 N) :=
  Contract.of (E := z3q N) (H := z6v N) (L := z6w) (N := N) (body := zap) (K := (z4p (.v .bool) 1)) (zc4 N) Go.Proofs.Try.func21 (by kernel_rfl) (by decide) (fun _ hb => TabOk.nil) (fun x y h => by rw [zao]; exact h) (z1h (s := (.v .bool)) (m := 1))

def z1m (N : Nat) : List A -> Res := zo6 [(0, .nilp)] (fun x => z4t N) (zaf (.v .bool) 1) (z8g N)

theorem z1u (N : Nat) : Contract Go.Proofs.Try.prog zj 21 (z1m N) := Contract.alt (zdb N) (z9n N)

def zkk : Code := (Go.Proofs.Try.f16.body).getD .skip

def zhe : List (List Nat × List Nat) := [([0], [0]), ([0, 1], [2]), ([1, 1], [2])]

def zc0 (N : Nat) : Env := z42 tys zj [] [] [] [] false [] []

theorem zlq (N : Nat) : EnvOk Go.Proofs.Try.prog (zc0 N) := z11 mixed z1x (FnsOk.nil) (ItsOk.nil)

def z3p (N : Nat) (n : Int) : Option Bool :=
 cond (decide ((0 : Int) <= n))
 (some (decide (n <= (1099511627776 : Int))))
 (some false)

def zhd (N : Nat) : Tab Bool := []

theorem zkj (N : Nat) (x : z1v [(0, .v (.int .i64))]) : zbu (zc0 N) N (zhd N) zhe Go.Proofs.Try.f16 (mkS [(0, .v (.int .i64))] 0 x) (z4p (.v .bool) 1) = z3p N x.1 := by kernel_rfl

def z3o (N : Nat) : List A -> Res := z1w [(0, .v (.int .i64))] (fun x => z3p N x.1) (zaf (.v .bool) 1)

theorem z6p (N : Nat) : Contract Go.Proofs.Try.prog zj 16 (z3o N) :=
  Contract.of (E := zc0 N) (H := zhd N) (L := zhe) (N := N) (body := zkk) (K := (z4p (.v .bool) 1)) (zlq N) Go.Proofs.Try.func16 (by kernel_rfl) (by decide) (fun _ hb => TabOk.nil) (fun x y h => by rw [zkj]; exact h) (z1h (s := (.v .bool)) (m := 1))

def z3t : Code := (Go.Proofs.Try.f10.body).getD .skip

def z5y : List (List Nat × List Nat) := [([0], [9, 0, 1]), ([1], [0]), ([0, 0, 1], [0]), ([1, 0, 1], [0])]

def z3i (N : Nat) : Env := z42 tys zj [(16, z3o N), (21, z1m N)] [] [] [0] false [] []

theorem zfn (N : Nat) : EnvOk Go.Proofs.Try.prog (z3i N) := z11 mixed z1x (FnsOk.cons (z6p N) (FnsOk.cons (z1u N) (FnsOk.nil))) (ItsOk.nil)

def z4x (N : Nat) (r_ : ((List ((List UInt8) × (Int × (Int × Unit)))) × (Int × ((Option (List (((List UInt8) × ((List UInt8) × Unit)) × (Int × (Int × (Int × (Int × Unit))))))) × Unit)))) (now : Int) (k0 : Bool -> Option ((Unit) × (((List ((List UInt8) × (Int × (Int × Unit)))) × (Int × ((Option (List (((List UInt8) × ((List UInt8) × Unit)) × (Int × (Int × (Int × (Int × Unit))))))) × Unit))) × Unit))) : Option ((Unit) × (((List ((List UInt8) × (Int × (Int × Unit)))) × (Int × ((Option (List (((List UInt8) × ((List UInt8) × Unit)) × (Int × (Int × (Int × (Int × Unit))))))) × Unit))) × Unit)) :=
 cond (!(!(Option.isSome r_.2.2.1)))
 ((z3p N now).bind fun y =>
 k0 y)
 (k0 false)

def z8l (N : Nat) (x : z1v [(0, .box (.pair (.own (.pair .str (.pair (.int .i64) (.pair (.int .i64) .unit)))) (.pair (.int .i64) (.pair (.mp (.pair .str (.pair .str .unit)) (.pair (.int .i64) (.pair (.int .i64) (.pair (.int .i64) (.pair (.int .i64) .unit))))) .unit)))), (0, .v (.int .i64))]) (K : Ex -> List A -> Option ((Unit) × (((List ((List UInt8) × (Int × (Int × Unit)))) × (Int × ((Option (List (((List UInt8) × ((List UInt8) × Unit)) × (Int × (Int × (Int × (Int × Unit))))))) × Unit))) × Unit))) : Option ((Unit) × (((List ((List UInt8) × (Int × (Int × Unit)))) × (Int × ((Option (List (((List UInt8) × ((List UInt8) × Unit)) × (Int × (Int × (Int × (Int × Unit))))))) × Unit))) × Unit)) :=
 z4x N x.1 x.2.1 (fun a2 => (K .normal (mkS [(0, .box (.pair (.own (.pair .str (.pair (.int .i64) (.pair (.int .i64) .unit)))) (.pair (.int .i64) (.pair (.mp (.pair .str (.pair .str .unit)) (.pair (.int .i64) (.pair (.int .i64) (.pair (.int .i64) (.pair (.int .i64) .unit))))) .unit)))), (0, .v (.int .i64)), (7, .v .bool)] 8 (x.1, x.2.1, a2, ()))))

def z8k (N : Nat) : Hd ((Unit) × (((List ((List UInt8) × (Int × (Int × Unit)))) × (Int × ((Option (List (((List UInt8) × ((List UInt8) × Unit)) × (Int × (Int × (Int × (Int × Unit))))))) × Unit))) × Unit)) := fun st K => (unS [(0, .box (.pair (.own (.pair .str (.pair (.int .i64) (.pair (.int .i64) .unit)))) (.pair (.int .i64) (.pair (.mp (.pair .str (.pair .str .unit)) (.pair (.int .i64) (.pair (.int .i64) (.pair (.int .i64) (.pair (.int .i64) .unit))))) .unit)))), (0, .v (.int .i64))] 16 (restr [0, 1] 0 st)).bind fun x => z8l N x K

def zgm (N : Nat) : Tab ((Unit) × (((List ((List UInt8) × (Int × (Int × Unit)))) × (Int × ((Option (List (((List UInt8) × ((List UInt8) × Unit)) × (Int × (Int × (Int × (Int × Unit))))))) × Unit))) × Unit)) := []

theorem zfm {N : Nat} {c : Ctx} (hb : Base Go.Proofs.Try.prog (z3i N) c) : zu Go.Proofs.Try.prog c (ze z3t [0]) (z8k N) :=
  zq (s := [(0, .box (.pair (.own (.pair .str (.pair (.int .i64) (.pair (.int .i64) .unit)))) (.pair (.int .i64) (.pair (.mp (.pair .str (.pair .str .unit)) (.pair (.int .i64) (.pair (.int .i64) (.pair (.int .i64) (.pair (.int .i64) .unit))))) .unit)))), (0, .v (.int .i64))]) (m := 16) (g := z8l N) [0, 1] (z9 hb N (zgm N) z5y z3t TabOk.nil [0] _ rfl) (fun x K => by kernel_rfl)

def z3a (N : Nat) (r_ : ((List ((List UInt8) × (Int × (Int × Unit)))) × (Int × ((Option (List (((List UInt8) × ((List UInt8) × Unit)) × (Int × (Int × (Int × (Int × Unit))))))) × Unit)))) (now : Int) : Option ((Unit) × (((List ((List UInt8) × (Int × (Int × Unit)))) × (Int × ((Option (List (((List UInt8) × ((List UInt8) × Unit)) × (Int × (Int × (Int × (Int × Unit))))))) × Unit))) × Unit)) :=
 z4x N r_ now
 (fun x9 => cond x9
 (cond (Option.isSome r_.2.2.1)
 (some ((), ((r_.1, (now, ((Option.some ([] : List (((List UInt8) × ((List UInt8) × Unit)) × (Int × (Int × (Int × (Int × Unit))))))), r_.2.2.2))), ())))
 (none))
 (some ((), (r_, ()))))

def z9q (N : Nat) : Tab ((Unit) × (((List ((List UInt8) × (Int × (Int × Unit)))) × (Int × ((Option (List (((List UInt8) × ((List UInt8) × Unit)) × (Int × (Int × (Int × (Int × Unit))))))) × Unit))) × Unit)) := [([0], z8k N)]

theorem ze2 (N : Nat) (x : z1v [(0, .box (.pair (.own (.pair .str (.pair (.int .i64) (.pair (.int .i64) .unit)))) (.pair (.int .i64) (.pair (.mp (.pair .str (.pair .str .unit)) (.pair (.int .i64) (.pair (.int .i64) (.pair (.int .i64) (.pair (.int .i64) .unit))))) .unit)))), (0, .v (.int .i64))]) : zbu (z3i N) N (z9q N) z5y Go.Proofs.Try.f10 (mkS [(0, .box (.pair (.own (.pair .str (.pair (.int .i64) (.pair (.int .i64) .unit)))) (.pair (.int .i64) (.pair (.mp (.pair .str (.pair .str .unit)) (.pair (.int .i64) (.pair (.int .i64) (.pair (.int .i64) (.pair (.int .i64) .unit))))) .unit)))), (0, .v (.int .i64))] 0 x) (zr2 (.tup []) [(0, .box (.pair (.own (.pair .str (.pair (.int .i64) (.pair (.int .i64) .unit)))) (.pair (.int .i64) (.pair (.mp (.pair .str (.pair .str .unit)) (.pair (.int .i64) (.pair (.int .i64) (.pair (.int .i64) (.pair (.int .i64) .unit))))) .unit))))] 1) = z3a N x.1 x.2.1 := by kernel_rfl

def z7p (N : Nat) : List A -> Res := z1w [(0, .box (.pair (.own (.pair .str (.pair (.int .i64) (.pair (.int .i64) .unit)))) (.pair (.int .i64) (.pair (.mp (.pair .str (.pair .str .unit)) (.pair (.int .i64) (.pair (.int .i64) (.pair (.int .i64) (.pair (.int .i64) .unit))))) .unit)))), (0, .v (.int .i64))] (fun x => z3a N x.1 x.2.1) (zuy (.tup []) [(0, .box (.pair (.own (.pair .str (.pair (.int .i64) (.pair (.int .i64) .unit)))) (.pair (.int .i64) (.pair (.mp (.pair .str (.pair .str .unit)) (.pair (.int .i64) (.pair (.int .i64) (.pair (.int .i64) (.pair (.int .i64) .unit))))) .unit))))] 1)

theorem zgn (N : Nat) : Contract Go.Proofs.Try.prog zj 10 (z7p N) :=
  Contract.of (E := z3i N) (H := z9q N) (L := z5y) (N := N) (body := z3t) (K := (zr2 (.tup []) [(0, .box (.pair (.own (.pair .str (.pair (.int .i64) (.pair (.int .i64) .unit)))) (.pair (.int .i64) (.pair (.mp (.pair .str (.pair .str .unit)) (.pair (.int .i64) (.pair (.int .i64) (.pair (.int .i64) (.pair (.int .i64) .unit))))) .unit))))] 1)) (zfn N) Go.Proofs.Try.func10 (by kernel_rfl) (by decide) (fun _ hb => (TabOk.cons (zfm hb) TabOk.nil)) (fun x y h => by rw [ze2]; exact h) (zpl (s := (.tup [])) (os := [(0, .box (.pair (.own (.pair .str (.pair (.int .i64) (.pair (.int .i64) .unit)))) (.pair (.int .i64) (.pair (.mp (.pair .str (.pair .str .unit)) (.pair (.int .i64) (.pair (.int .i64) (.pair (.int .i64) (.pair (.int .i64) .unit))))) .unit))))]) (m := 1))

def z2i : Code := (Go.Proofs.Try.f10.body).getD .skip

def z3g : List (List Nat × List Nat) := [([0], [9, 0, 1]), ([1], []), ([0, 0, 1], [0]), ([1, 0, 1], [])]

def z2b (N : Nat) : Env := z42 tys zj [(16, z3o N), (21, z1m N)] [] [] [] false [] []

theorem zax (N : Nat) : EnvOk Go.Proofs.Try.prog (z2b N) := z11 mixed z1x (FnsOk.cons (z6p N) (FnsOk.cons (z1u N) (FnsOk.nil))) (ItsOk.nil)

def z5v (N : Nat) (now : Int) (k0 : Bool -> Option (Unit)) : Option (Unit) :=
 k0 false

def z5x (N : Nat) (x : z1v [(0, .nilp), (0, .v (.int .i64))]) (K : Ex -> List A -> Option (Unit)) : Option (Unit) :=
 z5v N x.2.1 (fun a1 => (K .normal (mkS [(0, .nilp), (0, .v (.int .i64)), (7, .v .bool)] 8 ((), x.2.1, a1, ()))))

def z5w (N : Nat) : Hd (Unit) := fun st K => (unS [(0, .nilp), (0, .v (.int .i64))] 16 (restr [0, 1] 0 st)).bind fun x => z5x N x K

def zc9 (N : Nat) : Tab (Unit) := []

theorem zaw {N : Nat} {c : Ctx} (hb : Base Go.Proofs.Try.prog (z2b N) c) : zu Go.Proofs.Try.prog c (ze z2i [0]) (z5w N) :=
  zq (s := [(0, .nilp), (0, .v (.int .i64))]) (m := 16) (g := z5x N) [0, 1] (z9 hb N (zc9 N) z3g z2i TabOk.nil [0] _ rfl) (fun x K => by kernel_rfl)

def z4b (N : Nat) (now : Int) : Option (Unit) :=
 z5v N now
 (fun x9 => cond x9
 (none)
 (some ()))

def z6b (N : Nat) : Tab (Unit) := [([0], z5w N)]

theorem z9z (N : Nat) (x : z1v [(0, .nilp), (0, .v (.int .i64))]) : zbu (z2b N) N (z6b N) z3g Go.Proofs.Try.f10 (mkS [(0, .nilp), (0, .v (.int .i64))] 0 x) (z4p (.tup []) 2) = z4b N x.2.1 := by kernel_rfl

def zav (N : Nat) : List A -> Res := z1w [(0, .nilp), (0, .v (.int .i64))] (fun x => z4b N x.2.1) (zaf (.tup []) 2)

theorem zca (N : Nat) : Contract Go.Proofs.Try.prog zj 10 (zav N) :=
  Contract.of (E := z2b N) (H := z6b N) (L := z3g) (N := N) (body := z2i) (K := (z4p (.tup []) 2)) (zax N) Go.Proofs.Try.func10 (by kernel_rfl) (by decide) (fun _ hb => (TabOk.cons (zaw hb) TabOk.nil)) (fun x y h => by rw [z9z]; exact h) (z1h (s := (.tup [])) (m := 2))

def z59 (N : Nat) : List A -> Res := zo6 [(0, .nilp), (0, .v (.int .i64))] (fun x => z4b N x.2.1) (zaf (.tup []) 2) (z7p N)

theorem z9i (N : Nat) : Contract Go.Proofs.Try.prog zj 10 (z59 N) := Contract.alt (zca N) (zgn N)

def zid : Code := (Go.Proofs.Try.f36.body).getD .skip

def zex : List (List Nat × List Nat) := [([0], [0]), ([0, 1], [2]), ([1, 1], [2])]

def z9g (N : Nat) : Env := z42 tys zj [] [] [] [] false [] []

theorem zjo (N : Nat) : EnvOk Go.Proofs.Try.prog (z9g N) := z11 mixed z1x (FnsOk.nil) (ItsOk.nil)

def z38 (N : Nat) (n : Int) : Option Bool :=
 cond (decide ((0 : Int) <= n))
 (some (decide (n <= (1099511627776 : Int))))
 (some false)

def zew (N : Nat) : Tab Bool := []

theorem zic (N : Nat) (x : z1v [(0, .v (.int .i64))]) : zbu (z9g N) N (zew N) zex Go.Proofs.Try.f36 (mkS [(0, .v (.int .i64))] 0 x) (z4p (.v .bool) 1) = z38 N x.1 := by kernel_rfl

def zbt (N : Nat) : List A -> Res := z1w [(0, .v (.int .i64))] (fun x => z38 N x.1) (zaf (.v .bool) 1)

theorem zkt (N : Nat) : Contract Go.Proofs.Try.prog zj 36 (zbt N) :=
  Contract.of (E := z9g N) (H := zew N) (L := zex) (N := N) (body := zid) (K := (z4p (.v .bool) 1)) (zjo N) Go.Proofs.Try.func36 (by kernel_rfl) (by decide) (fun _ hb => TabOk.nil) (fun x y h => by rw [zic]; exact h) (z1h (s := (.v .bool)) (m := 1))

def zjq : Code := (Go.Proofs.Try.f32.body).getD .skip

def zge : List (List Nat × List Nat) := [([0], [1]), ([0, 1], [2]), ([1, 1], [2])]

def zac (N : Nat) : Env := z42 tys zj [(36, zbt N)] [] [] [] false [] []

theorem zkv (N : Nat) : EnvOk Go.Proofs.Try.prog (zac N) := z11 mixed z1x (FnsOk.cons (zkt N) (FnsOk.nil)) (ItsOk.nil)

def z5r (N : Nat) (b : (Int × (Int × (Int × (Int × Unit))))) : Option Bool :=
 (z38 N b.1).bind fun y =>
 cond y
 ((z38 N b.2.1).bind fun y1 =>
 cond y1
 ((z38 N b.2.2.2.1).bind fun y2 =>
 cond y2
 (cond (decide ((0 : Int) <= b.2.2.1))
 (some (decide (b.2.2.1 <= b.1)))
 (some false))
 (some false))
 (some false))
 (some false)

def zgd (N : Nat) : Tab Bool := []

theorem zjp (N : Nat) (x : z1v [(0, .v (.pair (.int .i64) (.pair (.int .i64) (.pair (.int .i64) (.pair (.int .i64) .unit)))))]) : zbu (zac N) N (zgd N) zge Go.Proofs.Try.f32 (mkS [(0, .v (.pair (.int .i64) (.pair (.int .i64) (.pair (.int .i64) (.pair (.int .i64) .unit)))))] 0 x) (z4p (.v .bool) 1) = z5r N x.1 := by kernel_rfl

def z7o (N : Nat) : List A -> Res := z1w [(0, .v (.pair (.int .i64) (.pair (.int .i64) (.pair (.int .i64) (.pair (.int .i64) .unit)))))] (fun x => z5r N x.1) (zaf (.v .bool) 1)

theorem zez (N : Nat) : Contract Go.Proofs.Try.prog zj 32 (z7o N) :=
  Contract.of (E := zac N) (H := zgd N) (L := zge) (N := N) (body := zjq) (K := (z4p (.v .bool) 1)) (zkv N) Go.Proofs.Try.func32 (by kernel_rfl) (by decide) (fun _ hb => TabOk.nil) (fun x y h => by rw [zjp]; exact h) (z1h (s := (.v .bool)) (m := 1))

def z2f : Code := (Go.Proofs.Try.f37.body).getD .skip

def z5s : List (List Nat × List Nat) := [([0], [0, 1]), ([0, 0, 1], [18, 0, 1]), ([1, 0, 1], [0, 1]), ([0, 0, 1, 0, 1], [4]), ([1, 0, 1, 0, 1], [4]), ([0, 1, 1], [4]), ([1, 1, 1], [4])]

def z3m (N : Nat) : Env := z42 tys zj [] [] [] [] false [] []

theorem zin (N : Nat) : EnvOk Go.Proofs.Try.prog (z3m N) := z11 mixed z1x (FnsOk.nil) (ItsOk.nil)

def z7g (N : Nat) (a : Int) (b : Int) (k0 : Bool -> Option Bool) : Option Bool :=
 cond (a == (-(9223372036854775808 : Int)))
 (cond (b == (-(1 : Int)))
 (k0 true)
 (cond (b == (-(9223372036854775808 : Int)))
 (k0 (a == (-(1 : Int))))
 (k0 false)))
 (cond (b == (-(9223372036854775808 : Int)))
 (k0 (a == (-(1 : Int))))
 (k0 false))

def zcx (N : Nat) (x : z1v [(0, .v (.int .i64)), (0, .v (.int .i64))]) (K : Ex -> List A -> Option Bool) : Option Bool :=
 z7g N x.1 x.2.1 (fun a2 => (K .normal (mkS [(0, .v (.int .i64)), (0, .v (.int .i64)), (16, .v .bool)] 7 (x.1, x.2.1, a2, ()))))

def zcv (N : Nat) : Hd Bool := fun st K => (unS [(0, .v (.int .i64)), (0, .v (.int .i64))] 24 (restr [0, 1] 0 st)).bind fun x => zcx N x K

def zkf (N : Nat) : Tab Bool := []

theorem zil {N : Nat} {c : Ctx} (hb : Base Go.Proofs.Try.prog (z3m N) c) : zu Go.Proofs.Try.prog c (ze z2f [0, 0, 1]) (zcv N) :=
  zq (s := [(0, .v (.int .i64)), (0, .v (.int .i64))]) (m := 24) (g := zcx N) [0, 1] (z9 hb N (zkf N) z5s z2f TabOk.nil [0, 0, 1] _ rfl) (fun x K => by kernel_rfl)

def z7h (N : Nat) (a : Int) (b : Int) (k0 : Bool -> Option Bool) (k1 : Option Bool) : Option Bool :=
 z7g N a b
 (fun x18 => cond x18
 (k0 true)
 (k1))

def zcy (N : Nat) (x : z1v [(0, .v (.int .i64)), (0, .v (.int .i64))]) (K : Ex -> List A -> Option Bool) : Option Bool :=
 z7h N x.1 x.2.1 (fun a0 => (K .ret (mkS [(4, .v .bool)] 21 (a0, ())))) (K .normal (mkS [(0, .v (.int .i64)), (0, .v (.int .i64))] 24 (x.1, x.2.1, ())))

def zcw (N : Nat) : Hd Bool := fun st K => (unS [(0, .v (.int .i64)), (0, .v (.int .i64))] 24 (restr [0, 1] 0 st)).bind fun x => zcy N x K

def zkg (N : Nat) : Tab Bool := [([0, 0, 1], zcv N)]

theorem zim {N : Nat} {c : Ctx} (hb : Base Go.Proofs.Try.prog (z3m N) c) : zu Go.Proofs.Try.prog c (ze z2f [0, 1]) (zcw N) :=
  zq (s := [(0, .v (.int .i64)), (0, .v (.int .i64))]) (m := 24) (g := zcy N) [0, 1] (z9 hb N (zkg N) z5s z2f (TabOk.cons (zil hb) TabOk.nil) [0, 1] _ rfl) (fun x K => by kernel_rfl)

def z5t (N : Nat) (a : Int) (b : Int) : Option Bool :=
 z7h N a b
 (fun x4 => some x4)
 (cond (b == (0 : Int))
 (none)
 (some ((Go.IntKind.wrap Go.IntKind.i64 (Int.tdiv (Go.IntKind.wrap Go.IntKind.i64 (a * b)) b)) != a)))

def zdu (N : Nat) : Tab Bool := [([0, 1], zcw N)]

theorem zh8 (N : Nat) (x : z1v [(0, .v (.int .i64)), (0, .v (.int .i64))]) : zbu (z3m N) N (zdu N) z5s Go.Proofs.Try.f37 (mkS [(0, .v (.int .i64)), (0, .v (.int .i64))] 0 x) (z4p (.v .bool) 2) = z5t N x.1 x.2.1 := by kernel_rfl

def zai (N : Nat) : List A -> Res := z1w [(0, .v (.int .i64)), (0, .v (.int .i64))] (fun x => z5t N x.1 x.2.1) (zaf (.v .bool) 2)

theorem zkh (N : Nat) : Contract Go.Proofs.Try.prog zj 37 (zai N) :=
  Contract.of (E := z3m N) (H := zdu N) (L := z5s) (N := N) (body := z2f) (K := (z4p (.v .bool) 2)) (zin N) Go.Proofs.Try.func37 (by kernel_rfl) (by decide) (fun _ hb => (TabOk.cons (zim hb) TabOk.nil)) (fun x y h => by rw [zh8]; exact h) (z1h (s := (.v .bool)) (m := 2))

def zqc : Code := (Go.Proofs.Try.f38.body).getD .skip

def zqd : List (List Nat × List Nat) := [([0], [0]), ([0, 0, 1], [3]), ([1, 0, 1], []), ([0, 0, 1, 0, 1], [2]), ([1, 0, 1, 0, 1], [2]), ([0, 1, 1], [2]), ([1, 1, 1], [2])]

def zld (N : Nat) : Env := z42 tys zj [] [] [] [] false [] []

theorem zrv (N : Nat) : EnvOk Go.Proofs.Try.prog (zld N) := z11 mixed z1x (FnsOk.nil) (ItsOk.nil)

def zp0 (N : Nat) (negative : Bool) : Option Int :=
 cond negative
 (some (-(9223372036854775808 : Int)))
 (some (9223372036854775807 : Int))

def zqa (N : Nat) : Tab Int := []

theorem zqb (N : Nat) (x : z1v [(0, .v .bool)]) : zbu (zld N) N (zqa N) zqd Go.Proofs.Try.f38 (mkS [(0, .v .bool)] 0 x) (z4p (.v (.int .i64)) 1) = zp0 N x.1 := by kernel_rfl

def zlc (N : Nat) : List A -> Res := z1w [(0, .v .bool)] (fun x => zp0 N x.1) (zaf (.v (.int .i64)) 1)

theorem zud (N : Nat) : Contract Go.Proofs.Try.prog zj 38 (zlc N) :=
  Contract.of (E := zld N) (H := zqa N) (L := zqd) (N := N) (body := zqc) (K := (z4p (.v (.int .i64)) 1)) (zrv N) Go.Proofs.Try.func38 (by kernel_rfl) (by decide) (fun _ hb => TabOk.nil) (fun x y h => by rw [zqb]; exact h) (z1h (s := (.v (.int .i64))) (m := 1))

def z6u : Code := (Go.Proofs.Try.f34.body).getD .skip

def zh9 : List (List Nat × List Nat) := [([0], [0, 1]), ([0, 0, 1], [10, 0, 1]), ([1, 0, 1], [0, 1]), ([0, 0, 1, 0, 1], [4]), ([1, 0, 1, 0, 1], [4]), ([0, 0, 1, 1], [13, 0, 1]), ([1, 0, 1, 1], [0, 1]), ([0, 0, 1, 0, 1, 1], [4]), ([1, 0, 1, 0, 1, 1], [4]), ([0, 1, 1, 1], [4]), ([1, 1, 1, 1], [4])]

def zdv (N : Nat) : Env := z42 tys zj [(38, zlc N), (37, zai N)] [] [] [] false [] []

theorem zry (N : Nat) : EnvOk Go.Proofs.Try.prog (zdv N) := z11 mixed z1x (FnsOk.cons (zud N) (FnsOk.cons (zkh N) (FnsOk.nil))) (ItsOk.nil)

def zio (N : Nat) (a : Int) (b : Int) (k0 : Bool -> Option Int) : Option Int :=
 cond (a == (0 : Int))
 (k0 true)
 (k0 (b == (0 : Int)))

def znw (N : Nat) (x : z1v [(0, .v (.int .i64)), (0, .v (.int .i64))]) (K : Ex -> List A -> Option Int) : Option Int :=
 zio N x.1 x.2.1 (fun a2 => (K .normal (mkS [(0, .v (.int .i64)), (0, .v (.int .i64)), (8, .v .bool)] 12 (x.1, x.2.1, a2, ()))))

def znu (N : Nat) : Hd Int := fun st K => (unS [(0, .v (.int .i64)), (0, .v (.int .i64))] 21 (restr [0, 1] 0 st)).bind fun x => znw N x K

def zue (N : Nat) : Tab Int := []

theorem zrw {N : Nat} {c : Ctx} (hb : Base Go.Proofs.Try.prog (zdv N) c) : zu Go.Proofs.Try.prog c (ze z6u [0, 0, 1]) (znu N) :=
  zq (s := [(0, .v (.int .i64)), (0, .v (.int .i64))]) (m := 21) (g := znw N) [0, 1] (z9 hb N (zue N) zh9 z6u TabOk.nil [0, 0, 1] _ rfl) (fun x K => by kernel_rfl)

def ziq (N : Nat) (a : Int) (b : Int) (k0 : Int -> Option Int) (k1 : Option Int) : Option Int :=
 zio N a b
 (fun x10 => cond x10
 (k0 (0 : Int))
 (k1))

def znx (N : Nat) (x : z1v [(0, .v (.int .i64)), (0, .v (.int .i64))]) (K : Ex -> List A -> Option Int) : Option Int :=
 ziq N x.1 x.2.1 (fun a0 => (K .ret (mkS [(4, .v (.int .i64))] 18 (a0, ())))) (K .normal (mkS [(0, .v (.int .i64)), (0, .v (.int .i64))] 21 (x.1, x.2.1, ())))

def znv (N : Nat) : Hd Int := fun st K => (unS [(0, .v (.int .i64)), (0, .v (.int .i64))] 21 (restr [0, 1] 0 st)).bind fun x => znx N x K

def zuf (N : Nat) : Tab Int := [([0, 0, 1], znu N)]

theorem zrx {N : Nat} {c : Ctx} (hb : Base Go.Proofs.Try.prog (zdv N) c) : zu Go.Proofs.Try.prog c (ze z6u [0, 1]) (znv N) :=
  zq (s := [(0, .v (.int .i64)), (0, .v (.int .i64))]) (m := 21) (g := znx N) [0, 1] (z9 hb N (zuf N) zh9 z6u (TabOk.cons (zrw hb) TabOk.nil) [0, 1] _ rfl) (fun x K => by kernel_rfl)

def zlf (N : Nat) (a : Int) (b : Int) : Option Int :=
 ziq N a b
 (fun x4 => some x4)
 ((z5t N a b).bind fun y =>
 cond y
 ((zp0 N (!((decide (a < (0 : Int))) == (decide (b < (0 : Int)))))).bind fun y1 =>
 some y1)
 (some (Go.IntKind.wrap Go.IntKind.i64 (a * b))))

def zqe (N : Nat) : Tab Int := [([0, 1], znv N)]

theorem zqf (N : Nat) (x : z1v [(0, .v (.int .i64)), (0, .v (.int .i64))]) : zbu (zdv N) N (zqe N) zh9 Go.Proofs.Try.f34 (mkS [(0, .v (.int .i64)), (0, .v (.int .i64))] 0 x) (z4p (.v (.int .i64)) 2) = zlf N x.1 x.2.1 := by kernel_rfl

def zle (N : Nat) : List A -> Res := z1w [(0, .v (.int .i64)), (0, .v (.int .i64))] (fun x => zlf N x.1 x.2.1) (zaf (.v (.int .i64)) 2)

theorem zug (N : Nat) : Contract Go.Proofs.Try.prog zj 34 (zle N) :=
  Contract.of (E := zdv N) (H := zqe N) (L := zh9) (N := N) (body := z6u) (K := (z4p (.v (.int .i64)) 2)) (zry N) Go.Proofs.Try.func34 (by kernel_rfl) (by decide) (fun _ hb => (TabOk.cons (zrx hb) TabOk.nil)) (fun x y h => by rw [zqf]; exact h) (z1h (s := (.v (.int .i64))) (m := 2))

def z2g : Code := (Go.Proofs.Try.f33.body).getD .skip

def zaj : List (List Nat × List Nat) := [([0], [1, 0]), ([0, 0, 1], [12, 1, 0]), ([1, 0, 1], [1, 0]), ([0, 0, 1, 0, 1], [4]), ([1, 0, 1, 0, 1], [4]), ([0, 0, 1, 1], [20, 0, 1]), ([1, 0, 1, 1], [0, 1]), ([0, 0, 1, 0, 1, 1], [4]), ([1, 0, 1, 0, 1, 1], [4]), ([0, 1, 1, 1], [4]), ([1, 1, 1, 1], [4])]

def z8b (N : Nat) : Env := z42 tys zj [] [] [] [] false [] []

theorem zs3 (N : Nat) : EnvOk Go.Proofs.Try.prog (z8b N) := z11 mixed z1x (FnsOk.nil) (ItsOk.nil)

def zit (N : Nat) (a : Int) (b : Int) (k0 : Bool -> Option Int) : Option Int :=
 cond (decide ((0 : Int) < b))
 (k0 (decide ((Go.IntKind.wrap Go.IntKind.i64 ((9223372036854775807 : Int) - b)) < a)))
 (k0 false)

def zo4 (N : Nat) (x : z1v [(0, .v (.int .i64)), (0, .v (.int .i64))]) (K : Ex -> List A -> Option Int) : Option Int :=
 zit N x.1 x.2.1 (fun a2 => (K .normal (mkS [(0, .v (.int .i64)), (0, .v (.int .i64)), (10, .v .bool)] 11 (x.1, x.2.1, a2, ()))))

def zo0 (N : Nat) : Hd Int := fun st K => (unS [(0, .v (.int .i64)), (0, .v (.int .i64))] 22 (restr [1, 0] 0 st)).bind fun x => zo4 N x K

def zuj (N : Nat) : Tab Int := []

theorem zs1 {N : Nat} {c : Ctx} (hb : Base Go.Proofs.Try.prog (z8b N) c) : zu Go.Proofs.Try.prog c (ze z2g [0, 0, 1]) (zo0 N) :=
  zq (s := [(0, .v (.int .i64)), (0, .v (.int .i64))]) (m := 22) (g := zo4 N) [1, 0] (z9 hb N (zuj N) zaj z2g TabOk.nil [0, 0, 1] _ rfl) (fun x K => by kernel_rfl)

def ziu (N : Nat) (a : Int) (b : Int) (k0 : Int -> Option Int) (k1 : Option Int) : Option Int :=
 zit N a b
 (fun x12 => cond x12
 (k0 (9223372036854775807 : Int))
 (k1))

def zo5 (N : Nat) (x : z1v [(0, .v (.int .i64)), (0, .v (.int .i64))]) (K : Ex -> List A -> Option Int) : Option Int :=
 ziu N x.1 x.2.1 (fun a0 => (K .ret (mkS [(4, .v (.int .i64))] 19 (a0, ())))) (K .normal (mkS [(0, .v (.int .i64)), (0, .v (.int .i64))] 22 (x.1, x.2.1, ())))

def zo1 (N : Nat) : Hd Int := fun st K => (unS [(0, .v (.int .i64)), (0, .v (.int .i64))] 22 (restr [1, 0] 0 st)).bind fun x => zo5 N x K

def zuk (N : Nat) : Tab Int := [([0, 0, 1], zo0 N)]

theorem zs2 {N : Nat} {c : Ctx} (hb : Base Go.Proofs.Try.prog (z8b N) c) : zu Go.Proofs.Try.prog c (ze z2g [0, 1]) (zo1 N) :=
  zq (s := [(0, .v (.int .i64)), (0, .v (.int .i64))]) (m := 22) (g := zo5 N) [1, 0] (z9 hb N (zuk N) zaj z2g (TabOk.cons (zs1 hb) TabOk.nil) [0, 1] _ rfl) (fun x K => by kernel_rfl)

def zir (N : Nat) (a : Int) (b : Int) (k0 : Bool -> Option Int) : Option Int :=
 cond (decide (b < (0 : Int)))
 (k0 (decide (a < (Go.IntKind.wrap Go.IntKind.i64 ((-(9223372036854775808 : Int)) - b)))))
 (k0 false)

def zo2 (N : Nat) (x : z1v [(0, .v (.int .i64)), (0, .v (.int .i64))]) (K : Ex -> List A -> Option Int) : Option Int :=
 zir N x.1 x.2.1 (fun a2 => (K .normal (mkS [(0, .v (.int .i64)), (0, .v (.int .i64)), (18, .v .bool)] 3 (x.1, x.2.1, a2, ()))))

def zny (N : Nat) : Hd Int := fun st K => (unS [(0, .v (.int .i64)), (0, .v (.int .i64))] 22 (restr [1, 0] 0 st)).bind fun x => zo2 N x K

def zuh (N : Nat) : Tab Int := []

theorem zrz {N : Nat} {c : Ctx} (hb : Base Go.Proofs.Try.prog (z8b N) c) : zu Go.Proofs.Try.prog c (ze z2g [0, 0, 1, 1]) (zny N) :=
  zq (s := [(0, .v (.int .i64)), (0, .v (.int .i64))]) (m := 22) (g := zo2 N) [1, 0] (z9 hb N (zuh N) zaj z2g TabOk.nil [0, 0, 1, 1] _ rfl) (fun x K => by kernel_rfl)

def zis (N : Nat) (a : Int) (b : Int) (k0 : Int -> Option Int) (k1 : Option Int) : Option Int :=
 zir N a b
 (fun x20 => cond x20
 (k0 (-(9223372036854775808 : Int)))
 (k1))

def zo3 (N : Nat) (x : z1v [(0, .v (.int .i64)), (0, .v (.int .i64))]) (K : Ex -> List A -> Option Int) : Option Int :=
 zis N x.1 x.2.1 (fun a0 => (K .ret (mkS [(4, .v (.int .i64))] 19 (a0, ())))) (K .normal (mkS [(0, .v (.int .i64)), (0, .v (.int .i64))] 22 (x.1, x.2.1, ())))

def znz (N : Nat) : Hd Int := fun st K => (unS [(0, .v (.int .i64)), (0, .v (.int .i64))] 22 (restr [1, 0] 0 st)).bind fun x => zo3 N x K

def zui (N : Nat) : Tab Int := [([0, 0, 1, 1], zny N)]

theorem zs0 {N : Nat} {c : Ctx} (hb : Base Go.Proofs.Try.prog (z8b N) c) : zu Go.Proofs.Try.prog c (ze z2g [0, 1, 1]) (znz N) :=
  zq (s := [(0, .v (.int .i64)), (0, .v (.int .i64))]) (m := 22) (g := zo3 N) [1, 0] (z9 hb N (zui N) zaj z2g (TabOk.cons (zrz hb) TabOk.nil) [0, 1, 1] _ rfl) (fun x K => by kernel_rfl)

def zlh (N : Nat) (a : Int) (b : Int) : Option Int :=
 ziu N a b
 (fun x4 => some x4)
 (zis N a b
 (fun x41 => some x41)
 (some (Go.IntKind.wrap Go.IntKind.i64 (a + b))))

def zqg (N : Nat) : Tab Int := [([0, 1], zo1 N), ([0, 1, 1], znz N)]

theorem zqh (N : Nat) (x : z1v [(0, .v (.int .i64)), (0, .v (.int .i64))]) : zbu (z8b N) N (zqg N) zaj Go.Proofs.Try.f33 (mkS [(0, .v (.int .i64)), (0, .v (.int .i64))] 0 x) (z4p (.v (.int .i64)) 2) = zlh N x.1 x.2.1 := by kernel_rfl

def zlg (N : Nat) : List A -> Res := z1w [(0, .v (.int .i64)), (0, .v (.int .i64))] (fun x => zlh N x.1 x.2.1) (zaf (.v (.int .i64)) 2)

theorem zul (N : Nat) : Contract Go.Proofs.Try.prog zj 33 (zlg N) :=
  Contract.of (E := z8b N) (H := zqg N) (L := zaj) (N := N) (body := z2g) (K := (z4p (.v (.int .i64)) 2)) (zs3 N) Go.Proofs.Try.func33 (by kernel_rfl) (by decide) (fun _ hb => (TabOk.cons (zs2 hb) (TabOk.cons (zs0 hb) TabOk.nil))) (fun x y h => by rw [zqh]; exact h) (z1h (s := (.v (.int .i64))) (m := 2))

def z4n : Code := (Go.Proofs.Try.f24.body).getD .skip

def zcu : List (List Nat × List Nat) := [([0], [2, 1, 4]), ([0, 0, 1], [18, 2, 4, 1]), ([1, 0, 1], [2, 1, 4]), ([0, 0, 1, 0, 1], [4]), ([1, 0, 1, 0, 1], [4]), ([0, 1, 1], [5, 2, 1, 4]), ([0, 1, 1, 1], [2, 4]), ([0, 1, 1, 1, 1], [4]), ([1, 1, 1, 1, 1], [4])]

def z9h (N : Nat) : Env := z42 tys zj [(33, zlg N), (34, zle N), (32, z7o N)] [] [] [] false [] []

theorem zpw (N : Nat) : EnvOk Go.Proofs.Try.prog (z9h N) := z11 mixed z1x (FnsOk.cons (zul N) (FnsOk.cons (zug N) (FnsOk.cons (zez N) (FnsOk.nil)))) (ItsOk.nil)

def zf1 (N : Nat) (now : Int) (b : (Int × (Int × (Int × (Int × Unit))))) (x4 : (Int × (Int × (Int × (Int × Unit))))) (k0 : Bool -> Option (Int × (Int × (Int × (Int × Unit))))) : Option (Int × (Int × (Int × (Int × Unit)))) :=
 (z5r N b).bind fun y =>
 cond (!y)
 (k0 true)
 (cond (decide (now <= b.2.2.2.1))
 (k0 true)
 (k0 (decide ((1099511627776 : Int) < now))))

def zkc (N : Nat) (x : z1v [(1, .v (.int .i64)), (0, .box (.pair (.int .i64) (.pair (.int .i64) (.pair (.int .i64) (.pair (.int .i64) .unit))))), (1, .box (.pair (.int .i64) (.pair (.int .i64) (.pair (.int .i64) (.pair (.int .i64) .unit)))))]) (K : Ex -> List A -> Option (Int × (Int × (Int × (Int × Unit))))) : Option (Int × (Int × (Int × (Int × Unit)))) :=
 zf1 N x.1 x.2.1 x.2.2.1 (fun a3 => (K .normal (mkS [(1, .v (.int .i64)), (0, .box (.pair (.int .i64) (.pair (.int .i64) (.pair (.int .i64) (.pair (.int .i64) .unit))))), (1, .box (.pair (.int .i64) (.pair (.int .i64) (.pair (.int .i64) (.pair (.int .i64) .unit))))), (13, .v .bool)] 19 (x.1, x.2.1, x.2.2.1, a3, ()))))

def zka (N : Nat) : Hd (Int × (Int × (Int × (Int × Unit)))) := fun st K => (unS [(1, .v (.int .i64)), (0, .box (.pair (.int .i64) (.pair (.int .i64) (.pair (.int .i64) (.pair (.int .i64) .unit))))), (1, .box (.pair (.int .i64) (.pair (.int .i64) (.pair (.int .i64) (.pair (.int .i64) .unit)))))] 33 (restr [2, 1, 4] 0 st)).bind fun x => zkc N x K

def zro (N : Nat) : Tab (Int × (Int × (Int × (Int × Unit)))) := []

theorem zpu {N : Nat} {c : Ctx} (hb : Base Go.Proofs.Try.prog (z9h N) c) : zu Go.Proofs.Try.prog c (ze z4n [0, 0, 1]) (zka N) :=
  zq (s := [(1, .v (.int .i64)), (0, .box (.pair (.int .i64) (.pair (.int .i64) (.pair (.int .i64) (.pair (.int .i64) .unit))))), (1, .box (.pair (.int .i64) (.pair (.int .i64) (.pair (.int .i64) (.pair (.int .i64) .unit)))))]) (m := 33) (g := zkc N) [2, 1, 4] (z9 hb N (zro N) zcu z4n TabOk.nil [0, 0, 1] _ rfl) (fun x K => by kernel_rfl)

def zf2 (N : Nat) (now : Int) (b : (Int × (Int × (Int × (Int × Unit))))) (x4 : (Int × (Int × (Int × (Int × Unit))))) (k0 : Option (Int × (Int × (Int × (Int × Unit))))) (k1 : Option (Int × (Int × (Int × (Int × Unit))))) : Option (Int × (Int × (Int × (Int × Unit)))) :=
 zf1 N now b x4
 (fun x18 => cond x18
 (k0)
 (k1))

def zkd (N : Nat) (x : z1v [(1, .v (.int .i64)), (0, .box (.pair (.int .i64) (.pair (.int .i64) (.pair (.int .i64) (.pair (.int .i64) .unit))))), (1, .box (.pair (.int .i64) (.pair (.int .i64) (.pair (.int .i64) (.pair (.int .i64) .unit)))))]) (K : Ex -> List A -> Option (Int × (Int × (Int × (Int × Unit))))) : Option (Int × (Int × (Int × (Int × Unit)))) :=
 zf2 N x.1 x.2.1 x.2.2.1 (K .ret (mkS [(4, .box (.pair (.int .i64) (.pair (.int .i64) (.pair (.int .i64) (.pair (.int .i64) .unit)))))] 33 (x.2.1, ()))) (K .normal (mkS [(1, .v (.int .i64)), (0, .box (.pair (.int .i64) (.pair (.int .i64) (.pair (.int .i64) (.pair (.int .i64) .unit))))), (1, .box (.pair (.int .i64) (.pair (.int .i64) (.pair (.int .i64) (.pair (.int .i64) .unit)))))] 33 (x.1, x.2.1, x.2.2.1, ())))

def zkb (N : Nat) : Hd (Int × (Int × (Int × (Int × Unit)))) := fun st K => (unS [(1, .v (.int .i64)), (0, .box (.pair (.int .i64) (.pair (.int .i64) (.pair (.int .i64) (.pair (.int .i64) .unit))))), (1, .box (.pair (.int .i64) (.pair (.int .i64) (.pair (.int .i64) (.pair (.int .i64) .unit)))))] 33 (restr [2, 1, 4] 0 st)).bind fun x => zkd N x K

def zrp (N : Nat) : Tab (Int × (Int × (Int × (Int × Unit)))) := [([0, 0, 1], zka N)]

theorem zpv {N : Nat} {c : Ctx} (hb : Base Go.Proofs.Try.prog (z9h N) c) : zu Go.Proofs.Try.prog c (ze z4n [0, 1]) (zkb N) :=
  zq (s := [(1, .v (.int .i64)), (0, .box (.pair (.int .i64) (.pair (.int .i64) (.pair (.int .i64) (.pair (.int .i64) .unit))))), (1, .box (.pair (.int .i64) (.pair (.int .i64) (.pair (.int .i64) (.pair (.int .i64) .unit)))))]) (m := 33) (g := zkd N) [2, 1, 4] (z9 hb N (zrp N) zcu z4n (TabOk.cons (zpu hb) TabOk.nil) [0, 1] _ rfl) (fun x K => by kernel_rfl)

def z4o (N : Nat) (b : (Int × (Int × (Int × (Int × Unit))))) (now : Int) : Option (Int × (Int × (Int × (Int × Unit)))) :=
 zf2 N now b ((0 : Int), ((0 : Int), ((0 : Int), ((0 : Int), ()))))
 (some b)
 ((zlf N b.2.1 (Go.IntKind.wrap Go.IntKind.i64 (now - b.2.2.2.1))).bind fun y =>
 (zlh N b.2.2.1 y).bind fun y1 =>
 some (b.1, (b.2.1, ((if (b.1 < y1) then b.1 else y1), (now, b.2.2.2.2)))))

def zmv (N : Nat) : Tab (Int × (Int × (Int × (Int × Unit)))) := [([0, 1], zkb N)]

theorem znn (N : Nat) (x : z1v [(0, .v (.pair (.int .i64) (.pair (.int .i64) (.pair (.int .i64) (.pair (.int .i64) .unit))))), (0, .v (.int .i64))]) : zbu (z9h N) N (zmv N) zcu Go.Proofs.Try.f24 (mkS [(0, .v (.pair (.int .i64) (.pair (.int .i64) (.pair (.int .i64) (.pair (.int .i64) .unit))))), (0, .v (.int .i64))] 0 x) (z4p (.v (.pair (.int .i64) (.pair (.int .i64) (.pair (.int .i64) (.pair (.int .i64) .unit))))) 2) = z4o N x.1 x.2.1 := by kernel_rfl

def zct (N : Nat) : List A -> Res := z1w [(0, .v (.pair (.int .i64) (.pair (.int .i64) (.pair (.int .i64) (.pair (.int .i64) .unit))))), (0, .v (.int .i64))] (fun x => z4o N x.1 x.2.1) (zaf (.v (.pair (.int .i64) (.pair (.int .i64) (.pair (.int .i64) (.pair (.int .i64) .unit))))) 2)

theorem zf3 (N : Nat) : Contract Go.Proofs.Try.prog zj 24 (zct N) :=
  Contract.of (E := z9h N) (H := zmv N) (L := zcu) (N := N) (body := z4n) (K := (z4p (.v (.pair (.int .i64) (.pair (.int .i64) (.pair (.int .i64) (.pair (.int .i64) .unit))))) 2)) (zpw N) Go.Proofs.Try.func24 (by kernel_rfl) (by decide) (fun _ hb => (TabOk.cons (zpv hb) TabOk.nil)) (fun x y h => by rw [znn]; exact h) (z1h (s := (.v (.pair (.int .i64) (.pair (.int .i64) (.pair (.int .i64) (.pair (.int .i64) .unit)))))) (m := 2))

def zkm : Code := (Go.Proofs.Try.f30.body).getD .skip

def zhg : List (List Nat × List Nat) := [([0], [2, 1]), ([0, 1], [3]), ([1, 1], [3])]

def zc2 (N : Nat) : Env := z42 tys zj [] [] [] [] false [] []

theorem zlt (N : Nat) : EnvOk Go.Proofs.Try.prog (zc2 N) := z11 mixed z1x (FnsOk.nil) (ItsOk.nil)

def zlu (N : Nat) (c : ((List UInt8) × (Int × (Int × Unit)))) (x1 : (List UInt8)) : Option Bool :=
 some (c.1 == x1)

def zhf (N : Nat) : Tab Bool := []

theorem zkl (N : Nat) (x : z1v [(0, .v (.pair .str (.pair (.int .i64) (.pair (.int .i64) .unit)))), (0, .v (.ptr .str))]) : zbu (zc2 N) N (zhf N) zhg Go.Proofs.Try.f30 (mkS [(0, .v (.pair .str (.pair (.int .i64) (.pair (.int .i64) .unit)))), (0, .v (.ptr .str))] 0 x) (z4p (.v .bool) 2) = zlu N x.1 x.2.1 := by kernel_rfl

def z8e (N : Nat) : List A -> Res := z1w [(0, .v (.pair .str (.pair (.int .i64) (.pair (.int .i64) .unit)))), (0, .v (.ptr .str))] (fun x => zlu N x.1 x.2.1) (zaf (.v .bool) 2)

theorem zg6 (N : Nat) : Contract Go.Proofs.Try.prog zj 30 (z8e N) :=
  Contract.of (E := zc2 N) (H := zhf N) (L := zhg) (N := N) (body := zkm) (K := (z4p (.v .bool) 2)) (zlt N) Go.Proofs.Try.func30 (by kernel_rfl) (by decide) (fun _ hb => TabOk.nil) (fun x y h => by rw [zkl]; exact h) (z1h (s := (.v .bool)) (m := 2))

def z9c : Code := (Go.Proofs.Try.f29.body).getD .skip

def zes : List (List Nat × List Nat) := [([0], [0, 1]), ([0, 0, 1], [8, 7, 1, 0]), ([0, 1, 0, 1], [8, 7, 1, 0]), ([0, 0, 0, 1, 0, 1], [9, 8, 1, 0, 7]), ([0, 1, 0, 0, 1, 0, 1], [8, 1, 0, 7]), ([1, 0, 1, 0, 0, 1, 0, 1], []), ([0, 0, 0, 1, 1, 0, 0, 1, 0, 1], [1, 0, 5, 8, 7]), ([0, 1, 0, 0, 1, 1, 0, 0, 1, 0, 1], [16, 5, 8, 7, 1, 0]), ([1, 1, 0, 0, 1, 1, 0, 0, 1, 0, 1], [8, 7, 1, 0]), ([0, 0, 1, 1, 0, 0, 1, 1, 0, 0, 1, 0, 1], [4]), ([1, 0, 1, 1, 0, 0, 1, 1, 0, 0, 1, 0, 1], [4]), ([0, 1, 1, 0, 0, 1, 0, 1], [8, 7, 1, 0]), ([1, 1, 1, 0, 0, 1, 0, 1], [8, 7, 1, 0]), ([1, 0, 1], []), ([0, 1, 1], [4]), ([1, 1, 1], [4])]

def z9w (N : Nat) : Env := z42 tys zj [(30, z8e N)] [] [] [] false [] []

theorem znf (N : Nat) : EnvOk Go.Proofs.Try.prog (z9w N) := z11 mixed z1x (FnsOk.cons (zg6 N) (FnsOk.nil)) (ItsOk.nil)

def zcm (N : Nat) (s : (List ((List UInt8) × (Int × (Int × Unit))))) (f : ((List UInt8) × Unit)) (x7 : Int) (x8 : Int) (rec : Int -> Option Int) (k0 : Int -> Option Int) (k1 : Option Int) : Option Int :=
 cond (decide (x8 < x7))
 (cond (Go.Lift.inR x8 (List.length s))
 (cond ((List.getD s (Int.toNat x8) (([] : List UInt8), ((0 : Int), ((0 : Int), ())))).1 == f.1)
 (k0 x8)
 (rec (Go.IntKind.wrap Go.IntKind.i64 (x8 + (1 : Int)))))
 (none))
 (k1)

def zi3 (N : Nat) (s : (List ((List UInt8) × (Int × (Int × Unit))))) (f : ((List UInt8) × Unit)) (x7 : Int) (x8 : Int) (k0 : Int -> Option Int) (k1 : Option Int) : Option Int :=
 iter (fun (v : Int) r => zcm N s f x7 v (fun x8 => (r x8)) k0 k1) N x8

def zi5 (N : Nat) (i : ((List ((List UInt8) × (Int × (Int × Unit)))) × ((List UInt8) × Unit) × Int)) (v : Int) (r : Int -> Option Int) (K : Ex -> List A -> Option Int) : Option Int :=
 zcm N i.1 i.2.1 i.2.2 v (fun x8 => (r x8)) (fun a0 => (K .ret (mkS [(4, .v (.int .i64))] 14 (a0, ())))) (K (.exit 0) (mkS [] 19 ()))

def zi4 (N : Nat) : Hd Int := fun st K => (unS [(0, .v (.sl (.pair .str (.pair (.int .i64) (.pair (.int .i64) .unit))))), (0, .v (.fn 30 (.pair (.ptr .str) .unit))), (5, .v (.int .i64)), (0, .v (.int .i64))] 10 (restr [8, 7, 1, 0] 0 st)).bind fun x => iter (fun v r => zi5 N ((fun x => (x.1, x.2.1, x.2.2.1)) x) v r K) N ((fun x => x.2.2.2.1) x)

def zpm (N : Nat) : Tab Int := []

theorem zne {N : Nat} {c : Ctx} (hb : Base Go.Proofs.Try.prog (z9w N) c) : zu Go.Proofs.Try.prog c (ze z9c [0, 1, 0, 1]) (zi4 N) :=
  zch (s := [(0, .v (.sl (.pair .str (.pair (.int .i64) (.pair (.int .i64) .unit))))), (0, .v (.fn 30 (.pair (.ptr .str) .unit))), (5, .v (.int .i64)), (0, .v (.int .i64))]) (m := 10) (zi5 N) [8, 7, 1, 0] N (fun x => (x.1, x.2.1, x.2.2.1)) (fun x => x.2.2.2.1) (fun i v => (i.1, i.2.1, i.2.2, v, ())) (fun _ => rfl) (z9 hb N (zpm N) zes z9c TabOk.nil [0, 0, 1, 0, 1] _ rfl) (fun i v r K => by kernel_rfl)

def zff (N : Nat) (s : (List ((List UInt8) × (Int × (Int × Unit))))) (f : ((List UInt8) × Unit)) : Option Int :=
 zi3 N s f (((List.length s) : Nat) : Int) (0 : Int)
 (fun x4 => some x4)
 (some (-(1 : Int)))

def zk3 (N : Nat) : Tab Int := [([0, 1, 0, 1], zi4 N)]

theorem zmg (N : Nat) (x : z1v [(0, .v (.sl (.pair .str (.pair (.int .i64) (.pair (.int .i64) .unit))))), (0, .v (.fn 30 (.pair (.ptr .str) .unit)))]) : zbu (z9w N) N (zk3 N) zes Go.Proofs.Try.f29 (mkS [(0, .v (.sl (.pair .str (.pair (.int .i64) (.pair (.int .i64) .unit))))), (0, .v (.fn 30 (.pair (.ptr .str) .unit)))] 0 x) (z4p (.v (.int .i64)) 2) = zff N x.1 x.2.1 := by kernel_rfl

def zg9 (N : Nat) : List A -> Res := z1w [(0, .v (.sl (.pair .str (.pair (.int .i64) (.pair (.int .i64) .unit))))), (0, .v (.fn 30 (.pair (.ptr .str) .unit)))] (fun x => zff N x.1 x.2.1) (zaf (.v (.int .i64)) 2)

theorem zpn (N : Nat) : Contract Go.Proofs.Try.prog zj 29 (zg9 N) :=
  Contract.of (E := z9w N) (H := zk3 N) (L := zes) (N := N) (body := z9c) (K := (z4p (.v (.int .i64)) 2)) (znf N) Go.Proofs.Try.func29 (by kernel_rfl) (by decide) (fun _ hb => (TabOk.cons (zne hb) TabOk.nil)) (fun x y h => by rw [zmg]; exact h) (z1h (s := (.v (.int .i64))) (m := 2))

def zn4 : Code := (Go.Proofs.Try.f19.body).getD .skip

def zls : List (List Nat × List Nat) := [([0], [0, 3]), ([0, 1], [4]), ([1, 1], [4])]

def zgk (N : Nat) : Env := z42 tys zj [(29, zg9 N), (30, z8e N)] [] [] [] false [] []

theorem zp5 (N : Nat) : EnvOk Go.Proofs.Try.prog (zgk N) := z11 mixed z1x (FnsOk.cons (zpn N) (FnsOk.cons (zg6 N) (FnsOk.nil))) (ItsOk.nil)

def z8f (N : Nat) (l : (List ((List UInt8) × (Int × (Int × Unit))))) (class_ : (List UInt8)) : Option Int :=
 (zff N l (class_, ())).bind fun y =>
 some y

def zlr (N : Nat) : Tab Int := []

theorem zn3 (N : Nat) (x : z1v [(0, .v (.sl (.pair .str (.pair (.int .i64) (.pair (.int .i64) .unit))))), (0, .v .str)]) : zbu (zgk N) N (zlr N) zls Go.Proofs.Try.f19 (mkS [(0, .v (.sl (.pair .str (.pair (.int .i64) (.pair (.int .i64) .unit))))), (0, .v .str)] 0 x) (z4p (.v (.int .i64)) 2) = z8f N x.1 x.2.1 := by kernel_rfl

def zc1 (N : Nat) : List A -> Res := z1w [(0, .v (.sl (.pair .str (.pair (.int .i64) (.pair (.int .i64) .unit))))), (0, .v .str)] (fun x => z8f N x.1 x.2.1) (zaf (.v (.int .i64)) 2)

theorem zju (N : Nat) : Contract Go.Proofs.Try.prog zj 19 (zc1 N) :=
  Contract.of (E := zgk N) (H := zlr N) (L := zls) (N := N) (body := zn4) (K := (z4p (.v (.int .i64)) 2)) (zp5 N) Go.Proofs.Try.func19 (by kernel_rfl) (by decide) (fun _ hb => TabOk.nil) (fun x y h => by rw [zn3]; exact h) (z1h (s := (.v (.int .i64))) (m := 2))

def zmu : Code := (Go.Proofs.Try.f31.body).getD .skip

def zk9 : List (List Nat × List Nat) := [([0], [2, 1, 4]), ([0, 1], [4]), ([1, 1], [4])]

def zf0 (N : Nat) : Env := z42 tys zj [] [] [] [] false [] []

theorem znm (N : Nat) : EnvOk Go.Proofs.Try.prog (zf0 N) := z11 mixed z1x (FnsOk.nil) (ItsOk.nil)

def zos (N : Nat) (c : ((List UInt8) × (Int × (Int × Unit)))) (now : Int) : Option (Int × (Int × (Int × (Int × Unit)))) :=
 some (c.2.1, (c.2.2.1, ((0 : Int), (now, ()))))

def zk8 (N : Nat) : Tab (Int × (Int × (Int × (Int × Unit)))) := []

theorem zmt (N : Nat) (x : z1v [(0, .v (.pair .str (.pair (.int .i64) (.pair (.int .i64) .unit)))), (0, .v (.int .i64))]) : zbu (zf0 N) N (zk8 N) zk9 Go.Proofs.Try.f31 (mkS [(0, .v (.pair .str (.pair (.int .i64) (.pair (.int .i64) .unit)))), (0, .v (.int .i64))] 0 x) (z4p (.v (.pair (.int .i64) (.pair (.int .i64) (.pair (.int .i64) (.pair (.int .i64) .unit))))) 2) = zos N x.1 x.2.1 := by kernel_rfl

def zgf (N : Nat) : List A -> Res := z1w [(0, .v (.pair .str (.pair (.int .i64) (.pair (.int .i64) .unit)))), (0, .v (.int .i64))] (fun x => zos N x.1 x.2.1) (zaf (.v (.pair (.int .i64) (.pair (.int .i64) (.pair (.int .i64) (.pair (.int .i64) .unit))))) 2)

theorem zpt (N : Nat) : Contract Go.Proofs.Try.prog zj 31 (zgf N) :=
  Contract.of (E := zf0 N) (H := zk8 N) (L := zk9) (N := N) (body := zmu) (K := (z4p (.v (.pair (.int .i64) (.pair (.int .i64) (.pair (.int .i64) (.pair (.int .i64) .unit))))) 2)) (znm N) Go.Proofs.Try.func31 (by kernel_rfl) (by decide) (fun _ hb => TabOk.nil) (fun x y h => by rw [zmt]; exact h) (z1h (s := (.v (.pair (.int .i64) (.pair (.int .i64) (.pair (.int .i64) (.pair (.int .i64) .unit)))))) (m := 2))

def ze1 : Code := (Go.Proofs.Try.f23.body).getD .skip

def z9p : List (List Nat × List Nat) := [([0], [0, 3, 4]), ([0, 1], [6, 4, 0]), ([0, 0, 1, 1], [15, 4, 0, 6]), ([1, 0, 1, 1], [0, 6, 4]), ([0, 0, 1, 0, 1, 1], [4, 5, 0]), ([1, 0, 1, 0, 1, 1], [4, 5, 0]), ([0, 1, 1, 1], [4, 5, 0]), ([1, 1, 1, 1], [4, 5, 0])]

def z5u (N : Nat) : Env := z42 tys zj [(31, zgf N), (19, zc1 N)] [] [] [0] false [(13, .unit)] []

theorem zfl (N : Nat) : EnvOk Go.Proofs.Try.prog (z5u N) := z11 mixed z1x (FnsOk.cons (zpt N) (FnsOk.cons (zju N) (FnsOk.nil))) (ItsOk.nil)

def z20 (N : Nat) (r_ : ((List ((List UInt8) × (Int × (Int × Unit)))) × (Int × (Go.Value × Unit)))) (o : ((List UInt8) × ((List UInt8) × Unit))) : Option (((Int × (Int × (Int × (Int × Unit)))) × Bool × Unit) × (((List ((List UInt8) × (Int × (Int × Unit)))) × (Int × (Go.Value × Unit))) × Unit)) :=
 (z8f N r_.1 o.2.1).bind fun y =>
 cond (decide (y < (0 : Int)))
 (some ((((0 : Int), ((0 : Int), ((0 : Int), ((0 : Int), ())))), (false, ())), (r_, ())))
 (cond (Go.Lift.inR y (List.length r_.1))
 (cond (decide ((Int.toNat y) < (List.length r_.1)))
 (some ((((List.getD r_.1 (Int.toNat y) (([] : List UInt8), ((0 : Int), ((0 : Int), ())))).2.1, ((List.getD r_.1 (Int.toNat y) (([] : List UInt8), ((0 : Int), ((0 : Int), ())))).2.2.1, ((0 : Int), (r_.2.1, ())))), (true, ())), (r_, ())))
 (none))
 (none))

def z9o (N : Nat) : Tab (((Int × (Int × (Int × (Int × Unit)))) × Bool × Unit) × (((List ((List UInt8) × (Int × (Int × Unit)))) × (Int × (Go.Value × Unit))) × Unit)) := []

theorem ze0 (N : Nat) (x : z1v [(0, .box (.pair (.own (.pair .str (.pair (.int .i64) (.pair (.int .i64) .unit)))) (.pair (.int .i64) (.pair .opq .unit)))), (0, .v (.pair .str (.pair .str .unit)))]) : zbu (z5u N) N (z9o N) z9p Go.Proofs.Try.f23 (mkS [(0, .box (.pair (.own (.pair .str (.pair (.int .i64) (.pair (.int .i64) .unit)))) (.pair (.int .i64) (.pair .opq .unit)))), (0, .v (.pair .str (.pair .str .unit)))] 0 x) (zr2 (.tup [(.pair (.int .i64) (.pair (.int .i64) (.pair (.int .i64) (.pair (.int .i64) .unit)))), .bool]) [(0, .box (.pair (.own (.pair .str (.pair (.int .i64) (.pair (.int .i64) .unit)))) (.pair (.int .i64) (.pair .opq .unit))))] 1) = z20 N x.1 x.2.1 := by kernel_rfl

def z4a (N : Nat) : List A -> Res := z1w [(0, .box (.pair (.own (.pair .str (.pair (.int .i64) (.pair (.int .i64) .unit)))) (.pair (.int .i64) (.pair .opq .unit)))), (0, .v (.pair .str (.pair .str .unit)))] (fun x => z20 N x.1 x.2.1) (zuy (.tup [(.pair (.int .i64) (.pair (.int .i64) (.pair (.int .i64) (.pair (.int .i64) .unit)))), .bool]) [(0, .box (.pair (.own (.pair .str (.pair (.int .i64) (.pair (.int .i64) .unit)))) (.pair (.int .i64) (.pair .opq .unit))))] 1)

theorem z4u (N : Nat) : Contract Go.Proofs.Try.prog zj 23 (z4a N) :=
  Contract.of (E := z5u N) (H := z9o N) (L := z9p) (N := N) (body := ze1) (K := (zr2 (.tup [(.pair (.int .i64) (.pair (.int .i64) (.pair (.int .i64) (.pair (.int .i64) .unit)))), .bool]) [(0, .box (.pair (.own (.pair .str (.pair (.int .i64) (.pair (.int .i64) .unit)))) (.pair (.int .i64) (.pair .opq .unit))))] 1)) (zfl N) Go.Proofs.Try.func23 (by kernel_rfl) (by decide) (fun _ hb => TabOk.nil) (fun x y h => by rw [ze0]; exact h) (zpl (s := (.tup [(.pair (.int .i64) (.pair (.int .i64) (.pair (.int .i64) (.pair (.int .i64) .unit)))), .bool])) (os := [(0, .box (.pair (.own (.pair .str (.pair (.int .i64) (.pair (.int .i64) .unit)))) (.pair (.int .i64) (.pair .opq .unit))))]) (m := 1))

def zm8 : Code := (Go.Proofs.Try.f35.body).getD .skip

def zjy : List (List Nat × List Nat) := [([0], [0]), ([0, 1], [2]), ([1, 1], [2])]

def zen (N : Nat) : Env := z42 tys zj [] [] [] [] false [] []

theorem zn8 (N : Nat) : EnvOk Go.Proofs.Try.prog (zen N) := z11 mixed z1x (FnsOk.nil) (ItsOk.nil)

def zfe (N : Nat) (c : Int) : Option Bool :=
 cond (decide ((48 : Int) <= c))
 (some (decide (c <= (57 : Int))))
 (some false)

def zjx (N : Nat) : Tab Bool := []

theorem zm7 (N : Nat) (x : z1v [(0, .v (.int .i32))]) : zbu (zen N) N (zjx N) zjy Go.Proofs.Try.f35 (mkS [(0, .v (.int .i32))] 0 x) (z4p (.v .bool) 1) = zfe N x.1 := by kernel_rfl

def zg8 (N : Nat) : List A -> Res := z1w [(0, .v (.int .i32))] (fun x => zfe N x.1) (zaf (.v .bool) 1)

theorem zpf (N : Nat) : Contract Go.Proofs.Try.prog zj 35 (zg8 N) :=
  Contract.of (E := zen N) (H := zjx N) (L := zjy) (N := N) (body := zm8) (K := (z4p (.v .bool) 1)) (zn8 N) Go.Proofs.Try.func35 (by kernel_rfl) (by decide) (fun _ hb => TabOk.nil) (fun x y h => by rw [zm7]; exact h) (z1h (s := (.v .bool)) (m := 1))

def z62 : Code := (Go.Proofs.Try.f28.body).getD .skip

def z99 : List (List Nat × List Nat) := [([0], [0, 1]), ([0, 1], [5, 0, 1]), ([0, 1, 1], [4]), ([1, 1, 1], [4])]

def z63 (N : Nat) : Env := z42 tys zj [(35, zg8 N)] [] [] [] false [] []

theorem zj6 (N : Nat) : EnvOk Go.Proofs.Try.prog (z63 N) := z11 mixed z1x (FnsOk.cons (zpf N) (FnsOk.nil)) (ItsOk.nil)

def z7i (N : Nat) (c : Int) (first : Bool) (k0 : Bool -> Option Bool) : Option Bool :=
 cond (decide ((97 : Int) <= c))
 (k0 (decide (c <= (122 : Int))))
 (k0 false)

def zd2 (N : Nat) (x : z1v [(0, .v (.int .i32)), (0, .v .bool)]) (K : Ex -> List A -> Option Bool) : Option Bool :=
 z7i N x.1 x.2.1 (fun a2 => (K .normal (mkS [(0, .v (.int .i32)), (0, .v .bool), (3, .v .bool)] 19 (x.1, x.2.1, a2, ()))))

def zd1 (N : Nat) : Hd Bool := fun st K => (unS [(0, .v (.int .i32)), (0, .v .bool)] 23 (restr [0, 1] 0 st)).bind fun x => zd2 N x K

def zkn (N : Nat) : Tab Bool := []

theorem zj5 {N : Nat} {c : Ctx} (hb : Base Go.Proofs.Try.prog (z63 N) c) : zu Go.Proofs.Try.prog c (ze z62 [0, 1]) (zd1 N) :=
  zq (s := [(0, .v (.int .i32)), (0, .v .bool)]) (m := 23) (g := zd2 N) [0, 1] (z9 hb N (zkn N) z99 z62 TabOk.nil [0, 1] _ rfl) (fun x K => by kernel_rfl)

def z64 (N : Nat) (c : Int) (first : Bool) : Option Bool :=
 z7i N c first
 (fun letter => cond letter
 (some true)
 ((zfe N c).bind fun y =>
 cond y
 (some (!first))
 (cond (c == (45 : Int))
 (some (!first))
 (some false))))

def zem (N : Nat) : Tab Bool := [([0, 1], zd1 N)]

theorem zhy (N : Nat) (x : z1v [(0, .v (.int .i32)), (0, .v .bool)]) : zbu (z63 N) N (zem N) z99 Go.Proofs.Try.f28 (mkS [(0, .v (.int .i32)), (0, .v .bool)] 0 x) (z4p (.v .bool) 2) = z64 N x.1 x.2.1 := by kernel_rfl

def z6m (N : Nat) : List A -> Res := z1w [(0, .v (.int .i32)), (0, .v .bool)] (fun x => z64 N x.1 x.2.1) (zaf (.v .bool) 2)

theorem zd3 (N : Nat) : Contract Go.Proofs.Try.prog zj 28 (z6m N) :=
  Contract.of (E := z63 N) (H := zem N) (L := z99) (N := N) (body := z62) (K := (z4p (.v .bool) 2)) (zj6 N) Go.Proofs.Try.func28 (by kernel_rfl) (by decide) (fun _ hb => (TabOk.cons (zj5 hb) TabOk.nil)) (fun x y h => by rw [zhy]; exact h) (z1h (s := (.v .bool)) (m := 2))

def z1o : Code := (Go.Proofs.Try.f27.body).getD .skip

def z41 : List (List Nat × List Nat) := [([0], [0, 1]), ([0, 0, 1], [13, 0, 1]), ([1, 0, 1], [0, 1]), ([0, 0, 1, 0, 1], [4]), ([1, 0, 1, 0, 1], [4]), ([0, 0, 1, 1], [15, 1]), ([0, 1, 0, 1, 1], [15, 1]), ([0, 0, 0, 1, 0, 1, 1], [17, 16, 1, 15]), ([0, 1, 0, 0, 1, 0, 1, 1], [16, 1, 15]), ([1, 0, 1, 0, 0, 1, 0, 1, 1], []), ([0, 0, 1, 1, 0, 0, 1, 0, 1, 1], [1, 6, 5, 15]), ([0, 1, 0, 1, 1, 0, 0, 1, 0, 1, 1], [25, 15, 1]), ([1, 1, 0, 1, 1, 0, 0, 1, 0, 1, 1], [15, 1]), ([0, 0, 1, 1, 0, 1, 1, 0, 0, 1, 0, 1, 1], [4]), ([1, 0, 1, 1, 0, 1, 1, 0, 0, 1, 0, 1, 1], [4]), ([1, 1, 0, 0, 1, 0, 1, 1], [15, 1]), ([1, 0, 1, 1], []), ([0, 1, 1, 1], [4]), ([1, 1, 1, 1], [4])]

def z2u (N : Nat) : Env := z42 tys zj [(28, z6m N)] [] [] [] false [] []

theorem zja (N : Nat) : EnvOk Go.Proofs.Try.prog (z2u N) := z11 mixed z1x (FnsOk.cons (zd3 N) (FnsOk.nil)) (ItsOk.nil)

def z7k (N : Nat) (s : (List UInt8)) (k0 : Bool -> Option Bool) : Option Bool :=
 cond (s == ([] : List UInt8))
 (k0 true)
 (k0 (decide ((32 : Int) < (((List.length s) : Nat) : Int))))

def zd9 (N : Nat) (x : z1v [(0, .v .str), (0, .fnc 28)]) (K : Ex -> List A -> Option Bool) : Option Bool :=
 z7k N x.1 (fun a1 => (K .normal (mkS [(0, .v .str), (0, .fnc 28), (11, .v .bool)] 12 (x.1, (), a1, ()))))

def zd6 (N : Nat) : Hd Bool := fun st K => (unS [(0, .v .str), (0, .fnc 28)] 24 (restr [0, 1] 0 st)).bind fun x => zd9 N x K

def zkp (N : Nat) : Tab Bool := []

theorem zj8 {N : Nat} {c : Ctx} (hb : Base Go.Proofs.Try.prog (z2u N) c) : zu Go.Proofs.Try.prog c (ze z1o [0, 0, 1]) (zd6 N) :=
  zq (s := [(0, .v .str), (0, .fnc 28)]) (m := 24) (g := zd9 N) [0, 1] (z9 hb N (zkp N) z41 z1o TabOk.nil [0, 0, 1] _ rfl) (fun x K => by kernel_rfl)

def z7l (N : Nat) (s : (List UInt8)) (k0 : Bool -> Option Bool) (k1 : Option Bool) : Option Bool :=
 z7k N s
 (fun x13 => cond x13
 (k0 false)
 (k1))

def zda (N : Nat) (x : z1v [(0, .v .str), (0, .fnc 28)]) (K : Ex -> List A -> Option Bool) : Option Bool :=
 z7l N x.1 (fun a0 => (K .ret (mkS [(4, .v .bool)] 21 (a0, ())))) (K .normal (mkS [(0, .v .str), (0, .fnc 28)] 24 (x.1, (), ())))

def zd7 (N : Nat) : Hd Bool := fun st K => (unS [(0, .v .str), (0, .fnc 28)] 24 (restr [0, 1] 0 st)).bind fun x => zda N x K

def zkq (N : Nat) : Tab Bool := [([0, 0, 1], zd6 N)]

theorem zj9 {N : Nat} {c : Ctx} (hb : Base Go.Proofs.Try.prog (z2u N) c) : zu Go.Proofs.Try.prog c (ze z1o [0, 1]) (zd7 N) :=
  zq (s := [(0, .v .str), (0, .fnc 28)]) (m := 24) (g := zda N) [0, 1] (z9 hb N (zkq N) z41 z1o (TabOk.cons (zj8 hb) TabOk.nil) [0, 1] _ rfl) (fun x K => by kernel_rfl)

def z7j (N : Nat) (x15 : (List UInt8 × Nat)) (rec : (List UInt8 × Nat) -> Option Bool) (k0 : Bool -> Option Bool) (k1 : Option Bool) : Option Bool :=
 cond (decide (x15.2 < (List.length x15.1)))
 ((z64 N (((Go.Lift.runeAt x15.1 x15.2).1 : Nat) : Int) (((x15.2 : Nat) : Int) == (0 : Int))).bind fun y =>
 cond (!y)
 (k0 false)
 (rec (x15.1, (x15.2 + (Go.Lift.runeAt x15.1 x15.2).2))))
 (k1)

def zd4 (N : Nat) (x15 : (List UInt8 × Nat)) (k0 : Bool -> Option Bool) (k1 : Option Bool) : Option Bool :=
 iter (fun (v : (List UInt8 × Nat)) r => z7j N v (fun x15 => (r x15)) k0 k1) N x15

def zd8 (N : Nat) (i : Unit) (v : (List UInt8 × Nat)) (r : (List UInt8 × Nat) -> Option Bool) (K : Ex -> List A -> Option Bool) : Option Bool :=
 z7j N v (fun x15 => (r x15)) (fun a0 => (K .ret (mkS [(4, .v .bool)] 21 (a0, ())))) (K (.exit 0) (mkS [] 26 ()))

def zd5 (N : Nat) : Hd Bool := fun st K => (unS [(1, .fnc 28), (13, .iter)] 10 (restr [15, 1] 0 st)).bind fun x => iter (fun v r => zd8 N ((fun x => ()) x) v r K) N ((fun x => x.2.1) x)

def zko (N : Nat) : Tab Bool := []

theorem zj7 {N : Nat} {c : Ctx} (hb : Base Go.Proofs.Try.prog (z2u N) c) : zu Go.Proofs.Try.prog c (ze z1o [0, 1, 0, 1, 1]) (zd5 N) :=
  zch (s := [(1, .fnc 28), (13, .iter)]) (m := 10) (zd8 N) [15, 1] N (fun x => ()) (fun x => x.2.1) (fun i v => ((), v, ())) (fun _ => rfl) (z9 hb N (zko N) z41 z1o TabOk.nil [0, 0, 1, 0, 1, 1] _ rfl) (fun i v r K => by kernel_rfl)

def z65 (N : Nat) (s : (List UInt8)) : Option Bool :=
 z7l N s
 (fun x4 => some x4)
 (zd4 N (s, 0)
 (fun x41 => some x41)
 (some true))

def zeo (N : Nat) : Tab Bool := [([0, 1], zd7 N), ([0, 1, 0, 1, 1], zd5 N)]

theorem zhz (N : Nat) (x : z1v [(0, .v .str), (0, .fnc 28)]) : zbu (z2u N) N (zeo N) z41 Go.Proofs.Try.f27 (mkS [(0, .v .str), (0, .fnc 28)] 0 x) (z4p (.v .bool) 2) = z65 N x.1 := by kernel_rfl

def zbh (N : Nat) : List A -> Res := z1w [(0, .v .str), (0, .fnc 28)] (fun x => z65 N x.1) (zaf (.v .bool) 2)

theorem zkr (N : Nat) : Contract Go.Proofs.Try.prog zj 27 (zbh N) :=
  Contract.of (E := z2u N) (H := zeo N) (L := z41) (N := N) (body := z1o) (K := (z4p (.v .bool) 2)) (zja N) Go.Proofs.Try.func27 (by kernel_rfl) (by decide) (fun _ hb => (TabOk.cons (zj9 hb) (TabOk.cons (zj7 hb) TabOk.nil))) (fun x y h => by rw [zhz]; exact h) (z1h (s := (.v .bool)) (m := 2))

def zna : Code := (Go.Proofs.Try.f18.body).getD .skip

def zma : List (List Nat × List Nat) := [([0], [0]), ([0, 1], [2]), ([1, 1], [2])]

def zgx (N : Nat) : Env := z42 tys zj [(27, zbh N), (28, z6m N)] [] [] [] false [] []

theorem zpg (N : Nat) : EnvOk Go.Proofs.Try.prog (zgx N) := z11 mixed z1x (FnsOk.cons (zkr N) (FnsOk.cons (zd3 N) (FnsOk.nil))) (ItsOk.nil)

def zep (N : Nat) (s : (List UInt8)) : Option Bool :=
 (z65 N s).bind fun y =>
 some y

def zm9 (N : Nat) : Tab Bool := []

theorem zn9 (N : Nat) (x : z1v [(0, .v .str)]) : zbu (zgx N) N (zm9 N) zma Go.Proofs.Try.f18 (mkS [(0, .v .str)] 0 x) (z4p (.v .bool) 1) = zep N x.1 := by kernel_rfl

def zi0 (N : Nat) : List A -> Res := z1w [(0, .v .str)] (fun x => zep N x.1) (zaf (.v .bool) 1)

theorem zqx (N : Nat) : Contract Go.Proofs.Try.prog zj 18 (zi0 N) :=
  Contract.of (E := zgx N) (H := zm9 N) (L := zma) (N := N) (body := zna) (K := (z4p (.v .bool) 1)) (zpg N) Go.Proofs.Try.func18 (by kernel_rfl) (by decide) (fun _ hb => TabOk.nil) (fun x y h => by rw [zn9]; exact h) (z1h (s := (.v .bool)) (m := 1))

def z3u : Code := (Go.Proofs.Try.f8.body).getD .skip

def z9r : List (List Nat × List Nat) := [([0], [0]), ([0, 0, 1], [7, 0]), ([1, 0, 1], [0]), ([0, 0, 1, 0, 1], [2]), ([1, 0, 1, 0, 1], [2]), ([0, 0, 1, 1], [10, 9, 8, 0]), ([0, 1, 0, 1, 1], [10, 9, 8, 0]), ([0, 0, 0, 1, 0, 1, 1], [11, 10, 8, 0, 9]), ([0, 1, 0, 0, 1, 0, 1, 1], [10, 8, 0, 9]), ([1, 0, 1, 0, 0, 1, 0, 1, 1], []), ([0, 0, 0, 1, 1, 0, 0, 1, 0, 1, 1], [4, 0, 3, 10, 9, 8]), ([0, 0, 1, 0, 0, 1, 1, 0, 0, 1, 0, 1, 1], [15, 4, 0, 3, 10, 9, 8]), ([1, 0, 1, 0, 0, 1, 1, 0, 0, 1, 0, 1, 1], [10, 9, 8, 0]), ([0, 1, 1, 0, 1, 0, 0, 1, 1, 0, 0, 1, 0, 1, 1], [20, 0, 3, 4, 10, 9, 8]), ([1, 1, 1, 0, 1, 0, 0, 1, 1, 0, 0, 1, 0, 1, 1], [10, 9, 8, 0]), ([0, 1, 1, 1, 1, 0, 1, 0, 0, 1, 1, 0, 0, 1, 0, 1, 1], [31, 10, 9, 8, 0]), ([1, 1, 1, 1, 1, 0, 1, 0, 0, 1, 1, 0, 0, 1, 0, 1, 1], [10, 9, 8, 0]), ([0, 0, 1, 1, 1, 1, 1, 0, 1, 0, 0, 1, 1, 0, 0, 1, 0, 1, 1], [2]), ([1, 0, 1, 1, 1, 1, 1, 0, 1, 0, 0, 1, 1, 0, 0, 1, 0, 1, 1], [2]), ([0, 0, 1, 1, 1, 0, 1, 0, 0, 1, 1, 0, 0, 1, 0, 1, 1], [2]), ([1, 0, 1, 1, 1, 0, 1, 0, 0, 1, 1, 0, 0, 1, 0, 1, 1], [2]), ([0, 0, 1, 0, 1, 0, 0, 1, 1, 0, 0, 1, 0, 1, 1], [2]), ([1, 0, 1, 0, 1, 0, 0, 1, 1, 0, 0, 1, 0, 1, 1], [2]), ([1, 0, 0, 1, 1, 0, 0, 1, 0, 1, 1], [10, 9, 8, 0]), ([0, 1, 1, 0, 0, 1, 0, 1, 1], [10, 9, 8, 0]), ([1, 1, 1, 0, 0, 1, 0, 1, 1], [10, 9, 8, 0]), ([1, 0, 1, 1], []), ([0, 1, 1, 1], [2]), ([1, 1, 1, 1], [2])]

def z71 (N : Nat) : Env := z42 tys zj [(18, zi0 N), (19, zc1 N), (16, z3o N)] [] [] [] false [] []

theorem zn7 (N : Nat) : EnvOk Go.Proofs.Try.prog (z71 N) := z11 mixed z1x (FnsOk.cons (zqx N) (FnsOk.cons (zju N) (FnsOk.cons (z6p N) (FnsOk.nil)))) (ItsOk.nil)

def zcc (N : Nat) (l : (List ((List UInt8) × (Int × (Int × Unit))))) (i : Int) (c : ((List UInt8) × (Int × (Int × Unit)))) (x8 : (List ((List UInt8) × (Int × (Int × Unit))))) (x9 : Int) (x10 : Int) (k0 : Bool -> Option Int) : Option Int :=
 (z3p N c.2.1).bind fun y =>
 cond (!y)
 (k0 true)
 ((z3p N c.2.2.1).bind fun y1 =>
 k0 (!y1))

def zhm (N : Nat) (x : z1v [(0, .v (.sl (.pair .str (.pair (.int .i64) (.pair (.int .i64) .unit))))), (2, .v (.int .i64)), (0, .box (.pair .str (.pair (.int .i64) (.pair (.int .i64) .unit)))), (3, .v (.sl (.pair .str (.pair (.int .i64) (.pair (.int .i64) .unit))))), (0, .v (.int .i64)), (0, .v (.int .i64))]) (K : Ex -> List A -> Option Int) : Option Int :=
 zcc N x.1 x.2.1 x.2.2.1 x.2.2.2.1 x.2.2.2.2.1 x.2.2.2.2.2.1 (fun a6 => (K .normal (mkS [(0, .v (.sl (.pair .str (.pair (.int .i64) (.pair (.int .i64) .unit))))), (2, .v (.int .i64)), (0, .box (.pair .str (.pair (.int .i64) (.pair (.int .i64) .unit)))), (3, .v (.sl (.pair .str (.pair (.int .i64) (.pair (.int .i64) .unit))))), (0, .v (.int .i64)), (0, .v (.int .i64)), (9, .v .bool)] 19 (x.1, x.2.1, x.2.2.1, x.2.2.2.1, x.2.2.2.2.1, x.2.2.2.2.2.1, a6, ()))))

def zhk (N : Nat) : Hd Int := fun st K => (unS [(0, .v (.sl (.pair .str (.pair (.int .i64) (.pair (.int .i64) .unit))))), (2, .v (.int .i64)), (0, .box (.pair .str (.pair (.int .i64) (.pair (.int .i64) .unit)))), (3, .v (.sl (.pair .str (.pair (.int .i64) (.pair (.int .i64) .unit))))), (0, .v (.int .i64)), (0, .v (.int .i64))] 29 (restr [4, 0, 3, 10, 9, 8] 0 st)).bind fun x => zhm N x K

def zp8 (N : Nat) : Tab Int := []

theorem zn5 {N : Nat} {c : Ctx} (hb : Base Go.Proofs.Try.prog (z71 N) c) : zu Go.Proofs.Try.prog c (ze z3u [0, 1, 1, 0, 1, 0, 0, 1, 1, 0, 0, 1, 0, 1, 1]) (zhk N) :=
  zq (s := [(0, .v (.sl (.pair .str (.pair (.int .i64) (.pair (.int .i64) .unit))))), (2, .v (.int .i64)), (0, .box (.pair .str (.pair (.int .i64) (.pair (.int .i64) .unit)))), (3, .v (.sl (.pair .str (.pair (.int .i64) (.pair (.int .i64) .unit))))), (0, .v (.int .i64)), (0, .v (.int .i64))]) (m := 29) (g := zhm N) [4, 0, 3, 10, 9, 8] (z9 hb N (zp8 N) z9r z3u TabOk.nil [0, 1, 1, 0, 1, 0, 0, 1, 1, 0, 0, 1, 0, 1, 1] _ rfl) (fun x K => by kernel_rfl)

def zcb (N : Nat) (l : (List ((List UInt8) × (Int × (Int × Unit))))) (x8 : (List ((List UInt8) × (Int × (Int × Unit))))) (x9 : Int) (x10 : Int) (rec : Int -> Option Int) (k0 : Int -> Option Int) (k1 : Option Int) : Option Int :=
 cond (decide (x10 < x9))
 (cond (Go.Lift.inR x10 (List.length x8))
 ((zep N (List.getD x8 (Int.toNat x10) (([] : List UInt8), ((0 : Int), ((0 : Int), ())))).1).bind fun y =>
 cond (!y)
 (k0 (4 : Int))
 (zcc N l x10 (List.getD x8 (Int.toNat x10) (([] : List UInt8), ((0 : Int), ((0 : Int), ())))) x8 x9 x10
 (fun x20 => cond x20
 (k0 (7 : Int))
 (cond (decide (((0 : Int) <= x10) /\ (x10 <= (((List.length l) : Nat) : Int))))
 ((z8f N (Go.Lift.cut l 0 (Int.toNat x10)) (List.getD x8 (Int.toNat x10) (([] : List UInt8), ((0 : Int), ((0 : Int), ())))).1).bind fun y1 =>
 cond (decide ((0 : Int) <= y1))
 (k0 (5 : Int))
 (rec (Go.IntKind.wrap Go.IntKind.i64 (x10 + (1 : Int)))))
 (none)))))
 (none))
 (k1)

def zhj (N : Nat) (l : (List ((List UInt8) × (Int × (Int × Unit))))) (x8 : (List ((List UInt8) × (Int × (Int × Unit))))) (x9 : Int) (x10 : Int) (k0 : Int -> Option Int) (k1 : Option Int) : Option Int :=
 iter (fun (v : Int) r => zcb N l x8 x9 v (fun x10 => (r x10)) k0 k1) N x10

def zhn (N : Nat) (i : ((List ((List UInt8) × (Int × (Int × Unit)))) × (List ((List UInt8) × (Int × (Int × Unit)))) × Int)) (v : Int) (r : Int -> Option Int) (K : Ex -> List A -> Option Int) : Option Int :=
 zcb N i.1 i.2.1 i.2.2 v (fun x10 => (r x10)) (fun a0 => (K .ret (mkS [(2, .v (.int .i64))] 37 (a0, ())))) (K (.exit 0) (mkS [] 40 ()))

def zhl (N : Nat) : Hd Int := fun st K => (unS [(0, .v (.sl (.pair .str (.pair (.int .i64) (.pair (.int .i64) .unit))))), (7, .v (.sl (.pair .str (.pair (.int .i64) (.pair (.int .i64) .unit))))), (0, .v (.int .i64)), (0, .v (.int .i64))] 29 (restr [10, 9, 8, 0] 0 st)).bind fun x => iter (fun v r => zhn N ((fun x => (x.1, x.2.1, x.2.2.1)) x) v r K) N ((fun x => x.2.2.2.1) x)

def zp9 (N : Nat) : Tab Int := [([0, 1, 1, 0, 1, 0, 0, 1, 1, 0, 0, 1, 0, 1, 1], zhk N)]

theorem zn6 {N : Nat} {c : Ctx} (hb : Base Go.Proofs.Try.prog (z71 N) c) : zu Go.Proofs.Try.prog c (ze z3u [0, 1, 0, 1, 1]) (zhl N) :=
  zch (s := [(0, .v (.sl (.pair .str (.pair (.int .i64) (.pair (.int .i64) .unit))))), (7, .v (.sl (.pair .str (.pair (.int .i64) (.pair (.int .i64) .unit))))), (0, .v (.int .i64)), (0, .v (.int .i64))]) (m := 29) (zhn N) [10, 9, 8, 0] N (fun x => (x.1, x.2.1, x.2.2.1)) (fun x => x.2.2.2.1) (fun i v => (i.1, i.2.1, i.2.2, v, ())) (fun _ => rfl) (z9 hb N (zp9 N) z9r z3u (TabOk.cons (zn5 hb) TabOk.nil) [0, 0, 1, 0, 1, 1] _ rfl) (fun i v r K => by kernel_rfl)

def z89 (N : Nat) (l : (List ((List UInt8) × (Int × (Int × Unit))))) : Option Int :=
 cond (decide ((8 : Int) < (((List.length l) : Nat) : Int)))
 (some (3 : Int))
 (zhj N l l (((List.length l) : Nat) : Int) (0 : Int)
 (fun x2 => some x2)
 (some (0 : Int)))

def zjv (N : Nat) : Tab Int := [([0, 1, 0, 1, 1], zhl N)]

theorem zlw (N : Nat) (x : z1v [(0, .v (.sl (.pair .str (.pair (.int .i64) (.pair (.int .i64) .unit)))))]) : zbu (z71 N) N (zjv N) z9r Go.Proofs.Try.f8 (mkS [(0, .v (.sl (.pair .str (.pair (.int .i64) (.pair (.int .i64) .unit)))))] 0 x) (z4p (.v (.int .i64)) 1) = z89 N x.1 := by kernel_rfl

def za0 (N : Nat) : List A -> Res := z1w [(0, .v (.sl (.pair .str (.pair (.int .i64) (.pair (.int .i64) .unit)))))] (fun x => z89 N x.1) (zaf (.v (.int .i64)) 1)

theorem zho (N : Nat) : Contract Go.Proofs.Try.prog zj 8 (za0 N) :=
  Contract.of (E := z71 N) (H := zjv N) (L := z9r) (N := N) (body := z3u) (K := (z4p (.v (.int .i64)) 1)) (zn7 N) Go.Proofs.Try.func8 (by kernel_rfl) (by decide) (fun _ hb => (TabOk.cons (zn6 hb) TabOk.nil)) (fun x y h => by rw [zlw]; exact h) (z1h (s := (.v (.int .i64))) (m := 1))

def Calm (w : World) (S : Hp) (w' : World) : Prop := ∃ S', WF w (fun _ => False) w' /\ Lift.Sub S S' /\ Lift.Sub S' (hp w') /\ ∀ k, S' k ≠ none -> S k ≠ none \/ w.heap.size <= k

theorem Calm.refl {w : World} {S : Hp} (h : Lift.Sub S (hp w)) : Calm w S w := ⟨S, WF.refl _ _, Lift.Sub.refl S, h, fun _ h => .inl h⟩

theorem Calm.cell {w w' : World} {S : Hp} {p : Addr} {v : Value} (h : Calm w S w') (hc : w.cell? p = some v) : w'.cell? p = some v := by
  obtain ⟨S', h1, _⟩ := h
  have hlt : p.block < w.heap.size := by
    cases hh : w.heap[p.block]? with
    | none => simp [World.cell?, hh] at hc
    | some o => exact (Array.getElem?_eq_some_iff.1 hh).1
  have := h1.same p.block hlt (fun h => h)
  simp only [World.cell?] at hc ⊢
  rw [this]
  exact hc

abbrev ClassT : T := .pair .str (.pair (.int .i64) (.pair (.int .i64) .unit))

def z125 : Go.Shelf.Ren := ⟨fun | 41 => 17 | n => n, fun | 4 => 4 | 22 => 22 | 23 => 43 | n => n, fun n => n⟩

theorem z11i : Go.Proofs.SlLaysE0.n41 Try.prog z125 where
  mixed := by kernel_rfl
  f41 := ⟨"slices.Clone[[]porter/api.Class,porter/api.Class]", by decide, Try.func17.trans (congrArg some (by kernel_rfl))⟩
  t4 := Try.underlying4
  a4 := Try.isAgg4
  z4 := Try.sizeOf4
  v4 := Try.zeroValue4
  t22 := Try.underlying22
  a22 := Try.isAgg22
  z22 := Try.sizeOf22
  v22 := Try.zeroValue22

def zh2 (N : Nat) (l : List ClassT.den) : Option (List ClassT.den) := cond (decide (l.length * 32 <= 140737488355328)) (some l) none

def zev (N : Nat) : List A -> Res := z1w [(0, .v (.sl ClassT))] (fun x => zh2 N x.1) (zaf (.row ClassT) 1)

theorem znk (N : Nat) : Contract Try.prog zj 17 (zev N) :=
  zzd z11i (ee := ty43) zvu (by decide) (by decide) zj

def zp7 : Code := (Go.Proofs.Try.f7.body).getD .skip

def zo9 : List (List Nat × List Nat) := [([0], [0, 1]), ([0, 0, 1], [6, 1, 0]), ([0, 1, 0, 1], [10, 6, 1, 0]), ([1, 1, 0, 1], [1, 0]), ([0, 0, 1, 1, 0, 1], [4, 5]), ([1, 0, 1, 1, 0, 1], [4, 5]), ([0, 0, 1, 1], [14, 0, 1]), ([1, 0, 1, 1], [0, 1]), ([0, 0, 1, 0, 1, 1], [4, 5]), ([1, 0, 1, 0, 1, 1], [4, 5]), ([0, 1, 1, 1], [4, 5]), ([1, 1, 1, 1], [4, 5])]

def ziw (N : Nat) : Env := z42 tys zj [(17, zev N), (8, za0 N), (16, z3o N)] [] [] [] false [(4, (.pair (.own (.pair .str (.pair (.int .i64) (.pair (.int .i64) .unit)))) (.pair (.int .i64) (.pair (.mp (.pair .str (.pair .str .unit)) (.pair (.int .i64) (.pair (.int .i64) (.pair (.int .i64) (.pair (.int .i64) .unit))))) .unit)))), (19, (.pair (.own (.pair .str (.pair (.int .i64) (.pair (.int .i64) .unit)))) (.pair (.int .i64) (.pair (.mp (.pair .str (.pair .str .unit)) (.pair (.int .i64) (.pair (.int .i64) (.pair (.int .i64) (.pair (.int .i64) .unit))))) .unit)))), (20, (.pair (.own (.pair .str (.pair (.int .i64) (.pair (.int .i64) .unit)))) (.pair (.int .i64) (.pair (.mp (.pair .str (.pair .str .unit)) (.pair (.int .i64) (.pair (.int .i64) (.pair (.int .i64) (.pair (.int .i64) .unit))))) .unit))))] [] [(.nb (.pair (.own (.pair .str (.pair (.int .i64) (.pair (.int .i64) .unit)))) (.pair (.int .i64) (.pair (.mp (.pair .str (.pair .str .unit)) (.pair (.int .i64) (.pair (.int .i64) (.pair (.int .i64) (.pair (.int .i64) .unit))))) .unit)))), (.int .i64)]

theorem ze4 (N : Nat) : EnvOk Go.Proofs.Try.prog (ziw N) := z11 mixed z1x (FnsOk.cons (znk N) (FnsOk.cons (zho N) (FnsOk.cons (z6p N) (FnsOk.nil)))) (ItsOk.nil)

def zfc (N : Nat) (l : (List ((List UInt8) × (Int × (Int × Unit))))) (now : Int) : Option ((Option ((List ((List UInt8) × (Int × (Int × Unit)))) × (Int × ((Option (List (((List UInt8) × ((List UInt8) × Unit)) × (Int × (Int × (Int × (Int × Unit))))))) × Unit)))) × Int × Unit) :=
 (z89 N l).bind fun y =>
 cond (y != (0 : Int))
 (some ((Option.none), (y, ())))
 ((z3p N now).bind fun y1 =>
 cond (!y1)
 (some ((Option.none), ((7 : Int), ())))
 ((zh2 N l).bind fun y2 =>
 some ((Option.some (y2, (now, ((Option.some ([] : List (((List UInt8) × ((List UInt8) × Unit)) × (Int × (Int × (Int × (Int × Unit))))))), ())))), ((0 : Int), ()))))

def zo8 (N : Nat) : Tab ((Option ((List ((List UInt8) × (Int × (Int × Unit)))) × (Int × ((Option (List (((List UInt8) × ((List UInt8) × Unit)) × (Int × (Int × (Int × (Int × Unit))))))) × Unit)))) × Int × Unit) := []

theorem zp6 (N : Nat) (x : z1v [(0, .v (.sl (.pair .str (.pair (.int .i64) (.pair (.int .i64) .unit))))), (0, .v (.int .i64))]) : zbu (ziw N) N (zo8 N) zo9 Go.Proofs.Try.f7 (mkS [(0, .v (.sl (.pair .str (.pair (.int .i64) (.pair (.int .i64) .unit))))), (0, .v (.int .i64))] 0 x) (z4p (.otup [(.nb (.pair (.own (.pair .str (.pair (.int .i64) (.pair (.int .i64) .unit)))) (.pair (.int .i64) (.pair (.mp (.pair .str (.pair .str .unit)) (.pair (.int .i64) (.pair (.int .i64) (.pair (.int .i64) (.pair (.int .i64) .unit))))) .unit)))), (.int .i64)]) 2) = zfc N x.1 x.2.1 := by kernel_rfl

def ze3 (N : Nat) : List A -> Res := z1w [(0, .v (.sl (.pair .str (.pair (.int .i64) (.pair (.int .i64) .unit))))), (0, .v (.int .i64))] (fun x => zfc N x.1 x.2.1) (zaf (.otup [(.nb (.pair (.own (.pair .str (.pair (.int .i64) (.pair (.int .i64) .unit)))) (.pair (.int .i64) (.pair (.mp (.pair .str (.pair .str .unit)) (.pair (.int .i64) (.pair (.int .i64) (.pair (.int .i64) (.pair (.int .i64) .unit))))) .unit)))), (.int .i64)]) 2)

theorem zlv (N : Nat) : Contract Go.Proofs.Try.prog zj 7 (ze3 N) :=
  Contract.of (E := ziw N) (H := zo8 N) (L := zo9) (N := N) (body := zp7) (K := (z4p (.otup [(.nb (.pair (.own (.pair .str (.pair (.int .i64) (.pair (.int .i64) .unit)))) (.pair (.int .i64) (.pair (.mp (.pair .str (.pair .str .unit)) (.pair (.int .i64) (.pair (.int .i64) (.pair (.int .i64) (.pair (.int .i64) .unit))))) .unit)))), (.int .i64)]) 2)) (ze4 N) Go.Proofs.Try.func7 (by kernel_rfl) (by decide) (fun _ hb => TabOk.nil) (fun x y h => by rw [zp6]; exact h) (z1h (s := (.otup [(.nb (.pair (.own (.pair .str (.pair (.int .i64) (.pair (.int .i64) .unit)))) (.pair (.int .i64) (.pair (.mp (.pair .str (.pair .str .unit)) (.pair (.int .i64) (.pair (.int .i64) (.pair (.int .i64) (.pair (.int .i64) .unit))))) .unit)))), (.int .i64)])) (m := 2))

def z7n : Code := (Go.Proofs.Try.f26.body).getD .skip

def zcs : List (List Nat × List Nat) := [([0], [2, 1, 4]), ([0, 1], [6, 4]), ([0, 1, 1], [6, 7, 4]), ([0, 0, 1, 1, 1], [13, 6, 7, 4]), ([1, 0, 1, 1, 1], [7, 6, 4]), ([0, 1, 0, 1, 1, 1], [7, 6, 4]), ([0, 1, 1, 1, 1], [4, 5]), ([1, 1, 1, 1, 1], [4, 5])]

def z87 (N : Nat) : Env := z42 tys zj [(24, zct N), (32, z7o N)] [] [] [] false [] []

theorem zms (N : Nat) : EnvOk Go.Proofs.Try.prog (z87 N) := z11 mixed z1x (FnsOk.cons (zf3 N) (FnsOk.cons (zez N) (FnsOk.nil))) (ItsOk.nil)

def zab (N : Nat) (x4 : (Int × (Int × (Int × (Int × Unit))))) (later : (Int × (Int × (Int × (Int × Unit))))) (rest : (Int × (Int × (Int × (Int × Unit))))) (k0 : (Int × (Int × (Int × (Int × Unit)))) -> Option ((Int × (Int × (Int × (Int × Unit)))) × Bool × Unit)) : Option ((Int × (Int × (Int × (Int × Unit)))) × Bool × Unit) :=
 (z5r N later).bind fun y =>
 cond y
 (k0 (rest.1, (rest.2.1, ((if ((0 : Int) > (Go.IntKind.wrap Go.IntKind.i64 (later.2.2.1 - (1 : Int)))) then (0 : Int) else (Go.IntKind.wrap Go.IntKind.i64 (later.2.2.1 - (1 : Int)))), rest.2.2.2))))
 (k0 rest)

def zgb (N : Nat) (x : z1v [(4, .box (.pair (.int .i64) (.pair (.int .i64) (.pair (.int .i64) (.pair (.int .i64) .unit))))), (1, .box (.pair (.int .i64) (.pair (.int .i64) (.pair (.int .i64) (.pair (.int .i64) .unit))))), (0, .box (.pair (.int .i64) (.pair (.int .i64) (.pair (.int .i64) (.pair (.int .i64) .unit)))))]) (K : Ex -> List A -> Option ((Int × (Int × (Int × (Int × Unit)))) × Bool × Unit)) : Option ((Int × (Int × (Int × (Int × Unit)))) × Bool × Unit) :=
 zab N x.1 x.2.1 x.2.2.1 (fun a2 => (K .normal (mkS [(4, .box (.pair (.int .i64) (.pair (.int .i64) (.pair (.int .i64) (.pair (.int .i64) .unit))))), (1, .box (.pair (.int .i64) (.pair (.int .i64) (.pair (.int .i64) (.pair (.int .i64) .unit))))), (0, .box (.pair (.int .i64) (.pair (.int .i64) (.pair (.int .i64) (.pair (.int .i64) .unit)))))] 15 (x.1, x.2.1, a2, ()))))

def zga (N : Nat) : Hd ((Int × (Int × (Int × (Int × Unit)))) × Bool × Unit) := fun st K => (unS [(4, .box (.pair (.int .i64) (.pair (.int .i64) (.pair (.int .i64) (.pair (.int .i64) .unit))))), (1, .box (.pair (.int .i64) (.pair (.int .i64) (.pair (.int .i64) (.pair (.int .i64) .unit))))), (0, .box (.pair (.int .i64) (.pair (.int .i64) (.pair (.int .i64) (.pair (.int .i64) .unit)))))] 15 (restr [6, 7, 4] 0 st)).bind fun x => zgb N x K

def znl (N : Nat) : Tab ((Int × (Int × (Int × (Int × Unit)))) × Bool × Unit) := []

theorem zmr {N : Nat} {c : Ctx} (hb : Base Go.Proofs.Try.prog (z87 N) c) : zu Go.Proofs.Try.prog c (ze z7n [0, 1, 1, 1]) (zga N) :=
  zq (s := [(4, .box (.pair (.int .i64) (.pair (.int .i64) (.pair (.int .i64) (.pair (.int .i64) .unit))))), (1, .box (.pair (.int .i64) (.pair (.int .i64) (.pair (.int .i64) (.pair (.int .i64) .unit))))), (0, .box (.pair (.int .i64) (.pair (.int .i64) (.pair (.int .i64) (.pair (.int .i64) .unit)))))]) (m := 15) (g := zgb N) [6, 7, 4] (z9 hb N (znl N) zcs z7n TabOk.nil [0, 1, 1, 1] _ rfl) (fun x K => by kernel_rfl)

def z39 (N : Nat) (b : (Int × (Int × (Int × (Int × Unit))))) (now : Int) : Option ((Int × (Int × (Int × (Int × Unit)))) × Bool × Unit) :=
 (z4o N b now).bind fun y =>
 zab N ((0 : Int), ((0 : Int), ((0 : Int), ((0 : Int), ())))) y y
 (fun rest => some (rest, ((!(Go.Lift.eqD (Go.Lift.T.pair (Go.Lift.T.int Go.IntKind.i64) (Go.Lift.T.pair (Go.Lift.T.int Go.IntKind.i64) (Go.Lift.T.pair (Go.Lift.T.int Go.IntKind.i64) (Go.Lift.T.pair (Go.Lift.T.int Go.IntKind.i64) Go.Lift.T.unit)))) rest y)), ())))

def zie (N : Nat) : Tab ((Int × (Int × (Int × (Int × Unit)))) × Bool × Unit) := [([0, 1, 1, 1], zga N)]

theorem zku (N : Nat) (x : z1v [(0, .v (.pair (.int .i64) (.pair (.int .i64) (.pair (.int .i64) (.pair (.int .i64) .unit))))), (0, .v (.int .i64))]) : zbu (z87 N) N (zie N) zcs Go.Proofs.Try.f26 (mkS [(0, .v (.pair (.int .i64) (.pair (.int .i64) (.pair (.int .i64) (.pair (.int .i64) .unit))))), (0, .v (.int .i64))] 0 x) (z4p (.tup [(.pair (.int .i64) (.pair (.int .i64) (.pair (.int .i64) (.pair (.int .i64) .unit)))), .bool]) 2) = z39 N x.1 x.2.1 := by kernel_rfl

def zey (N : Nat) : List A -> Res := z1w [(0, .v (.pair (.int .i64) (.pair (.int .i64) (.pair (.int .i64) (.pair (.int .i64) .unit))))), (0, .v (.int .i64))] (fun x => z39 N x.1 x.2.1) (zaf (.tup [(.pair (.int .i64) (.pair (.int .i64) (.pair (.int .i64) (.pair (.int .i64) .unit)))), .bool]) 2)

theorem zgc (N : Nat) : Contract Go.Proofs.Try.prog zj 26 (zey N) :=
  Contract.of (E := z87 N) (H := zie N) (L := zcs) (N := N) (body := z7n) (K := (z4p (.tup [(.pair (.int .i64) (.pair (.int .i64) (.pair (.int .i64) (.pair (.int .i64) .unit)))), .bool]) 2)) (zms N) Go.Proofs.Try.func26 (by kernel_rfl) (by decide) (fun _ hb => (TabOk.cons (zmr hb) TabOk.nil)) (fun x y h => by rw [zku]; exact h) (z1h (s := (.tup [(.pair (.int .i64) (.pair (.int .i64) (.pair (.int .i64) (.pair (.int .i64) .unit)))), .bool])) (m := 2))

abbrev OwT : T := .pair .str (.pair .str .unit)

abbrev BkT : T := .pair (.int .i64) (.pair (.int .i64) (.pair (.int .i64) (.pair (.int .i64) .unit)))

abbrev RtT : T := .pair (.own ClassT) (.pair (.int .i64) (.pair (.mp OwT BkT) .unit))

abbrev RtA : T := .pair (.own ClassT) (.pair (.int .i64) (.pair .opq .unit))

theorem zfg (S : Hp) : GlobOk zj S := fun g d h => by cases h

theorem zwn (S : Hp) (t c : List UInt8) : VR S OwT (t, (c, ())) (.agg #[.string ⟨⟨t⟩⟩, .string ⟨⟨c⟩⟩]) :=
  show ∃ cs, _ = Value.agg cs /\ Rd S OwT (t, (c, ())) cs.toList from ⟨_, rfl, [.string ⟨⟨t⟩⟩], _, rfl, rfl, [.string ⟨⟨c⟩⟩], [], rfl, rfl, rfl⟩

abbrev bkV (a b c d : Int) : Value := .agg #[.int .i64 a, .int .i64 b, .int .i64 c, .int .i64 d]

theorem zy8 (S : Hp) (a b c d : Int) : VR S BkT (a, (b, (c, (d, ())))) (bkV a b c d) :=
  show ∃ cs, _ = Value.agg cs /\ Rd S BkT (a, (b, (c, (d, ())))) cs.toList from
    ⟨_, rfl, [.int .i64 a], _, rfl, rfl, [.int .i64 b], _, rfl, rfl, [.int .i64 c], _, rfl, rfl, [.int .i64 d], [], rfl, rfl, rfl⟩

theorem zy9 {S : Hp} {a b c d : Int} {v : Value} (h : VR S BkT (a, (b, (c, (d, ())))) v) : v = bkV a b c d := by
  have h' : ∃ cs, v = .agg cs /\ Rd S BkT (a, (b, (c, (d, ())))) cs.toList := h
  obtain ⟨cs, rfl, c1, c2, hc, k1, c3, c4, hc', k2, c5, c6, hc'', k3, c7, c8, hc3, k4, k5⟩ := h'
  have e1 : c1 = [.int .i64 a] := k1
  have e2 : c3 = [.int .i64 b] := k2
  have e3 : c5 = [.int .i64 c] := k3
  have e4 : c7 = [.int .i64 d] := k4
  have e5 : c8 = [] := k5
  congr 1
  apply Array.toList_inj.1
  rw [hc, hc', hc'', hc3, e1, e2, e3, e4, e5]
  rfl

theorem zvv {h S : Hp} {a b c d : Int} {ok : Bool} {v : Value} {o : List Nat} (hr : ARel h S (fun _ => undef) (.tup [⟨BkT, (a, (b, (c, (d, ()))))⟩, ⟨.bool, ok⟩]) v o) : v = .tuple #[bkV a b c d, .bool ok] := by
  obtain ⟨_, vs, rfl, ht⟩ := hr
  generalize hvs : vs.toList = l at ht
  cases ht with
  | cons h1 ht =>
  cases ht with
  | cons h2 ht =>
  cases ht
  congr 1
  apply Array.toList_inj.1
  rw [hvs, zy9 h1, VR.bool_inv h2]

theorem ztc {h S : Hp} {cls : List ClassT.den} {start : Int} {m : Option (List (OwT.den × BkT.den))} {v : Value} {o : List Nat} (hr : ARel h S (fun _ => undef) (.box RtT (cls, (start, (m, ())))) v o) :
    ∃ b sv mv E fr b1 b2, o = b :: (b1 ++ b2) /\ v = .pointer (some ⟨b, 0, none⟩) /\ h b = some (.cells #[sv, .int .i64 start, mv] E fr) /\ Free #[sv, .int .i64 start, mv] fr /\ RowRel h S ClassT cls sv b1 /\ MpRel h S OwT BkT m mv b2 := by
  obtain ⟨b, cs, E, fr, bs, rfl, rfl, hb, hf, c1, c2, b1, b2, hc, hbs, ⟨sv, hsv, hrow⟩, c3, c4, b3, b4, hc', hbs', ⟨hb3, hi⟩, c5, c6, b5, b6, hc'', hbs'', ⟨mv, hmv, hmp⟩, ⟨hb6, hu⟩⟩ := hr
  have e3 : c3 = [.int .i64 start] := hi
  have e6 : c6 = [] := hu
  have ecs : cs = #[sv, .int .i64 start, mv] := by
    apply Array.toList_inj.1
    rw [hc, hc', hc'', hsv, e3, hmv, e6]; rfl
  subst ecs
  exact ⟨b, sv, mv, E, fr, b1, b5, by rw [hbs, hbs', hbs'', hb3, hb6]; simp, rfl, hb, hf, hrow, hmp⟩

theorem z11w {h S : Hp} {cls : List ClassT.den} {start : Int} {m : Option (List (OwT.den × BkT.den))} {b E : Nat} {fr : Nat × Nat} {sv mv : Value} {b1 b2 : List Nat} (hb : h b = some (.cells #[sv, .int .i64 start, mv] E fr)) (hf : Free #[sv, .int .i64 start, mv] fr)
    (h1 : RowRel h S ClassT cls sv b1) (h2 : MpRel h S OwT BkT m mv b2) : ARel h S (fun _ => undef) (.box RtT (cls, (start, (m, ())))) (.pointer (some ⟨b, 0, none⟩)) (b :: (b1 ++ b2)) :=
  ⟨b, _, E, fr, _, rfl, rfl, hb, hf, [sv], [.int .i64 start, mv], b1, b2, rfl, rfl, ⟨sv, rfl, h1⟩, [.int .i64 start], [mv], [], b2, rfl, rfl, ⟨rfl, rfl⟩, [mv], [], b2, [], rfl, by simp, ⟨mv, rfl, h2⟩, ⟨rfl, rfl⟩⟩

theorem zqo {w0 : World} {w : World} {S0 : Hp} {ob0 : List Nat} {bf : Nat} {L : List (Nat × Array Value × Nat)} {cls : List ClassT.den} {start : Int} {xs : List (OwT.den × BkT.den)} (h : BSt RtT w0 S0 ob0 bf w (cls, (start, (some xs, ()))) L) : ∃ mb, w.cell? ⟨bf, 2, none⟩ = some (.map (some mb)) := by
  obtain ⟨S, o, h1, h2, h3, h4, h5, h6, h7, hL⟩ := h
  obtain ⟨b, sv, mv, E, fr, b1, b2, rfl, e, hb, hf, hrow, hmp⟩ := ztc h5
  cases e
  rcases hmp with ⟨e, _⟩ | ⟨xs', mb, es, cl, e, e1, e2, e3, _⟩
  . cases e
  . subst e2
    have hb' : w.heap[bf]? = _ := hb
    exact ⟨mb, by simp [World.cell?, hb']⟩

theorem zw9 {w0 : World} {w : World} {S0 : Hp} {ob0 : List Nat} {bf : Nat} {L : List (Nat × Array Value × Nat)} (N : Nat) {cls : List ClassT.den} {start : Int} {xs : List (OwT.den × BkT.den)} {mb : Nat} (t c : List UInt8) (h : BSt RtT w0 S0 ob0 bf w (cls, (start, (some xs, ()))) L) (hc : w.cell? ⟨bf, 2, none⟩ = some (.map (some mb))) :
    ∃ a1 a2 a3 a4, (z4m (eqD OwT) (t, (c, ())) xs).getD (0, (0, (0, (0, ())))) = (a1, (a2, (a3, (a4, ())))) /\ (Instr.lookup 46 (.map (some mb)) (.agg #[.string ⟨⟨t⟩⟩, .string ⟨⟨c⟩⟩]) true).run Try.prog w = .ok (.tuple #[bkV a1 a2 a3 a4, .bool (z4m (eqD OwT) (t, (c, ())) xs).isSome]) w := by
  obtain ⟨S, o, h1, h2, h3, h4, h5, h6, h7, hL⟩ := h
  obtain ⟨b, sv, mv, E, fr, b1, b2, rfl, e, hb, hf, hrow, hmp⟩ := ztc h5
  cases e
  have hb' : w.heap[bf]? = _ := hb
  have hmv : mv = .map (some mb) := by simpa [World.cell?, hb'] using hc
  subst hmv
  rcases hmp with ⟨e, _⟩ | ⟨xs', mb', es, cl, e, e1, e2, e3, e4, _⟩
  . cases e
  . cases e; cases e2
    obtain ⟨u, hu, hrun⟩ := zs6 (ze4 N) (S := S) (t := 46) (ki := 58) (ke := ty58) (ve := ty54) (by kernel_rfl) (zwn S t c) e3 e4
    generalize hq : (z4m (eqD OwT) (t, (c, ())) xs).getD (0, (0, (0, (0, ())))) = q
    obtain ⟨a1, a2, a3, a4, ⟨⟩⟩ := q
    refine ⟨a1, a2, a3, a4, rfl, ?_⟩
    have hu' : VR S BkT (a1, (a2, (a3, (a4, ())))) u := by rw [<- hq]; exact hu
    rw [zy9 hu'] at hrun
    exact hrun

theorem zyb {w : World} {S : Hp} : ArgsRel (hp w) S [] [] (fun _ => []) := ⟨rfl, (fun i y hy => by simp at hy), fun _ _ => rfl, (fun i j b hb => by cases hb), fun _ => .nil, (fun i b hb => by cases hb)⟩

theorem zzo {w : World} {S : Hp} {a : A} {v : Value} (h : ARel (hp w) S (fun _ => undef) a v []) (hr : a.refs = []) : ArgsRel (hp w) S [a] [v] (fun _ => []) := by
  refine ⟨rfl, fun i y hy => ?_, fun _ _ => rfl, (fun i j b hb => by cases hb), fun _ => .nil, (fun i b hb => by cases hb)⟩
  cases i with
  | zero => simp at hy; subst hy; exact ⟨⟨v, rfl, h⟩, hr⟩
  | succ i => simp at hy

theorem zu5 {w : World} {S : Hp} {a b : A} {v u : Value} (h : ARel (hp w) S (fun _ => undef) a v []) (hr : a.refs = []) (h2 : ARel (hp w) S (fun _ => undef) b u []) (hr2 : b.refs = []) : ArgsRel (hp w) S [a, b] [v, u] (fun _ => []) := by
  refine ⟨rfl, fun i y hy => ?_, fun _ _ => rfl, (fun i j b hb => by cases hb), fun _ => .nil, (fun i b hb => by cases hb)⟩
  cases i with
  | zero => simp at hy; subst hy; exact ⟨⟨v, rfl, h⟩, hr⟩
  | succ i =>
    cases i with
    | zero => simp at hy; subst hy; exact ⟨⟨u, rfl, h2⟩, hr2⟩
    | succ i => simp at hy

theorem zbj {w0 : World} {w : World} {S0 : Hp} {ob0 : List Nat} {bf : Nat} {L : List (Nat × Array Value × Nat)} (N : Nat) {cls : List ClassT.den} {start : Int} {m : Option (List (OwT.den × BkT.den))} (h : BSt RtT w0 S0 ob0 bf w (cls, (start, (m, ()))) L) :
    Calls Try.prog 21 #[.pointer (some ⟨bf, 0, none⟩)] w fun e w' => e = .returned (.bool m.isSome) /\ BSt RtT w0 S0 ob0 bf w' (cls, (start, (m, ()))) L := by
  have hy : z8h N (cls, (start, (m, ()))) = some (m.isSome, ((cls, (start, (m, ()))), ())) := by
    show some (!(!m.isSome), _) = _
    rw [Bool.not_not]
  refine (BSt.boxed (z9n N) zfg h (args := []) (vals := []) (fun S _ => zyb) (y := (m.isSome, ((cls, (start, (m, ()))), ()))) hy rfl).mono ?_
  rintro e w' ⟨v, S', o', rfl, hr, h'⟩
  exact ⟨by rw [VR.bool_inv hr.1], h'⟩

def zi6 (N : Nat) (cls : List ClassT.den) (start : Int) (o : OwT.den) : Option (BkT.den × (Bool × Unit)) := (z20 N (cls, (start, (.nilIface, ()))) o).map (·.1)

theorem zxi (N : Nat) (cls : List ClassT.den) (start : Int) (v : Value) (o : OwT.den) : z20 N (cls, (start, (v, ()))) o = (zi6 N cls start o).bind fun q => some (q, ((cls, (start, (v, ()))), ())) := by
  unfold zi6 z20
  dsimp only
  cases z8f N cls o.2.1 with
  | none => rfl
  | some y =>
    simp only [Option.bind_some]
    cases decide (y < 0) with
    | true => rfl
    | false =>
      simp only [cond_false]
      cases inR y (List.length cls) with
      | false => rfl
      | true =>
        simp only [cond_true]
        cases decide (Int.toNat y < List.length cls) <;> rfl

theorem zvd {w0 : World} {w : World} {S0 : Hp} {ob0 : List Nat} {bf : Nat} {L : List (Nat × Array Value × Nat)} (N : Nat) {cls : List ClassT.den} {start : Int} {xs : List (OwT.den × BkT.den)} {mb : Nat} {t c : List UInt8} {a1 a2 a3 a4 : Int} {ok : Bool} (h : BSt RtT w0 S0 ob0 bf w (cls, (start, (some xs, ()))) L) (hc : w.cell? ⟨bf, 2, none⟩ = some (.map (some mb)))
    (hy : zi6 N cls start (t, (c, ())) = some ((a1, (a2, (a3, (a4, ())))), (ok, ()))) :
    Calls Try.prog 23 #[.pointer (some ⟨bf, 0, none⟩), .agg #[.string ⟨⟨t⟩⟩, .string ⟨⟨c⟩⟩]] w fun e w' => e = .returned (.tuple #[bkV a1 a2 a3 a4, .bool ok]) /\ BSt RtT w0 S0 ob0 bf w' (cls, (start, (some xs, ()))) L /\ w'.cell? ⟨bf, 2, none⟩ = some (.map (some mb)) := by
  obtain ⟨S, o, h1, h2, h3, h4, h5, h6, h7, hL⟩ := h
  obtain ⟨b, sv, mv, E, fr, p1, p2, rfl, e, hb, hf, hrow, hmp⟩ := ztc h5
  cases e
  have hb' : w.heap[bf]? = _ := hb
  have hmv : mv = .map (some mb) := by simpa [World.cell?, hb'] using hc
  subst hmv
  have hmp' := hmp
  rcases hmp with ⟨e, _⟩ | ⟨xs', mb', es, cl, e, e1, e2, e3, e4, e5, e6⟩
  . cases e
  cases e; cases e2
  subst e1
  have h6' := h6
  rw [List.nodup_cons, List.nodup_append] at h6'
  obtain ⟨n1, n2, n3, n4⟩ := h6'
  have hbm : bf ≠ mb := fun e => n1 (by simp [e])
  have hpm : mb ∉ p1 := fun hm => n4 mb hm mb (by simp) rfl
  have hms : mb < w.heap.size := by
    have : w.heap[mb]? = _ := e3
    exact (Array.getElem?_eq_some_iff.1 this).1
  have h5' : ARel (hp w) S (fun _ => undef) (.box RtA (cls, (start, (.map (some mb), ())))) (.pointer (some ⟨bf, 0, none⟩)) (bf :: p1) :=
    ⟨bf, _, E, fr, _, rfl, rfl, hb, hf, [sv], [.int .i64 start, .map (some mb)], p1, [], rfl, by simp, ⟨sv, rfl, hrow⟩, [.int .i64 start], [.map (some mb)], [], [], rfl, rfl, ⟨rfl, rfl⟩, [.map (some mb)], [], [], [], rfl, rfl, ⟨rfl, rfl, rfl⟩, ⟨rfl, rfl⟩⟩
  have har := zu6 h5' (List.nodup_cons.2 ⟨fun hm => n1 (by simp [hm]), n2⟩) (fun k hk => (h7 k (by simp at hk ⊢; rcases hk with hk | hk <;> simp [hk])).1) (zzo (a := .v OwT (t, (c, ()))) (v := .agg #[.string ⟨⟨t⟩⟩, .string ⟨⟨c⟩⟩]) ⟨zwn S t c, rfl⟩ rfl)
  have hy' : z20 N (cls, (start, (.map (some mb), ()))) (t, (c, ())) = some (((a1, (a2, (a3, (a4, ())))), (ok, ())), ((cls, (start, (.map (some mb), ()))), ())) := by
    rw [zxi, hy]; rfl
  refine ((z4u N).2 w S _ _ _ har h3 (zfg S) (((a1, (a2, (a3, (a4, ())))), (ok, ())), ((cls, (start, (.map (some mb), ()))), ())) hy').mono ?_
  rintro e w' ⟨v, S', q, ob', rfl, hwf, hSS, hSw, hnew, ⟨hr, _⟩, hq, _, hbox, hob1, hob2, hob3, _⟩
  have hin : ∀ k, (∃ i, k ∈ (fun i => if i = 0 then bf :: p1 else []) i) -> k ∈ bf :: p1 := by
    rintro k ⟨i, hi⟩
    by_cases hi0 : i = 0
    . simpa [hi0] using hi
    . simp [hi0] at hi
  have hmn : mb ∉ bf :: p1 := by
    intro hm
    rcases List.mem_cons.1 hm with hm | hm
    . exact hbm hm.symm
    . exact hpm hm
  obtain ⟨x2, v2, g1, g2, _, g4⟩ := hbox 0 _ rfl rfl
  cases g1
  simp at g2
  subst g2
  obtain ⟨b', cs', E', fr', bs', eo, ev, hb2, hf2, c1, c2, q1, q2, hcs, hbs, ⟨sv', hsv, hrow'⟩, c3, c4, q3, q4, hcs', hbs', ⟨hq3, hi⟩, c5, c6, q5, q6, hcs'', hbs'', ⟨hq5, hop, _⟩, ⟨hq6, hu⟩⟩ := g4
  cases ev
  have i3 : c3 = [.int .i64 start] := hi
  have i6 : c6 = [] := hu
  have ecs : cs' = #[sv', .int .i64 start, .map (some mb)] := by
    apply Array.toList_inj.1
    rw [hcs, hcs', hcs'', hsv, i3, hop, i6]; rfl
  subst ecs
  have ebs : bs' = q1 := by rw [hbs, hbs', hbs'', hq3, hq5, hq6]; simp
  subst ebs
  have hsame : hp w' mb = hp w mb := hwf.same mb hms (fun hh => hmn (hin mb hh))
  have hnd := hob3 0
  rw [eo] at hnd
  have hfar : ∀ k ∈ bf :: bs', k ≠ mb := by
    rintro k hk rfl
    have := (hob1 0 k (by rw [eo]; exact hk)).1
    rcases this with h | h
    . exact hmn (hin k h)
    . omega
  refine ⟨by rw [zvv hr], zy4 h1 h2 h4 h7 hL (S' := S') (o' := bf :: (bs' ++ [mb])) ⟨hwf.size, fun k hk hn => hwf.same k hk (fun hh => hn (by have := hin k hh; simp at this ⊢; rcases this with h | h <;> simp [h])), hwf.tape, hwf.os, hwf.output⟩ hSS hSw (fun k hk => ?_) ?_ ?_ (fun k hk => ?_), ?_⟩
  . rcases hnew k hk with h | h | h
    . exact .inl h
    . exact .inr (.inl (by have := hin k h; simp at this ⊢; rcases this with h | h <;> simp [h]))
    . exact .inr (.inr h)
  . exact z11w hb2 hf2 hrow' (hmp'.mono hSS (fun k hk => by rw [List.mem_singleton.1 hk]; exact hsame))
  . rw [<- List.cons_append, List.nodup_append]
    exact ⟨hnd, by simp, fun k hk u hu => by rw [List.mem_singleton.1 hu]; exact hfar k hk⟩
  . have hk' : k ∈ bf :: bs' \/ k = mb := by simp at hk ⊢; rcases hk with h | h | h <;> simp [h]
    rcases hk' with hk' | rfl
    . obtain ⟨z1, z2, _⟩ := hob1 0 k (by rw [eo]; exact hk')
      refine ⟨z2, ?_⟩
      rcases z1 with h | h
      . exact .inl (by have := hin k h; simp at this ⊢; rcases this with h | h <;> simp [h])
      . exact .inr h
    . refine ⟨?_, .inl (by simp)⟩
      cases hs : S' k with
      | none => rfl
      | some u =>
        rcases hnew k (by rw [hs]; simp) with h | h | h
        . exact absurd (h7 k (by simp)).1 h
        . exact absurd (hin k h) hmn
        . omega
  . have hb2' : w'.heap[bf]? = _ := hb2
    simp [World.cell?, hb2']

theorem zvk {w0 : World} {w : World} {S0 : Hp} {ob0 : List Nat} {bf : Nat} {L : List (Nat × Array Value × Nat)} (N : Nat) {x : RtT.den} {a1 a2 a3 a4 b1 b2 b3 b4 now : Int} {ok : Bool} (h : BSt RtT w0 S0 ob0 bf w x L) (hy : z39 N (a1, (a2, (a3, (a4, ())))) now = some ((b1, (b2, (b3, (b4, ())))), (ok, ()))) :
    Calls Try.prog 26 #[bkV a1 a2 a3 a4, .int .i64 now] w fun e w' => e = .returned (.tuple #[bkV b1 b2 b3 b4, .bool ok]) /\ BSt RtT w0 S0 ob0 bf w' x L := by
  refine (BSt.plain (zgc N) zfg h (args := [.v BkT (a1, (a2, (a3, (a4, ())))), .v (.int .i64) now]) (vals := [bkV a1 a2 a3 a4, .int .i64 now]) (fun S _ => zu5 ⟨zy8 S a1 a2 a3 a4, rfl⟩ rfl ⟨VR.int, rfl⟩ rfl) (y := ((b1, (b2, (b3, (b4, ())))), (ok, ()))) hy).mono ?_
  rintro e w' ⟨v, S', o', rfl, hr, h'⟩
  exact ⟨by rw [zvv hr], h'⟩

theorem zzk {w0 : World} {w : World} {S0 : Hp} {ob0 : List Nat} {bf : Nat} {L : List (Nat × Array Value × Nat)} (N : Nat) {x : RtT.den} {a1 a2 a3 a4 b1 b2 b3 b4 now : Int} (h : BSt RtT w0 S0 ob0 bf w x L) (hy : z4o N (a1, (a2, (a3, (a4, ())))) now = some (b1, (b2, (b3, (b4, ()))))) :
    Calls Try.prog 24 #[bkV a1 a2 a3 a4, .int .i64 now] w fun e w' => e = .returned (.agg #[.int .i64 b1, .int .i64 b2, .int .i64 b3, .int .i64 b4]) /\ BSt RtT w0 S0 ob0 bf w' x L := by
  refine (BSt.plain (zf3 N) zfg h (args := [.v BkT (a1, (a2, (a3, (a4, ())))), .v (.int .i64) now]) (vals := [bkV a1 a2 a3 a4, .int .i64 now]) (fun S _ => zu5 ⟨zy8 S a1 a2 a3 a4, rfl⟩ rfl ⟨VR.int, rfl⟩ rfl) (y := (b1, (b2, (b3, (b4, ()))))) hy).mono ?_
  rintro e w' ⟨v, S', o', rfl, hr, h'⟩
  exact ⟨by rw [zy9 hr.1], h'⟩

def z24 (N : Nat) (r : RtT.den) (o : OwT.den) : Option ((BkT.den × (Bool × Unit)) × RtT.den) := match z4m (eqD OwT) o (r.2.2.1.getD []) with
  | some b => some ((b, (true, ())), r)
  | none => (zi6 N r.1 r.2.1 o).bind fun q => some (q, r)

theorem z2j {w : World} {cs : Array Value} {E : Nat} {p : Addr} {v : Value} (h : w.cell? p = some v) : (w.alloc (.cells cs E)).cell? p = some v := Go.Lib.cell?_alloc_some _ h

theorem zpz {w : World} {cs : Array Value} {E i : Nat} {v : Value} (h : cs[i]? = some v) : (w.alloc (.cells cs E)).cell? ⟨w.heap.size, i, none⟩ = some v := by
  have hh : (w.alloc (.cells cs E)).heap = w.heap.push (.cells cs E (0, 0)) := rfl
  simp [World.cell?, hh, h]

theorem z128 (w : World) (cs : Array Value) (E : Nat) : (w.alloc (.cells cs E)).heap.size = w.heap.size + 1 := Array.size_push ..

theorem z129 {w : World} {A cs : Array Value} {F E i : Nat} {v : Value} (h : cs[i]? = some v) : ((w.alloc (.cells A F)).alloc (.cells cs E)).cell? ⟨w.heap.size + 1, i, none⟩ = some v := by
  have := zpz (w := w.alloc (.cells A F)) (E := E) h
  rwa [z128] at this

theorem zif {w : World} {p : Addr} {v : Value} (hc : w.cell? p = some v) : p.block < w.heap.size := by
  cases hh : w.heap[p.block]? with
  | none => simp [World.cell?, hh] at hc
  | some o => exact (Array.getElem?_eq_some_iff.1 hh).1

theorem z25 {w : World} {p q : Addr} {x : Value} (h : q.block ≠ p.block) : (w.setCell p x).cell? q = w.cell? q := by
  simp only [World.setCell, World.cell?]
  rw [Array.getElem?_modify, if_neg (Ne.symm h)]

theorem ztq {w : World} {n : Nat} {tmps : Array Value} {a1 a2 a3 a4 : Int} {ok : Bool} (h6 : tmps.getD 6 undef = .pointer (some ⟨n, 0, none⟩)) (h7 : tmps.getD 7 undef = .bool ok)
    (c0 : w.cell? ⟨n, 0, none⟩ = some (.int .i64 a1)) (c1 : w.cell? ⟨n, 1, none⟩ = some (.int .i64 a2)) (c2 : w.cell? ⟨n, 2, none⟩ = some (.int .i64 a3)) (c3 : w.cell? ⟨n, 3, none⟩ = some (.int .i64 a4)) :
    (results Try.f22 tmps).run Try.prog w = .ok (.tuple #[bkV a1 a2 a3 a4, .bool ok]) w := by
  rw [results_cell_tmp rfl, h6, h7]
  simp [asAddr, Go.loadVar, go_sem, c0, c1, c2, c3]

set_option maxHeartbeats 4000000 in
theorem zv2 (N : Nat) {w0 w : World} {S0 : Hp} {ob0 : List Nat} {bf : Nat} {L : List (Nat × Array Value × Nat)} {cls : List ClassT.den} {start : Int} {xs : List (OwT.den × BkT.den)} {mb : Nat} {t c : List UInt8} {a1 a2 a3 a4 : Int} {fv : Value}
    (h : BSt RtT w0 S0 ob0 bf w (cls, (start, (some xs, ()))) L) (hc : w.cell? ⟨bf, 2, none⟩ = some (.map (some mb)))
    (hl : z4m (eqD OwT) (t, (c, ())) xs = some (a1, (a2, (a3, (a4, ()))))) {R : Ending -> World -> Prop} (HR : ∀ w', BSt RtT w0 S0 ob0 bf w' (cls, (start, (some xs, ()))) L -> w'.cell? ⟨bf, 2, none⟩ = some (.map (some mb)) -> R (.returned (.tuple #[bkV a1 a2 a3 a4, .bool true])) w') :
    Calls Try.prog 22 #[.map (some mb), .agg #[.string ⟨⟨t⟩⟩, .string ⟨⟨c⟩⟩], fv] w R := by
  have HH := Go.Lib.hid HR
  have H1 := (h.alloc #[.string ⟨⟨t⟩⟩, .string ⟨⟨c⟩⟩] 58).alloc #[.int .i64 0, .int .i64 0, .int .i64 0, .int .i64 0] 54
  obtain ⟨b1, b2, b3, b4, e1, e2⟩ := zw9 N t c H1 (z2j (z2j hc))
  rw [hl] at e1 e2
  cases e1
  have HS := Go.Lib.hid h
  have HC := Go.Lib.hid hc
  clear HR H1 h hl hc
  go_enter Try.func22, Try.ntmps22
  go_wp2
  refine bodyPost_ret (ztq (n := w.heap.size + 1) (a1 := a1) (a2 := a2) (a3 := a3) (a4 := a4) (ok := true) rfl rfl ?_ ?_ ?_ ?_) rfl ?_
  iterate 4 · exact z2j (z129 rfl)
  exact HH.out _ ((((HS.out.alloc _ _).alloc _ _).alloc _ _).swap (fun p hp => by simp [hp])) (z2j (z2j (z2j HC.out)))

set_option maxHeartbeats 4000000 in
theorem zv1 (N : Nat) {w0 w : World} {S0 : Hp} {ob0 : List Nat} {bf : Nat} {L : List (Nat × Array Value × Nat)} {cls : List ClassT.den} {start : Int} {xs : List (OwT.den × BkT.den)} {mb : Nat} {t c : List UInt8} {a1 a2 a3 a4 : Int} {ok : Bool}
    (h : BSt RtT w0 S0 ob0 bf w (cls, (start, (some xs, ()))) L) (hc : w.cell? ⟨bf, 2, none⟩ = some (.map (some mb)))
    (hl : z4m (eqD OwT) (t, (c, ())) xs = none) (hy : zi6 N cls start (t, (c, ())) = some ((a1, (a2, (a3, (a4, ())))), (ok, ()))) {R : Ending -> World -> Prop} (HR : ∀ w', BSt RtT w0 S0 ob0 bf w' (cls, (start, (some xs, ()))) L -> w'.cell? ⟨bf, 2, none⟩ = some (.map (some mb)) -> R (.returned (.tuple #[bkV a1 a2 a3 a4, .bool ok])) w') :
    Calls Try.prog 22 #[.map (some mb), .agg #[.string ⟨⟨t⟩⟩, .string ⟨⟨c⟩⟩], .func (.func 23) #[.pointer (some ⟨bf, 0, none⟩)] #[]] w R := by
  have HH := Go.Lib.hid HR
  have HD := Go.Lib.hid (fun (q : Nat × Array Value × Nat) (hq : q ∈ L) => (Nat.ne_of_lt (Nat.lt_succ_of_lt (h.lt q hq)) : q.1 ≠ w.heap.size + 1))
  have H1 := (h.alloc #[.string ⟨⟨t⟩⟩, .string ⟨⟨c⟩⟩] 58).alloc #[.int .i64 0, .int .i64 0, .int .i64 0, .int .i64 0] 54
  obtain ⟨b1, b2, b3, b4, e1, e2⟩ := zw9 N t c H1 (z2j (z2j hc))
  rw [hl] at e1 e2
  cases e1
  have H2 := (H1.alloc #[.int .i64 0, .int .i64 0, .int .i64 0, .int .i64 0] 54)
  simp only [z128] at H2
  have HF := zvd N H2 (z2j (z2j (z2j hc))) hy
  have HL := Go.Lib.hid (zif hc)
  clear HR H1 h hl hc H2 hy
  go_enter Try.func22, Try.ntmps22
  go_wp2_with (go_at_call 23; refine HF.mono ?_; rintro r w2 ⟨rfl, hq, hm⟩; have Q := Go.Lib.hid hq; have QM := Go.Lib.hid hm; have q0 := hq.cell (p := w.heap.size + 1) (cs := #[.int .i64 0, .int .i64 0, .int .i64 0, .int .i64 0]) (E := 54) (i := 0) (v := .int .i64 0) (by simp) rfl; have q1 := hq.cell (p := w.heap.size + 1) (cs := #[.int .i64 0, .int .i64 0, .int .i64 0, .int .i64 0]) (E := 54) (i := 1) (v := .int .i64 0) (by simp) rfl; have q2 := hq.cell (p := w.heap.size + 1) (cs := #[.int .i64 0, .int .i64 0, .int .i64 0, .int .i64 0]) (E := 54) (i := 2) (v := .int .i64 0) (by simp) rfl; have q3 := hq.cell (p := w.heap.size + 1) (cs := #[.int .i64 0, .int .i64 0, .int .i64 0, .int .i64 0]) (E := 54) (i := 3) (v := .int .i64 0) (by simp) rfl; have f0 := hq.free (p := w.heap.size + 1) (cs := #[.int .i64 0, .int .i64 0, .int .i64 0, .int .i64 0]) (E := 54) (i := 0) (by simp); have f1 := hq.free (p := w.heap.size + 1) (cs := #[.int .i64 0, .int .i64 0, .int .i64 0, .int .i64 0]) (E := 54) (i := 1) (by simp); have f2 := hq.free (p := w.heap.size + 1) (cs := #[.int .i64 0, .int .i64 0, .int .i64 0, .int .i64 0]) (E := 54) (i := 2) (by simp); have f3 := hq.free (p := w.heap.size + 1) (cs := #[.int .i64 0, .int .i64 0, .int .i64 0, .int .i64 0]) (E := 54) (i := 3) (by simp); clear HF hq hm)
  have F := (((((Q.out.swap (L' := (w.heap.size + 1, #[.int .i64 0, .int .i64 0, .int .i64 0, .int .i64 0], 54) :: L) (fun p hp => by rcases List.mem_cons.1 hp with rfl | hp <;> simp [*])).setCell HD.out 0 (.int .i64 a1)).setCell HD.out 1 (.int .i64 a2)).setCell HD.out 2 (.int .i64 a3)).setCell HD.out 3 (.int .i64 a4))
  exact bodyPost_ret (ztq (n := w.heap.size + 1) (a1 := a1) (a2 := a2) (a3 := a3) (a4 := a4) (ok := ok) rfl rfl (F.cell (List.mem_cons_self ..) rfl) (F.cell (List.mem_cons_self ..) rfl) (F.cell (List.mem_cons_self ..) rfl) (F.cell (List.mem_cons_self ..) rfl)) rfl (HH.out _ (F.swap (fun p hp => by simp [hp])) (by have := HL.out; rw [z25, z25, z25, z25]; exact QM.out; all_goals (dsimp only at this ⊢; omega)))

theorem zbk (N : Nat) {w0 w : World} {S0 : Hp} {ob0 : List Nat} {bf : Nat} {L : List (Nat × Array Value × Nat)} {cls : List ClassT.den} {start : Int} {xs : List (OwT.den × BkT.den)} {mb : Nat} {t c : List UInt8} {a1 a2 a3 a4 : Int} {ok : Bool} {x' : RtT.den}
    (h : BSt RtT w0 S0 ob0 bf w (cls, (start, (some xs, ()))) L) (hc : w.cell? ⟨bf, 2, none⟩ = some (.map (some mb)))
    (hy : z24 N (cls, (start, (some xs, ()))) (t, (c, ())) = some (((a1, (a2, (a3, (a4, ())))), (ok, ())), x')) :
    Calls Try.prog 22 #[.map (some mb), .agg #[.string ⟨⟨t⟩⟩, .string ⟨⟨c⟩⟩], .func (.func 23) #[.pointer (some ⟨bf, 0, none⟩)] #[]] w fun e w' => e = .returned (.tuple #[bkV a1 a2 a3 a4, .bool ok]) /\ x' = (cls, (start, (some xs, ()))) /\ BSt RtT w0 S0 ob0 bf w' (cls, (start, (some xs, ()))) L /\ w'.cell? ⟨bf, 2, none⟩ = some (.map (some mb)) := by
  unfold z24 at hy
  dsimp only [Option.getD_some] at hy
  cases hl : z4m (eqD OwT) (t, (c, ())) xs with
  | some b =>
    rw [hl] at hy
    cases hy
    exact zv2 N h hc hl (fun w' h' hm => ⟨rfl, rfl, h', hm⟩)
  | none =>
    rw [hl] at hy
    dsimp only at hy
    cases hf : zi6 N cls start (t, (c, ())) with
    | none => rw [hf] at hy; cases hy
    | some q =>
      rw [hf] at hy
      cases hy
      exact zv1 N h hc hl hf (fun w' h' hm => ⟨rfl, rfl, h', hm⟩)

theorem fld_a (b1 b2 b3 b4 : Int) (w : World) : (Instr.field 54 (.agg #[.int .i64 b1, .int .i64 b2, .int .i64 b3, .int .i64 b4]) 2).run Try.prog w = .ok (.int .i64 b3) w := by
  kernel_rfl

set_option maxHeartbeats 4000000 in
theorem zx8 (N : Nat) {w0 w : World} {S0 : Hp} {ob0 : List Nat} {bf : Nat} {cls : List ClassT.den} {start : Int} {xs : List (OwT.den × BkT.den)} {t c : List UInt8} {now : Int} {a1 a2 a3 a4 b1 b2 b3 b4 : Int} {x' : RtT.den}
    (h : BSt RtT w0 S0 ob0 bf w (cls, (start, (some xs, ()))) [])
    (hy : z24 N (cls, (start, (some xs, ()))) (t, (c, ())) = some (((a1, (a2, (a3, (a4, ())))), (true, ())), x')) (hz : z4o N (a1, (a2, (a3, (a4, ())))) now = some (b1, (b2, (b3, (b4, ()))))) :
    Calls Try.prog 12 #[.pointer (some ⟨bf, 0, none⟩), .string ⟨⟨t⟩⟩, .string ⟨⟨c⟩⟩, .int .i64 now] w fun e w' => e = .returned (.int .i64 b3) /\ BSt RtT w0 S0 ob0 bf w' x' [] := by
  suffices HX : ∀ R : Ending -> World -> Prop, Go.RowKit.Hid (∀ w', BSt RtT w0 S0 ob0 bf w' x' [] -> R (.returned (.int .i64 b3)) w') -> Calls Try.prog 12 #[.pointer (some ⟨bf, 0, none⟩), .string ⟨⟨t⟩⟩, .string ⟨⟨c⟩⟩, .int .i64 now] w R from HX _ (Go.Lib.hid (fun w' h => ⟨rfl, h⟩))
  intro R HR
  have HM := zbj N h
  have HY := Go.Lib.hid hy
  have HZ := Go.Lib.hid hz
  have hfd := fld_a b1 b2 b3 b4
  clear h hy hz
  go_enter Try.func12, Try.ntmps12
  go_wp2_with (first
    | (go_at_call 21; refine HM.mono ?_; rintro r w1 ⟨rfl, hq⟩; obtain ⟨mb, c2⟩ := zqo hq; have HL := zbk N hq c2 HY.out; clear HM hq)
    | (go_at_call 22; refine HL.mono ?_; rintro r w2 ⟨rfl, rfl, hq, hm⟩; have HA := zzk N (hq.alloc #[.int .i64 a1, .int .i64 a2, .int .i64 a3, .int .i64 a4] 54) HZ.out; clear HL hq hm)
    | (go_at_call 24; refine HA.mono ?_; rintro r w3 ⟨rfl, hq⟩; have HE := Go.Lib.hid hq; clear HA hq))
  try go_ret
  exact HR.out _ (HE.out.swap (fun p hp => by cases hp))

set_option maxHeartbeats 4000000 in
theorem z116 (N : Nat) {w0 w : World} {S0 : Hp} {ob0 : List Nat} {bf : Nat} {cls : List ClassT.den} {start : Int} {xs : List (OwT.den × BkT.den)} {t c : List UInt8} {now : Int} {a1 a2 a3 a4 : Int} {x' : RtT.den}
    (h : BSt RtT w0 S0 ob0 bf w (cls, (start, (some xs, ()))) [])
    (hy : z24 N (cls, (start, (some xs, ()))) (t, (c, ())) = some (((a1, (a2, (a3, (a4, ())))), (false, ())), x')) :
    Calls Try.prog 12 #[.pointer (some ⟨bf, 0, none⟩), .string ⟨⟨t⟩⟩, .string ⟨⟨c⟩⟩, .int .i64 now] w fun e w' => e = .returned (.int .i64 0) /\ BSt RtT w0 S0 ob0 bf w' x' [] := by
  suffices HX : ∀ R : Ending -> World -> Prop, Go.RowKit.Hid (∀ w', BSt RtT w0 S0 ob0 bf w' x' [] -> R (.returned (.int .i64 0)) w') -> Calls Try.prog 12 #[.pointer (some ⟨bf, 0, none⟩), .string ⟨⟨t⟩⟩, .string ⟨⟨c⟩⟩, .int .i64 now] w R from HX _ (Go.Lib.hid (fun w' h => ⟨rfl, h⟩))
  intro R HR
  have HM := zbj N h
  have HY := Go.Lib.hid hy
  clear h hy
  go_enter Try.func12, Try.ntmps12
  go_wp2_with (first
    | (go_at_call 21; refine HM.mono ?_; rintro r w1 ⟨rfl, hq⟩; obtain ⟨mb, c2⟩ := zqo hq; have HL := zbk N hq c2 HY.out; clear HM hq)
    | (go_at_call 22; refine HL.mono ?_; rintro r w2 ⟨rfl, rfl, hq, hm⟩; have HE := Go.Lib.hid (hq.alloc #[.int .i64 a1, .int .i64 a2, .int .i64 a3, .int .i64 a4] 54); clear HL hq hm))
  try go_ret
  exact HR.out _ (HE.out.swap (fun p hp => by cases hp))

set_option maxHeartbeats 4000000 in
theorem zx9 (N : Nat) {w0 w : World} {S0 : Hp} {ob0 : List Nat} {bf : Nat} {cls : List ClassT.den} {start : Int} {t c : List UInt8} {now : Int}
    (h : BSt RtT w0 S0 ob0 bf w (cls, (start, (none, ()))) []) :
    Calls Try.prog 12 #[.pointer (some ⟨bf, 0, none⟩), .string ⟨⟨t⟩⟩, .string ⟨⟨c⟩⟩, .int .i64 now] w fun e w' => e = .returned (.int .i64 0) /\ BSt RtT w0 S0 ob0 bf w' (cls, (start, (none, ()))) [] := by
  suffices HX : ∀ R : Ending -> World -> Prop, Go.RowKit.Hid (∀ w', BSt RtT w0 S0 ob0 bf w' (cls, (start, (none, ()))) [] -> R (.returned (.int .i64 0)) w') -> Calls Try.prog 12 #[.pointer (some ⟨bf, 0, none⟩), .string ⟨⟨t⟩⟩, .string ⟨⟨c⟩⟩, .int .i64 now] w R from HX _ (Go.Lib.hid (fun w' h => ⟨rfl, h⟩))
  intro R HR
  have HM := zbj N h
  clear h
  go_enter Try.func12, Try.ntmps12
  go_wp2_with (go_at_call 21; refine HM.mono ?_; rintro r w1 ⟨rfl, hq⟩; have HE := Go.Lib.hid hq; clear HM hq)
  try go_ret
  exact HR.out _ HE.out

def z2l (N : Nat) (r : RtT.den) (t c : List UInt8) (now : Int) : Option (Int × (RtT.den × Unit)) := match r.2.2.1 with
  | none => some (0, (r, ()))
  | some _ => (z24 N r (t, (c, ()))).bind fun q => cond q.1.2.1 ((z4o N q.1.1 now).bind fun b => some (b.2.2.1, (q.2, ()))) (some (0, (q.2, ())))

def z8j (N : Nat) : List A -> Res := z1w [(0, .box RtT), (0, .v .str), (0, .v .str), (0, .v (.int .i64))] (fun x => z2l N x.1 x.2.1 x.2.2.1 x.2.2.2.1) (zuy (.v (.int .i64)) [(0, .box RtT)] 3)

theorem zxa (N : Nat) {w0 w : World} {S0 : Hp} {ob0 : List Nat} {bf : Nat} {x x' : RtT.den} {t c : List UInt8} {now v : Int} (h : BSt RtT w0 S0 ob0 bf w x []) (hy : z2l N x t c now = some (v, (x', ()))) :
    Calls Try.prog 12 #[.pointer (some ⟨bf, 0, none⟩), .string ⟨⟨t⟩⟩, .string ⟨⟨c⟩⟩, .int .i64 now] w fun e w' => e = .returned (.int .i64 v) /\ BSt RtT w0 S0 ob0 bf w' x' [] := by
  obtain ⟨cls, start, m, ⟨⟩⟩ := x
  cases m with
  | none => cases hy; exact zx9 N h
  | some xs =>
    replace hy : ((z24 N (cls, (start, (some xs, ()))) (t, (c, ()))).bind fun q => cond q.1.2.1 ((z4o N q.1.1 now).bind fun b => some (b.2.2.1, (q.2, ()))) (some (0, (q.2, ())))) = some (v, (x', ())) := hy
    cases hl : z24 N (cls, (start, (some xs, ()))) (t, (c, ())) with
    | none => rw [hl] at hy; cases hy
    | some q =>
      rw [hl, Option.bind_some] at hy
      obtain ⟨⟨⟨a1, a2, a3, a4, ⟨⟩⟩, ok, ⟨⟩⟩, x2⟩ := q
      cases ok with
      | false => cases hy; exact z116 N h hl
      | true =>
        simp only [cond_true] at hy
        cases hz : z4o N (a1, (a2, (a3, (a4, ())))) now with
        | none => rw [hz] at hy; cases hy
        | some b =>
          rw [hz] at hy
          obtain ⟨b1, b2, b3, b4, ⟨⟩⟩ := b
          cases hy
          exact zx8 N h hl hz

theorem zya {w : World} {S : Hp} {x : RtT.den} {t c : List UInt8} {now : Int} {vals : List Value} {ob : Nat -> List Nat} (har : ArgsRel (hp w) S [.box RtT x, .v .str t, .v .str c, .v (.int .i64) now] vals ob) (hS : Lift.Sub S (hp w)) :
    ∃ bf, vals = [.pointer (some ⟨bf, 0, none⟩), .string ⟨⟨t⟩⟩, .string ⟨⟨c⟩⟩, .int .i64 now] /\ ob 0 ≠ [] /\ (∀ i, ob (i + 1) = []) /\ BSt RtT w S (ob 0) bf w x [] := by
  obtain ⟨bf, vs, rfl, hne, hB⟩ := BSt.start har hS
  have hl := har.len
  match vs, hl with
  | [v1, v2, v3], _ =>
    obtain ⟨⟨u1, e1, r1⟩, _⟩ := har.rel 1 _ rfl
    obtain ⟨⟨u2, e2, r2⟩, _⟩ := har.rel 2 _ rfl
    obtain ⟨⟨u3, e3, r3⟩, _⟩ := har.rel 3 _ rfl
    cases e1; cases e2; cases e3
    refine ⟨bf, ?_, hne, fun i => ?_, hB⟩
    . rw [VR.str_inv r1.1, VR.str_inv r2.1, VR.int_inv r3.1]
    . match i with
      | 0 => exact r1.2
      | 1 => exact r2.2
      | 2 => exact r3.2
      | i + 3 => exact har.out _ (by simp)

theorem zhi (N : Nat) : Contract Try.prog zj 12 (z8j N) := by
  refine Contract.hand ⟨_, Try.func12, by kernel_rfl, by decide⟩ ?_
  rintro w S vals ob ⟨x, t, c, now, ⟨⟩⟩ ⟨v, x', ⟨⟩⟩ har hS hg hy
  obtain ⟨bf, rfl, hne, hob, hB⟩ := zya har hS
  refine (zxa N hB hy).mono ?_
  rintro e w' ⟨rfl, h'⟩
  exact h'.ends hob hne (by intro y hy; have hy : y ∈ [A.v .str t, A.v .str c, A.v (.int .i64) now] := hy; simp at hy; rcases hy with rfl | rfl | rfl <;> rfl) (fun S' => ⟨VR.int, rfl⟩) rfl

theorem zzv (N : Nat) {w0 w : World} {S0 : Hp} {ob0 : List Nat} {bf : Nat} {L : List (Nat × Array Value × Nat)} {cls : List ClassT.den} {start : Int} {xs : List (OwT.den × BkT.den)} {mb : Nat} (t c : List UInt8) (b1 b2 b3 b4 : Int)
    (h : BSt RtT w0 S0 ob0 bf w (cls, (start, (some xs, ()))) L) (hc : w.cell? ⟨bf, 2, none⟩ = some (.map (some mb))) :
    ∃ w', (Instr.mapUpdate 46 (.map (some mb)) (.agg #[.string ⟨⟨t⟩⟩, .string ⟨⟨c⟩⟩]) (.agg #[.int .i64 b1, .int .i64 b2, .int .i64 b3, .int .i64 b4])).run Try.prog w = .ok () w' /\ BSt RtT w0 S0 ob0 bf w' (cls, (start, (some (zoz (eqD OwT) (t, (c, ())) (b1, (b2, (b3, (b4, ())))) xs), ()))) L /\ w'.cell? ⟨bf, 2, none⟩ = some (.map (some mb)) := by
  obtain ⟨S, o, h1, h2, h3, h4, h5, h6, h7, hL⟩ := h
  obtain ⟨b, sv, mv, E, fr, p1, p2, rfl, e, hb, hf, hrow, hmp⟩ := ztc h5
  cases e
  have hb' : w.heap[bf]? = _ := hb
  have hmv : mv = .map (some mb) := by simpa [World.cell?, hb'] using hc
  subst hmv
  rcases hmp with ⟨e, _⟩ | ⟨xs', mb', es, cl, e, e1, e2, e3, e4, e5, e6⟩
  . cases e
  . cases e; cases e2
    subst e1
    obtain ⟨es', cl', hrun, g1, g2, g3⟩ := zs4 (ze4 N) (S := S) (t := 46) (ki := 58) (ke := ty58) (ve := ty54) (by kernel_rfl) (zwn S t c) (zy8 S b1 b2 b3 b4) e3 e4 e5 e6
    refine ⟨_, hrun, ?_, ?_⟩
    rotate_left
    . have hbm : bf ≠ mb := by
        rw [List.nodup_cons] at h6
        exact fun e => h6.1 (by simp [e])
      have := zg (w := w) (o := .map es' cl') hbm
      have hb2 : (z10 w mb (.map es' cl')).heap[bf]? = w.heap[bf]? := this
      simp [World.cell?, hb2, hb']
    have hne : ∀ k, k ≠ mb -> (z10 w mb (.map es' cl')).heap[k]? = w.heap[k]? := fun k hk => zg (w := w) (o := .map es' cl') hk
    have hsz : (z10 w mb (.map es' cl')).heap.size = w.heap.size := by simp [z10]
    have hnd : bf ≠ mb /\ mb ∉ p1 := by
      have h6' := h6
      rw [List.nodup_cons] at h6'
      refine ⟨fun e => h6'.1 (by simp [e]), fun hm => ?_⟩
      have := (List.nodup_append.1 h6'.2).2.2 mb hm mb (by simp)
      exact this rfl
    refine zy4 h1 h2 h4 h7 hL (S' := S) (o' := bf :: (p1 ++ [mb])) ⟨Nat.le_of_eq hsz.symm, fun k hk hn => hne k (fun e => hn (by simp [e])), rfl, rfl, rfl⟩ (Lift.Sub.refl S) (fun k q hq => ?_) (fun k hk => .inl hk) ?_ h6 (fun k hk => ⟨(h7 k hk).1, .inl hk⟩)
    . have := h3 k q hq
      simp only [hp] at this ⊢
      rw [hne k (fun e => ?_)]
      . exact this
      . subst e
        rw [(h7 k (by simp)).1] at hq
        cases hq
    . refine z11w (b := bf) (sv := sv) (mv := .map (some mb)) (E := E) (fr := fr) ?_ hf (hrow.mono (Lift.Sub.refl S) (fun k hk => hne k (fun e => hnd.2 (e ▸ hk)))) (.inr ⟨_, mb, es', cl', rfl, rfl, rfl, z1p e3, g1, g2, g3⟩)
      show (z10 w mb (.map es' cl')).heap[bf]? = _
      rw [hne bf hnd.1]; exact hb'

theorem sK {w0 w : World} {S0 : Hp} {ob0 : List Nat} {bf n p E F mb : Nat} {x : RtT.den} {t c : Value} {zs : Array Value} (h : BSt RtT w0 S0 ob0 bf w x [(p, zs, E), (n, #[t, c], F)]) (hm : w.cell? ⟨bf, 2, none⟩ = some (.map (some mb))) :
    BSt RtT w0 S0 ob0 bf w x [(n, #[t, c], F)] /\ w.cell? ⟨n, 0, none⟩ = some t /\ w.cell? ⟨n, 1, none⟩ = some c /\ w.cell? ⟨bf, 2, none⟩ = some (.map (some mb)) :=
  ⟨h.swap (fun p hp => by simp at hp; simp [hp]), h.cell (p := n) (cs := #[t, c]) (E := F) (by simp) rfl, h.cell (p := n) (cs := #[t, c]) (E := F) (by simp) rfl, hm⟩

theorem s4b {w0 w : World} {S0 : Hp} {ob0 : List Nat} {bf n p E F : Nat} {x : RtT.den} {t c : Value} {zs : Array Value} (h : BSt RtT w0 S0 ob0 bf w x [(p, zs, E), (n, #[t, c], F)]) (hn : n ≠ p) (a b d e : Value) :
    BSt RtT w0 S0 ob0 bf ((((w.setCell ⟨p, 0, none⟩ a).setCell ⟨p, 1, none⟩ b).setCell ⟨p, 2, none⟩ d).setCell ⟨p, 3, none⟩ e) x [(p, (((zs.setIfInBounds 0 a).setIfInBounds 1 b).setIfInBounds 2 d).setIfInBounds 3 e, E), (n, #[t, c], F)] := by
  have hd : ∀ q ∈ [(n, #[t, c], F)], q.1 ≠ p := fun q hq => by rw [List.mem_singleton.1 hq]; exact hn
  exact (((h.setCell hd 0 a).setCell hd 1 b).setCell hd 2 d).setCell hd 3 e

theorem s4 {w0 w : World} {S0 : Hp} {ob0 : List Nat} {bf n p E F mb : Nat} {x : RtT.den} {t c : Value} {zs : Array Value} (h : BSt RtT w0 S0 ob0 bf w x [(p, zs, E), (n, #[t, c], F)]) (hm : w.cell? ⟨bf, 2, none⟩ = some (.map (some mb))) (hn : n ≠ p) (hb : bf ≠ p) (a b d e : Value) :
    BSt RtT w0 S0 ob0 bf ((((w.setCell ⟨p, 0, none⟩ a).setCell ⟨p, 1, none⟩ b).setCell ⟨p, 2, none⟩ d).setCell ⟨p, 3, none⟩ e) x [(n, #[t, c], F)] /\ ((((w.setCell ⟨p, 0, none⟩ a).setCell ⟨p, 1, none⟩ b).setCell ⟨p, 2, none⟩ d).setCell ⟨p, 3, none⟩ e).cell? ⟨n, 0, none⟩ = some t /\ ((((w.setCell ⟨p, 0, none⟩ a).setCell ⟨p, 1, none⟩ b).setCell ⟨p, 2, none⟩ d).setCell ⟨p, 3, none⟩ e).cell? ⟨n, 1, none⟩ = some c /\ ((((w.setCell ⟨p, 0, none⟩ a).setCell ⟨p, 1, none⟩ b).setCell ⟨p, 2, none⟩ d).setCell ⟨p, 3, none⟩ e).cell? ⟨bf, 2, none⟩ = some (.map (some mb)) :=
  sK (s4b h hn a b d e) (by rw [z25 hb, z25 hb, z25 hb, z25 hb]; exact hm)

theorem sC {w0 w : World} {S0 : Hp} {ob0 : List Nat} {bf n p5 E F mb' : Nat} {x : RtT.den} {t c : List UInt8} {b1 b2 b3 b4 : Int} (h : BSt RtT w0 S0 ob0 bf w x [(p5, #[.int .i64 b1, .int .i64 b2, .int .i64 b3, .int .i64 b4], E), (n, #[.string ⟨⟨t⟩⟩, .string ⟨⟨c⟩⟩], F)]) (hm : w.cell? ⟨bf, 2, none⟩ = some (.map (some mb'))) :
    World.cell? w ⟨n, 0, none⟩ = some (.string ⟨⟨t⟩⟩) /\ World.cell? w ⟨n, 1, none⟩ = some (.string ⟨⟨c⟩⟩) /\ World.cell? w ⟨bf, 2, none⟩ = some (.map (some mb')) /\ World.cell? w ⟨p5, 0, none⟩ = some (.int .i64 b1) /\ World.cell? w ⟨p5, 1, none⟩ = some (.int .i64 b2) /\ World.cell? w ⟨p5, 2, none⟩ = some (.int .i64 b3) /\ World.cell? w ⟨p5, 3, none⟩ = some (.int .i64 b4) :=
  ⟨h.cell (p := n) (cs := #[.string ⟨⟨t⟩⟩, .string ⟨⟨c⟩⟩]) (E := F) (by simp) rfl, h.cell (p := n) (cs := #[.string ⟨⟨t⟩⟩, .string ⟨⟨c⟩⟩]) (E := F) (by simp) rfl, hm, h.cell (List.mem_cons_self ..) rfl, h.cell (List.mem_cons_self ..) rfl, h.cell (List.mem_cons_self ..) rfl, h.cell (List.mem_cons_self ..) rfl⟩

attribute [local irreducible] BSt in
set_option maxHeartbeats 4000000 in
theorem zvx (N : Nat) {w0 w : World} {S0 : Hp} {ob0 : List Nat} {bf : Nat} {cls : List ClassT.den} {start : Int} {xs : List (OwT.den × BkT.den)} {t c : List UInt8} {now : Int} {a1 a2 a3 a4 b1 b2 b3 b4 : Int} {ok : Bool}
    (h : BSt RtT w0 S0 ob0 bf w (cls, (start, (some xs, ()))) [])
    (hy : z24 N (cls, (start, (some xs, ()))) (t, (c, ())) = some (((a1, (a2, (a3, (a4, ())))), (true, ())), (cls, (start, (some xs, ()))))) (hz : z39 N (a1, (a2, (a3, (a4, ())))) now = some ((b1, (b2, (b3, (b4, ())))), (ok, ()))) :
    Calls Try.prog 15 #[.pointer (some ⟨bf, 0, none⟩), .string ⟨⟨t⟩⟩, .string ⟨⟨c⟩⟩, .int .i64 now] w fun e w' => e = .returned (.int .i64 (if ok then 0 else 17)) /\ BSt RtT w0 S0 ob0 bf w' (cls, (start, (some (zoz (eqD OwT) (t, (c, ())) (b1, (b2, (b3, (b4, ())))) xs), ()))) [] := by
  suffices HX : ∀ R : Ending -> World -> Prop, Go.RowKit.Hid (∀ w', BSt RtT w0 S0 ob0 bf w' (cls, (start, (some (zoz (eqD OwT) (t, (c, ())) (b1, (b2, (b3, (b4, ())))) xs), ()))) [] -> R (.returned (.int .i64 (if ok then 0 else 17))) w') -> Calls Try.prog 15 #[.pointer (some ⟨bf, 0, none⟩), .string ⟨⟨t⟩⟩, .string ⟨⟨c⟩⟩, .int .i64 now] w R from HX _ (Go.Lib.hid (fun w' h => ⟨rfl, h⟩))
  intro R HR
  have HM := zbj N h
  have HY := Go.Lib.hid hy
  have HZ := Go.Lib.hid hz
  clear h hy hz
  go_enter Try.func15, Try.ntmps15
  go_wp2_with (go_at_call 21; refine HM.mono ?_; rintro r w1 ⟨rfl, hq⟩; obtain ⟨mb, c2⟩ := zqo hq; have HB := Go.Lib.hid hq; clear HM hq)
  obtain ⟨W, hW⟩ : ∃ W, W = w1.alloc (.cells #[.string ⟨⟨t⟩⟩, .string ⟨⟨c⟩⟩] 58) := ⟨_, rfl⟩
  have y0 := HB.out.alloc #[.string ⟨⟨t⟩⟩, .string ⟨⟨c⟩⟩] 58
  have m2 := z2j (cs := #[.string ⟨⟨t⟩⟩, .string ⟨⟨c⟩⟩]) (E := 58) c2
  have o0 := zpz (w := w1) (cs := #[.string ⟨⟨t⟩⟩, .string ⟨⟨c⟩⟩]) (E := 58) (i := 0) (v := .string ⟨⟨t⟩⟩) rfl
  have o1 := zpz (w := w1) (cs := #[.string ⟨⟨t⟩⟩, .string ⟨⟨c⟩⟩]) (E := 58) (i := 1) (v := .string ⟨⟨c⟩⟩) rfl
  rw [<- hW] at y0 m2 o0 o1 ⊢
  obtain ⟨n, hn⟩ : ∃ n, n = w1.heap.size := ⟨_, rfl⟩
  rw [<- hn] at y0 o0 o1 ⊢
  have np : n ≠ W.heap.size := Nat.ne_of_lt (zif o0)
  have bp : bf ≠ W.heap.size := Nat.ne_of_lt (zif m2)
  clear hW hn c2 HB
  have hS0 : BSt RtT w0 S0 ob0 bf W (cls, (start, (some xs, ()))) [(n, #[.string ⟨⟨t⟩⟩, .string ⟨⟨c⟩⟩], 58)] /\ World.cell? W ⟨n, 0, none⟩ = some (.string ⟨⟨t⟩⟩) /\ World.cell? W ⟨n, 1, none⟩ = some (.string ⟨⟨c⟩⟩) /\ World.cell? W ⟨bf, 2, none⟩ = some (.map (some mb)) := ⟨y0, o0, o1, m2⟩
  have hSD : BSt RtT w0 S0 ob0 bf W.drew (cls, (start, (some xs, ()))) [(n, #[.string ⟨⟨t⟩⟩, .string ⟨⟨c⟩⟩], 58)] /\ World.cell? W.drew ⟨n, 0, none⟩ = some (.string ⟨⟨t⟩⟩) /\ World.cell? W.drew ⟨n, 1, none⟩ = some (.string ⟨⟨c⟩⟩) /\ World.cell? W.drew ⟨bf, 2, none⟩ = some (.map (some mb)) := ⟨y0.drew, o0, o1, m2⟩
  have yA := (y0.alloc #[.int .i64 0, .int .i64 0, .int .i64 0, .int .i64 0] 54).drew
  have mA : (W.alloc (.cells #[.int .i64 0, .int .i64 0, .int .i64 0, .int .i64 0] 54)).drew.cell? ⟨bf, 2, none⟩ = some (.map (some mb)) := z2j m2
  have hSA : BSt RtT w0 S0 ob0 bf (W.alloc (.cells #[.int .i64 0, .int .i64 0, .int .i64 0, .int .i64 0] 54)).drew (cls, (start, (some xs, ()))) [(n, #[.string ⟨⟨t⟩⟩, .string ⟨⟨c⟩⟩], 58)] /\ World.cell? (W.alloc (.cells #[.int .i64 0, .int .i64 0, .int .i64 0, .int .i64 0] 54)).drew ⟨n, 0, none⟩ = some (.string ⟨⟨t⟩⟩) /\ World.cell? (W.alloc (.cells #[.int .i64 0, .int .i64 0, .int .i64 0, .int .i64 0] 54)).drew ⟨n, 1, none⟩ = some (.string ⟨⟨c⟩⟩) /\ World.cell? (W.alloc (.cells #[.int .i64 0, .int .i64 0, .int .i64 0, .int .i64 0] 54)).drew ⟨bf, 2, none⟩ = some (.map (some mb)) := sK yA mA
  have hL1 := zbk N y0.drew m2 HY.out
  have hL2 := zbk N yA mA HY.out
  clear y0 m2 yA mA
  go_region_held3 (fun w' => BSt RtT w0 S0 ob0 bf w' (cls, (start, (some xs, ()))) [(n, #[.string ⟨⟨t⟩⟩, .string ⟨⟨c⟩⟩], 58)] /\ World.cell? w' ⟨n, 0, none⟩ = some (.string ⟨⟨t⟩⟩) /\ World.cell? w' ⟨n, 1, none⟩ = some (.string ⟨⟨c⟩⟩) /\ World.cell? w' ⟨bf, 2, none⟩ = some (.map (some mb)))
    (first
      | assumption
      | exact hSB _ _)
    (first
      | (go_at_call 22; refine hL1.mono ?_; rintro r w2 ⟨rfl, _, hq, hm⟩; have hSW : BSt RtT w0 S0 ob0 bf w2 (cls, (start, (some xs, ()))) [(n, #[.string ⟨⟨t⟩⟩, .string ⟨⟨c⟩⟩], 58)] /\ World.cell? w2 ⟨n, 0, none⟩ = some (.string ⟨⟨t⟩⟩) /\ World.cell? w2 ⟨n, 1, none⟩ = some (.string ⟨⟨c⟩⟩) /\ World.cell? w2 ⟨bf, 2, none⟩ = some (.map (some mb)) := ⟨hq, hq.cell (List.mem_cons_self ..) rfl, hq.cell (List.mem_cons_self ..) rfl, hm⟩; have hSB : ∀ (cs : Array Value) (E : Nat), BSt RtT w0 S0 ob0 bf (w2.alloc (.cells cs E)) (cls, (start, (some xs, ()))) [(n, #[.string ⟨⟨t⟩⟩, .string ⟨⟨c⟩⟩], 58)] /\ World.cell? (w2.alloc (.cells cs E)) ⟨n, 0, none⟩ = some (.string ⟨⟨t⟩⟩) /\ World.cell? (w2.alloc (.cells cs E)) ⟨n, 1, none⟩ = some (.string ⟨⟨c⟩⟩) /\ World.cell? (w2.alloc (.cells cs E)) ⟨bf, 2, none⟩ = some (.map (some mb)) := fun cs E => ⟨(hq.alloc cs E).swap (fun p hp => by simp at hp; simp [hp]), z2j hSW.2.1, z2j hSW.2.2.1, z2j hm⟩; clear hq hm hL1 hL2)
      | (go_at_call 22; refine hL2.mono ?_; rintro r w2 ⟨rfl, _, hq, hm⟩; have hSW : BSt RtT w0 S0 ob0 bf w2 (cls, (start, (some xs, ()))) [(n, #[.string ⟨⟨t⟩⟩, .string ⟨⟨c⟩⟩], 58)] /\ World.cell? w2 ⟨n, 0, none⟩ = some (.string ⟨⟨t⟩⟩) /\ World.cell? w2 ⟨n, 1, none⟩ = some (.string ⟨⟨c⟩⟩) /\ World.cell? w2 ⟨bf, 2, none⟩ = some (.map (some mb)) := sK hq hm; have hST := s4 hq hm np bp (.int .i64 a1) (.int .i64 a2) (.int .i64 a3) (.int .i64 a4); have q0 := hq.cell (List.mem_cons_self ..) (i := 0) rfl; have q1 := hq.cell (List.mem_cons_self ..) (i := 1) rfl; have q2 := hq.cell (List.mem_cons_self ..) (i := 2) rfl; have q3 := hq.cell (List.mem_cons_self ..) (i := 3) rfl; have f0 := hq.free (List.mem_cons_self ..) (i := 0); have f1 := hq.free (List.mem_cons_self ..) (i := 1); have f2 := hq.free (List.mem_cons_self ..) (i := 2); have f3 := hq.free (List.mem_cons_self ..) (i := 3); clear hm hL1 hL2))
  all_goals (first
    | (have U := hSB #[.int .i64 a1, .int .i64 a2, .int .i64 a3, .int .i64 a4] 54; have u0 := zpz (w := w2) (cs := #[.int .i64 a1, .int .i64 a2, .int .i64 a3, .int .i64 a4]) (E := 54) (i := 0) (v := .int .i64 a1) rfl; have u1 := zpz (w := w2) (cs := #[.int .i64 a1, .int .i64 a2, .int .i64 a3, .int .i64 a4]) (E := 54) (i := 1) (v := .int .i64 a2) rfl; have u2 := zpz (w := w2) (cs := #[.int .i64 a1, .int .i64 a2, .int .i64 a3, .int .i64 a4]) (E := 54) (i := 2) (v := .int .i64 a3) rfl; have u3 := zpz (w := w2) (cs := #[.int .i64 a1, .int .i64 a2, .int .i64 a3, .int .i64 a4]) (E := 54) (i := 3) (v := .int .i64 a4) rfl; generalize (w2.alloc (.cells #[.int .i64 a1, .int .i64 a2, .int .i64 a3, .int .i64 a4] 54)) = w3 at U u0 u1 u2 u3 ⊢; generalize w2.heap.size = p at u0 u1 u2 u3 ⊢; clear hSB hSW)
    | (have U := hST; have Y := s4b hq np (.int .i64 a1) (.int .i64 a2) (.int .i64 a3) (.int .i64 a4); have u0 := Y.cell (List.mem_cons_self ..) (i := 0) (v := .int .i64 a1) rfl; have u1 := Y.cell (List.mem_cons_self ..) (i := 1) (v := .int .i64 a2) rfl; have u2 := Y.cell (List.mem_cons_self ..) (i := 2) (v := .int .i64 a3) rfl; have u3 := Y.cell (List.mem_cons_self ..) (i := 3) (v := .int .i64 a4) rfl; generalize ((((w2.setCell ⟨W.heap.size, 0, none⟩ (.int .i64 a1)).setCell ⟨W.heap.size, 1, none⟩ (.int .i64 a2)).setCell ⟨W.heap.size, 2, none⟩ (.int .i64 a3)).setCell ⟨W.heap.size, 3, none⟩ (.int .i64 a4)) = w3 at U u0 u1 u2 u3 ⊢; generalize W.heap.size = p at u0 u1 u2 u3 ⊢; clear Y hST q0 q1 q2 q3 f0 f1 f2 f3 hq hSW))
  all_goals have HT := zvk N U.1 HZ.out
  all_goals clear U hS0 hSD hSA o0 o1 np bp
  all_goals go_wp2_with (go_at_call 26; refine HT.mono ?_; rintro r w4 ⟨rfl, hq⟩; have HQ := Go.Lib.hid hq; clear HT hq u0 u1 u2 u3)
  all_goals have y5 := HQ.out.alloc #[.int .i64 b1, .int .i64 b2, .int .i64 b3, .int .i64 b4] 54
  all_goals generalize w4.alloc (.cells #[.int .i64 b1, .int .i64 b2, .int .i64 b3, .int .i64 b4] 54) = W5 at y5 ⊢
  all_goals generalize w4.heap.size = p5 at y5 ⊢
  all_goals clear HQ
  all_goals obtain ⟨mb', m5⟩ := zqo y5
  all_goals obtain ⟨w6, r6, g6, k6⟩ := zzv N t c b1 b2 b3 b4 y5 m5
  all_goals obtain ⟨w7, r7, g7, k7⟩ := zzv (w := W5.drew) N t c b1 b2 b3 b4 y5.drew m5
  all_goals have hC5 : World.cell? W5 ⟨n, 0, none⟩ = some (.string ⟨⟨t⟩⟩) /\ World.cell? W5 ⟨n, 1, none⟩ = some (.string ⟨⟨c⟩⟩) /\ World.cell? W5 ⟨bf, 2, none⟩ = some (.map (some mb')) /\ World.cell? W5 ⟨p5, 0, none⟩ = some (.int .i64 b1) /\ World.cell? W5 ⟨p5, 1, none⟩ = some (.int .i64 b2) /\ World.cell? W5 ⟨p5, 2, none⟩ = some (.int .i64 b3) /\ World.cell? W5 ⟨p5, 3, none⟩ = some (.int .i64 b4) := sC y5 m5
  all_goals have hC5d : World.cell? W5.drew ⟨n, 0, none⟩ = some (.string ⟨⟨t⟩⟩) /\ World.cell? W5.drew ⟨n, 1, none⟩ = some (.string ⟨⟨c⟩⟩) /\ World.cell? W5.drew ⟨bf, 2, none⟩ = some (.map (some mb')) /\ World.cell? W5.drew ⟨p5, 0, none⟩ = some (.int .i64 b1) /\ World.cell? W5.drew ⟨p5, 1, none⟩ = some (.int .i64 b2) /\ World.cell? W5.drew ⟨p5, 2, none⟩ = some (.int .i64 b3) /\ World.cell? W5.drew ⟨p5, 3, none⟩ = some (.int .i64 b4) := sC y5.drew m5
  all_goals have hC6 : World.cell? w6 ⟨n, 0, none⟩ = some (.string ⟨⟨t⟩⟩) /\ World.cell? w6 ⟨n, 1, none⟩ = some (.string ⟨⟨c⟩⟩) /\ World.cell? w6 ⟨bf, 2, none⟩ = some (.map (some mb')) /\ World.cell? w6 ⟨p5, 0, none⟩ = some (.int .i64 b1) /\ World.cell? w6 ⟨p5, 1, none⟩ = some (.int .i64 b2) /\ World.cell? w6 ⟨p5, 2, none⟩ = some (.int .i64 b3) /\ World.cell? w6 ⟨p5, 3, none⟩ = some (.int .i64 b4) := sC g6 k6
  all_goals have hC7 : World.cell? w7 ⟨n, 0, none⟩ = some (.string ⟨⟨t⟩⟩) /\ World.cell? w7 ⟨n, 1, none⟩ = some (.string ⟨⟨c⟩⟩) /\ World.cell? w7 ⟨bf, 2, none⟩ = some (.map (some mb')) /\ World.cell? w7 ⟨p5, 0, none⟩ = some (.int .i64 b1) /\ World.cell? w7 ⟨p5, 1, none⟩ = some (.int .i64 b2) /\ World.cell? w7 ⟨p5, 2, none⟩ = some (.int .i64 b3) /\ World.cell? w7 ⟨p5, 3, none⟩ = some (.int .i64 b4) := sC g7 k7
  all_goals have G6 := Go.Lib.hid g6
  all_goals have G7 := Go.Lib.hid g7
  all_goals clear g6 g7 k6 k7 m5 y5
  all_goals go_region_held3 (fun w' => World.cell? w' ⟨n, 0, none⟩ = some (.string ⟨⟨t⟩⟩) /\ World.cell? w' ⟨n, 1, none⟩ = some (.string ⟨⟨c⟩⟩) /\ World.cell? w' ⟨bf, 2, none⟩ = some (.map (some mb')) /\ World.cell? w' ⟨p5, 0, none⟩ = some (.int .i64 b1) /\ World.cell? w' ⟨p5, 1, none⟩ = some (.int .i64 b2) /\ World.cell? w' ⟨p5, 2, none⟩ = some (.int .i64 b3) /\ World.cell? w' ⟨p5, 3, none⟩ = some (.int .i64 b4)) (assumption) (fail)
  all_goals cases ok
  all_goals go_wp2
  all_goals (first
    | exact HR.out _ (G6.out.swap (fun p hp => by cases hp))
    | exact HR.out _ (G7.out.swap (fun p hp => by cases hp)))

attribute [local irreducible] BSt in
set_option maxHeartbeats 4000000 in
theorem z10t (N : Nat) {w0 w : World} {S0 : Hp} {ob0 : List Nat} {bf : Nat} {cls : List ClassT.den} {start : Int} {xs : List (OwT.den × BkT.den)} {t c : List UInt8} {now : Int} {a1 a2 a3 a4 : Int}
    (h : BSt RtT w0 S0 ob0 bf w (cls, (start, (some xs, ()))) [])
    (hy : z24 N (cls, (start, (some xs, ()))) (t, (c, ())) = some (((a1, (a2, (a3, (a4, ())))), (false, ())), (cls, (start, (some xs, ()))))) :
    Calls Try.prog 15 #[.pointer (some ⟨bf, 0, none⟩), .string ⟨⟨t⟩⟩, .string ⟨⟨c⟩⟩, .int .i64 now] w fun e w' => e = .returned (.int .i64 6) /\ BSt RtT w0 S0 ob0 bf w' (cls, (start, (some xs, ()))) [] := by
  suffices HX : ∀ R : Ending -> World -> Prop, Go.RowKit.Hid (∀ w', BSt RtT w0 S0 ob0 bf w' (cls, (start, (some xs, ()))) [] -> R (.returned (.int .i64 6)) w') -> Calls Try.prog 15 #[.pointer (some ⟨bf, 0, none⟩), .string ⟨⟨t⟩⟩, .string ⟨⟨c⟩⟩, .int .i64 now] w R from HX _ (Go.Lib.hid (fun w' h => ⟨rfl, h⟩))
  intro R HR
  have HM := zbj N h
  have HY := Go.Lib.hid hy
  clear h hy
  go_enter Try.func15, Try.ntmps15
  go_wp2_with (go_at_call 21; refine HM.mono ?_; rintro r w1 ⟨rfl, hq⟩; obtain ⟨mb, c2⟩ := zqo hq; have HB := Go.Lib.hid hq; clear HM hq)
  obtain ⟨W, hW⟩ : ∃ W, W = w1.alloc (.cells #[.string ⟨⟨t⟩⟩, .string ⟨⟨c⟩⟩] 58) := ⟨_, rfl⟩
  have y0 := HB.out.alloc #[.string ⟨⟨t⟩⟩, .string ⟨⟨c⟩⟩] 58
  have m2 := z2j (cs := #[.string ⟨⟨t⟩⟩, .string ⟨⟨c⟩⟩]) (E := 58) c2
  have o0 := zpz (w := w1) (cs := #[.string ⟨⟨t⟩⟩, .string ⟨⟨c⟩⟩]) (E := 58) (i := 0) (v := .string ⟨⟨t⟩⟩) rfl
  have o1 := zpz (w := w1) (cs := #[.string ⟨⟨t⟩⟩, .string ⟨⟨c⟩⟩]) (E := 58) (i := 1) (v := .string ⟨⟨c⟩⟩) rfl
  rw [<- hW] at y0 m2 o0 o1 ⊢
  obtain ⟨n, hn⟩ : ∃ n, n = w1.heap.size := ⟨_, rfl⟩
  rw [<- hn] at y0 o0 o1 ⊢
  have np : n ≠ W.heap.size := Nat.ne_of_lt (zif o0)
  have bp : bf ≠ W.heap.size := Nat.ne_of_lt (zif m2)
  clear hW hn c2 HB
  have hS0 : BSt RtT w0 S0 ob0 bf W (cls, (start, (some xs, ()))) [(n, #[.string ⟨⟨t⟩⟩, .string ⟨⟨c⟩⟩], 58)] /\ World.cell? W ⟨n, 0, none⟩ = some (.string ⟨⟨t⟩⟩) /\ World.cell? W ⟨n, 1, none⟩ = some (.string ⟨⟨c⟩⟩) /\ World.cell? W ⟨bf, 2, none⟩ = some (.map (some mb)) := ⟨y0, o0, o1, m2⟩
  have hSD : BSt RtT w0 S0 ob0 bf W.drew (cls, (start, (some xs, ()))) [(n, #[.string ⟨⟨t⟩⟩, .string ⟨⟨c⟩⟩], 58)] /\ World.cell? W.drew ⟨n, 0, none⟩ = some (.string ⟨⟨t⟩⟩) /\ World.cell? W.drew ⟨n, 1, none⟩ = some (.string ⟨⟨c⟩⟩) /\ World.cell? W.drew ⟨bf, 2, none⟩ = some (.map (some mb)) := ⟨y0.drew, o0, o1, m2⟩
  have yA := (y0.alloc #[.int .i64 0, .int .i64 0, .int .i64 0, .int .i64 0] 54).drew
  have mA : (W.alloc (.cells #[.int .i64 0, .int .i64 0, .int .i64 0, .int .i64 0] 54)).drew.cell? ⟨bf, 2, none⟩ = some (.map (some mb)) := z2j m2
  have hSA : BSt RtT w0 S0 ob0 bf (W.alloc (.cells #[.int .i64 0, .int .i64 0, .int .i64 0, .int .i64 0] 54)).drew (cls, (start, (some xs, ()))) [(n, #[.string ⟨⟨t⟩⟩, .string ⟨⟨c⟩⟩], 58)] /\ World.cell? (W.alloc (.cells #[.int .i64 0, .int .i64 0, .int .i64 0, .int .i64 0] 54)).drew ⟨n, 0, none⟩ = some (.string ⟨⟨t⟩⟩) /\ World.cell? (W.alloc (.cells #[.int .i64 0, .int .i64 0, .int .i64 0, .int .i64 0] 54)).drew ⟨n, 1, none⟩ = some (.string ⟨⟨c⟩⟩) /\ World.cell? (W.alloc (.cells #[.int .i64 0, .int .i64 0, .int .i64 0, .int .i64 0] 54)).drew ⟨bf, 2, none⟩ = some (.map (some mb)) := sK yA mA
  have hL1 := zbk N y0.drew m2 HY.out
  have hL2 := zbk N yA mA HY.out
  clear y0 m2 yA mA
  go_region_held3 (fun w' => BSt RtT w0 S0 ob0 bf w' (cls, (start, (some xs, ()))) [(n, #[.string ⟨⟨t⟩⟩, .string ⟨⟨c⟩⟩], 58)] /\ World.cell? w' ⟨n, 0, none⟩ = some (.string ⟨⟨t⟩⟩) /\ World.cell? w' ⟨n, 1, none⟩ = some (.string ⟨⟨c⟩⟩) /\ World.cell? w' ⟨bf, 2, none⟩ = some (.map (some mb)))
    (first
      | assumption
      | exact hSB _ _)
    (first
      | (go_at_call 22; refine hL1.mono ?_; rintro r w2 ⟨rfl, _, hq, hm⟩; have hSW : BSt RtT w0 S0 ob0 bf w2 (cls, (start, (some xs, ()))) [(n, #[.string ⟨⟨t⟩⟩, .string ⟨⟨c⟩⟩], 58)] /\ World.cell? w2 ⟨n, 0, none⟩ = some (.string ⟨⟨t⟩⟩) /\ World.cell? w2 ⟨n, 1, none⟩ = some (.string ⟨⟨c⟩⟩) /\ World.cell? w2 ⟨bf, 2, none⟩ = some (.map (some mb)) := ⟨hq, hq.cell (List.mem_cons_self ..) rfl, hq.cell (List.mem_cons_self ..) rfl, hm⟩; have hSB : ∀ (cs : Array Value) (E : Nat), BSt RtT w0 S0 ob0 bf (w2.alloc (.cells cs E)) (cls, (start, (some xs, ()))) [(n, #[.string ⟨⟨t⟩⟩, .string ⟨⟨c⟩⟩], 58)] /\ World.cell? (w2.alloc (.cells cs E)) ⟨n, 0, none⟩ = some (.string ⟨⟨t⟩⟩) /\ World.cell? (w2.alloc (.cells cs E)) ⟨n, 1, none⟩ = some (.string ⟨⟨c⟩⟩) /\ World.cell? (w2.alloc (.cells cs E)) ⟨bf, 2, none⟩ = some (.map (some mb)) := fun cs E => ⟨(hq.alloc cs E).swap (fun p hp => by simp at hp; simp [hp]), z2j hSW.2.1, z2j hSW.2.2.1, z2j hm⟩; clear hq hm hL1 hL2)
      | (go_at_call 22; refine hL2.mono ?_; rintro r w2 ⟨rfl, _, hq, hm⟩; have hSW : BSt RtT w0 S0 ob0 bf w2 (cls, (start, (some xs, ()))) [(n, #[.string ⟨⟨t⟩⟩, .string ⟨⟨c⟩⟩], 58)] /\ World.cell? w2 ⟨n, 0, none⟩ = some (.string ⟨⟨t⟩⟩) /\ World.cell? w2 ⟨n, 1, none⟩ = some (.string ⟨⟨c⟩⟩) /\ World.cell? w2 ⟨bf, 2, none⟩ = some (.map (some mb)) := sK hq hm; have hST := s4 hq hm np bp (.int .i64 a1) (.int .i64 a2) (.int .i64 a3) (.int .i64 a4); have q0 := hq.cell (List.mem_cons_self ..) (i := 0) rfl; have q1 := hq.cell (List.mem_cons_self ..) (i := 1) rfl; have q2 := hq.cell (List.mem_cons_self ..) (i := 2) rfl; have q3 := hq.cell (List.mem_cons_self ..) (i := 3) rfl; have f0 := hq.free (List.mem_cons_self ..) (i := 0); have f1 := hq.free (List.mem_cons_self ..) (i := 1); have f2 := hq.free (List.mem_cons_self ..) (i := 2); have f3 := hq.free (List.mem_cons_self ..) (i := 3); clear hm hL1 hL2))
  all_goals (first
    | (have U := Go.Lib.hid (hSB #[.int .i64 a1, .int .i64 a2, .int .i64 a3, .int .i64 a4] 54))
    | (have U := Go.Lib.hid hST))
  all_goals go_wp2
  all_goals exact HR.out _ (U.out.1.swap (fun p hp => by cases hp))

set_option maxHeartbeats 4000000 in
theorem zvz (N : Nat) {w0 w : World} {S0 : Hp} {ob0 : List Nat} {bf : Nat} {cls : List ClassT.den} {start : Int} {t c : List UInt8} {now : Int}
    (h : BSt RtT w0 S0 ob0 bf w (cls, (start, (none, ()))) []) :
    Calls Try.prog 15 #[.pointer (some ⟨bf, 0, none⟩), .string ⟨⟨t⟩⟩, .string ⟨⟨c⟩⟩, .int .i64 now] w fun e w' => e = .returned (.int .i64 21) /\ BSt RtT w0 S0 ob0 bf w' (cls, (start, (none, ()))) [] := by
  suffices HX : ∀ R : Ending -> World -> Prop, Go.RowKit.Hid (∀ w', BSt RtT w0 S0 ob0 bf w' (cls, (start, (none, ()))) [] -> R (.returned (.int .i64 21)) w') -> Calls Try.prog 15 #[.pointer (some ⟨bf, 0, none⟩), .string ⟨⟨t⟩⟩, .string ⟨⟨c⟩⟩, .int .i64 now] w R from HX _ (Go.Lib.hid (fun w' h => ⟨rfl, h⟩))
  intro R HR
  have HM := zbj N h
  clear h
  go_enter Try.func15, Try.ntmps15
  go_wp2_with (go_at_call 21; refine HM.mono ?_; rintro r w1 ⟨rfl, hq⟩; have HE := Go.Lib.hid hq; clear HM hq)
  try go_ret
  exact HR.out _ HE.out

def z1n (N : Nat) (r : RtT.den) (t c : List UInt8) (now : Int) : Option (Int × (RtT.den × Unit)) := match r.2.2.1 with
  | none => some (21, (r, ()))
  | some xs => (z24 N r (t, (c, ()))).bind fun q => cond q.1.2.1 ((z39 N q.1.1 now).bind fun b => some ((if b.2.1 then 0 else 17), ((r.1, (r.2.1, (some (zoz (eqD OwT) (t, (c, ())) b.1 xs), ()))), ()))) (some (6, (r, ())))

def z8i (N : Nat) : List A -> Res := z1w [(0, .box RtT), (0, .v .str), (0, .v .str), (0, .v (.int .i64))] (fun x => z1n N x.1 x.2.1 x.2.2.1 x.2.2.2.1) (zuy (.v (.int .i64)) [(0, .box RtT)] 3)

theorem zx3 (N : Nat) {r x' : RtT.den} {o : OwT.den} {q : BkT.den × (Bool × Unit)} (h : z24 N r o = some (q, x')) : x' = r := by
  unfold z24 at h
  cases hl : z4m (eqD OwT) o (r.2.2.1.getD []) with
  | some b => rw [hl] at h; cases h; rfl
  | none =>
    rw [hl] at h
    dsimp only at h
    cases hf : zi6 N r.1 r.2.1 o with
    | none => rw [hf] at h; cases h
    | some q => rw [hf] at h; cases h; rfl

theorem zw0 (N : Nat) {w0 w : World} {S0 : Hp} {ob0 : List Nat} {bf : Nat} {x x' : RtT.den} {t c : List UInt8} {now v : Int} (h : BSt RtT w0 S0 ob0 bf w x []) (hy : z1n N x t c now = some (v, (x', ()))) :
    Calls Try.prog 15 #[.pointer (some ⟨bf, 0, none⟩), .string ⟨⟨t⟩⟩, .string ⟨⟨c⟩⟩, .int .i64 now] w fun e w' => e = .returned (.int .i64 v) /\ BSt RtT w0 S0 ob0 bf w' x' [] := by
  obtain ⟨cls, start, m, ⟨⟩⟩ := x
  cases m with
  | none => cases hy; exact zvz N h
  | some xs =>
    replace hy : ((z24 N (cls, (start, (some xs, ()))) (t, (c, ()))).bind fun q => cond q.1.2.1 ((z39 N q.1.1 now).bind fun b => some ((if b.2.1 then 0 else 17), ((cls, (start, (some (zoz (eqD OwT) (t, (c, ())) b.1 xs), ()))), ()))) (some (6, ((cls, (start, (some xs, ()))), ())))) = some (v, (x', ())) := hy
    cases hl : z24 N (cls, (start, (some xs, ()))) (t, (c, ())) with
    | none => rw [hl] at hy; cases hy
    | some q =>
      rw [hl, Option.bind_some] at hy
      obtain ⟨⟨⟨a1, a2, a3, a4, ⟨⟩⟩, ok, ⟨⟩⟩, x2⟩ := q
      have hx := zx3 N hl
      subst hx
      cases ok with
      | false => cases hy; exact z10t N h hl
      | true =>
        simp only [cond_true] at hy
        cases hz : z39 N (a1, (a2, (a3, (a4, ())))) now with
        | none => rw [hz] at hy; cases hy
        | some b =>
          rw [hz] at hy
          obtain ⟨⟨b1, b2, b3, b4, ⟨⟩⟩, ok, ⟨⟩⟩ := b
          cases hy
          exact zvx N h hl hz

theorem zhh (N : Nat) : Contract Try.prog zj 15 (z8i N) := by
  refine Contract.hand ⟨_, Try.func15, by kernel_rfl, by decide⟩ ?_
  rintro w S vals ob ⟨x, t, c, now, ⟨⟩⟩ ⟨v, x', ⟨⟩⟩ har hS hg hy
  obtain ⟨bf, rfl, hne, hob, hB⟩ := zya har hS
  refine (zw0 N hB hy).mono ?_
  rintro e w' ⟨rfl, h'⟩
  exact h'.ends hob hne (by intro y hy; have hy : y ∈ [A.v .str t, A.v .str c, A.v (.int .i64) now] := hy; simp at hy; rcases hy with rfl | rfl | rfl <;> rfl) (fun S' => ⟨VR.int, rfl⟩) rfl

def zas : Code := (Go.Proofs.Try.f15.body).getD .skip

def z6y : List (List Nat × List Nat) := [([0], [0, 1, 2, 3]), ([0, 0, 1], [16, 1, 2, 0, 3]), ([1, 0, 1], [1, 2, 0, 3]), ([0, 0, 1, 0, 1], [8]), ([1, 0, 1, 0, 1], [8]), ([0, 1, 1], [0, 9, 3]), ([0, 1, 1, 1], [11, 10, 3, 0, 9]), ([0, 0, 1, 1, 1, 1], [32, 10, 3, 0, 9]), ([1, 0, 1, 1, 1, 1], [10, 3, 0, 9]), ([0, 0, 1, 0, 1, 1, 1, 1], [8]), ([1, 0, 1, 0, 1, 1, 1, 1], [8]), ([0, 1, 1, 1, 1, 1], [0, 9, 12, 13]), ([0, 1, 1, 1, 1, 1, 1], [13]), ([0, 0, 1, 1, 1, 1, 1, 1, 1], [46]), ([1, 0, 1, 1, 1, 1, 1, 1, 1], []), ([0, 0, 1, 0, 1, 1, 1, 1, 1, 1, 1], [8]), ([1, 0, 1, 0, 1, 1, 1, 1, 1, 1, 1], [8]), ([0, 1, 1, 1, 1, 1, 1, 1, 1], [8]), ([1, 1, 1, 1, 1, 1, 1, 1, 1], [8])]

def z3r (N : Nat) : Env := z42 tys zj [(26, zey N), (23, z4a N), (21, z1m N)] [] [] [] false [] []

theorem zc6 (N : Nat) : EnvOk Go.Proofs.Try.prog (z3r N) := z11 mixed z1x (FnsOk.cons (zgc N) (FnsOk.cons (z4u N) (FnsOk.cons (z1u N) (FnsOk.nil)))) (ItsOk.nil)

def z4v (N : Nat) (tenant : (List UInt8)) (class_ : (List UInt8)) (now : Int) : Option Int :=
 some (21 : Int)

def z6x (N : Nat) : Tab Int := []

theorem zar (N : Nat) (x : z1v [(0, .nilp), (0, .v .str), (0, .v .str), (0, .v (.int .i64))]) : zbu (z3r N) N (z6x N) z6y Go.Proofs.Try.f15 (mkS [(0, .nilp), (0, .v .str), (0, .v .str), (0, .v (.int .i64))] 0 x) (z4p (.v (.int .i64)) 4) = z4v N x.2.1 x.2.2.1 x.2.2.2.1 := by kernel_rfl

def zc5 (N : Nat) : List A -> Res := z1w [(0, .nilp), (0, .v .str), (0, .v .str), (0, .v (.int .i64))] (fun x => z4v N x.2.1 x.2.2.1 x.2.2.2.1) (zaf (.v (.int .i64)) 4)

theorem zdc (N : Nat) : Contract Go.Proofs.Try.prog zj 15 (zc5 N) :=
  Contract.of (E := z3r N) (H := z6x N) (L := z6y) (N := N) (body := zas) (K := (z4p (.v (.int .i64)) 4)) (zc6 N) Go.Proofs.Try.func15 (by kernel_rfl) (by decide) (fun _ hb => TabOk.nil) (fun x y h => by rw [zar]; exact h) (z1h (s := (.v (.int .i64))) (m := 4))

def z32 (N : Nat) : List A -> Res := zo6 [(0, .nilp), (0, .v .str), (0, .v .str), (0, .v (.int .i64))] (fun x => z4v N x.2.1 x.2.2.1 x.2.2.2.1) (zaf (.v (.int .i64)) 4) (z8i N)

theorem z4k (N : Nat) : Contract Go.Proofs.Try.prog zj 15 (z32 N) := Contract.alt (zdc N) (zhh N)

def zau : Code := (Go.Proofs.Try.f12.body).getD .skip

def z70 : List (List Nat × List Nat) := [([0], [0, 1, 2, 3]), ([0, 0, 1], [13, 0, 1, 2, 3]), ([1, 0, 1], [0, 1, 2, 3]), ([0, 0, 1, 0, 1], [8]), ([1, 0, 1, 0, 1], [8]), ([0, 1, 1], [10, 9, 3]), ([0, 0, 1, 1, 1], [28, 9, 3]), ([1, 0, 1, 1, 1], [9, 3]), ([0, 0, 1, 0, 1, 1, 1], [8]), ([1, 0, 1, 0, 1, 1, 1], [8]), ([0, 1, 1, 1, 1], [8]), ([1, 1, 1, 1, 1], [8])]

def z3s (N : Nat) : Env := z42 tys zj [(23, z4a N), (24, zct N), (21, z1m N)] [] [] [] false [] []

theorem zc8 (N : Nat) : EnvOk Go.Proofs.Try.prog (z3s N) := z11 mixed z1x (FnsOk.cons (z4u N) (FnsOk.cons (zf3 N) (FnsOk.cons (z1u N) (FnsOk.nil)))) (ItsOk.nil)

def z4w (N : Nat) (tenant : (List UInt8)) (class_ : (List UInt8)) (now : Int) : Option Int :=
 some (0 : Int)

def z6z (N : Nat) : Tab Int := []

theorem zat (N : Nat) (x : z1v [(0, .nilp), (0, .v .str), (0, .v .str), (0, .v (.int .i64))]) : zbu (z3s N) N (z6z N) z70 Go.Proofs.Try.f12 (mkS [(0, .nilp), (0, .v .str), (0, .v .str), (0, .v (.int .i64))] 0 x) (z4p (.v (.int .i64)) 4) = z4w N x.2.1 x.2.2.1 x.2.2.2.1 := by kernel_rfl

def zc7 (N : Nat) : List A -> Res := z1w [(0, .nilp), (0, .v .str), (0, .v .str), (0, .v (.int .i64))] (fun x => z4w N x.2.1 x.2.2.1 x.2.2.2.1) (zaf (.v (.int .i64)) 4)

theorem zdd (N : Nat) : Contract Go.Proofs.Try.prog zj 12 (zc7 N) :=
  Contract.of (E := z3s N) (H := z6z N) (L := z70) (N := N) (body := zau) (K := (z4p (.v (.int .i64)) 4)) (zc8 N) Go.Proofs.Try.func12 (by kernel_rfl) (by decide) (fun _ hb => TabOk.nil) (fun x y h => by rw [zat]; exact h) (z1h (s := (.v (.int .i64))) (m := 4))

def z33 (N : Nat) : List A -> Res := zo6 [(0, .nilp), (0, .v .str), (0, .v .str), (0, .v (.int .i64))] (fun x => z4w N x.2.1 x.2.2.1 x.2.2.2.1) (zaf (.v (.int .i64)) 4) (z8j N)

theorem z4l (N : Nat) : Contract Go.Proofs.Try.prog zj 12 (z33 N) := Contract.alt (zdd N) (zhi N)

def zdn : Code := (Go.Proofs.Try.f6.body).getD .skip

def z96 : List (List Nat × List Nat) := [([0], []), ([0, 1], [2, 1]), ([0, 1, 1], [0]), ([1, 1, 1], [0])]

def z54 (N : Nat) : Env := z42 tys zj [(12, z33 N), (15, z32 N), (7, ze3 N)] [] [] [] false [(1, (.pair (.own (.pair .str (.pair (.int .i64) (.pair (.int .i64) .unit)))) (.pair (.int .i64) (.pair (.mp (.pair .str (.pair .str .unit)) (.pair (.int .i64) (.pair (.int .i64) (.pair (.int .i64) (.pair (.int .i64) .unit))))) .unit))))] []

theorem zek (N : Nat) : EnvOk Go.Proofs.Try.prog (z54 N) := z11 mixed z1x (FnsOk.cons (z4l N) (FnsOk.cons (z4k N) (FnsOk.cons (zlv N) (FnsOk.nil)))) (ItsOk.nil)

def z1s (N : Nat) : Option Bool :=
 (zfc N ([(([(103 : UInt8), (111 : UInt8), (108 : UInt8), (100 : UInt8)] : List UInt8), ((1 : Int), ((1 : Int), ())))] : List ((List UInt8) × (Int × (Int × Unit)))) (0 : Int)).bind fun y =>
 cond (Option.isSome y.1)
 (cond (y.2.1 == (0 : Int))
 ((z1n N (Option.getD y.1 (([] : List ((List UInt8) × (Int × (Int × Unit)))), ((0 : Int), ((Option.none), ())))) ([(97 : UInt8)] : List UInt8) ([(103 : UInt8), (111 : UInt8), (108 : UInt8), (100 : UInt8)] : List UInt8) (0 : Int)).bind fun y1 =>
 cond (y1.1 == (17 : Int))
 ((z1n N y1.2.1 ([(97 : UInt8)] : List UInt8) ([(103 : UInt8), (111 : UInt8), (108 : UInt8), (100 : UInt8)] : List UInt8) (1 : Int)).bind fun y2 =>
 cond (y2.1 == (0 : Int))
 ((z1n N y2.2.1 ([(97 : UInt8)] : List UInt8) ([(103 : UInt8), (111 : UInt8), (108 : UInt8), (100 : UInt8)] : List UInt8) (1 : Int)).bind fun y3 =>
 cond (y3.1 == (17 : Int))
 ((z1n N y3.2.1 ([(97 : UInt8)] : List UInt8) ([(120 : UInt8)] : List UInt8) (1 : Int)).bind fun y4 =>
 cond (y4.1 == (6 : Int))
 ((z2l N y4.2.1 ([(98 : UInt8)] : List UInt8) ([(103 : UInt8), (111 : UInt8), (108 : UInt8), (100 : UInt8)] : List UInt8) (5 : Int)).bind fun y5 =>
 some (y5.1 == (1 : Int)))
 (some false))
 (some false))
 (some false))
 (some false))
 (some false))
 (none)

def z95 (N : Nat) : Tab Bool := []

theorem zdm (N : Nat) (x : z1v []) : zbu (z54 N) N (z95 N) z96 Go.Proofs.Try.f6 (mkS [] 0 x) (z4p (.v .bool) 0) = z1s N := by kernel_rfl

def z7c (N : Nat) : List A -> Res := z1w [] (fun x => z1s N) (zaf (.v .bool) 0)

theorem zg3 (N : Nat) : Contract Go.Proofs.Try.prog zj 6 (z7c N) :=
  Contract.of (E := z54 N) (H := z95 N) (L := z96) (N := N) (body := zdn) (K := (z4p (.v .bool) 0)) (zek N) Go.Proofs.Try.func6 (by kernel_rfl) (by decide) (fun _ hb => TabOk.nil) (fun x y h => by rw [zdm]; exact h) (z1h (s := (.v .bool)) (m := 0))

def zb : Code := (Go.Proofs.Try.f20.body).getD .skip

def z16 : List (List Nat × List Nat) := [([0], [0]), ([0, 0, 1], [13, 0]), ([1, 0, 1], [0]), ([0, 0, 1, 0, 1], [2]), ([1, 0, 1, 0, 1], [2]), ([0, 0, 1, 1], [3, 0]), ([0, 1, 0, 1, 1], [3, 0]), ([0, 0, 0, 0, 1, 0, 1, 1], [17, 0, 3]), ([1, 0, 0, 0, 1, 0, 1, 1], [0, 3]), ([1, 1, 0, 0, 0, 1, 0, 1, 1], []), ([0, 0, 0, 1, 0, 0, 1, 0, 1, 1], [0, 3, 4]), ([0, 1, 0, 0, 1, 0, 0, 1, 0, 1, 1], [4, 3, 5, 0]), ([0, 1, 1, 0, 0, 1, 0, 0, 1, 0, 1, 1], [55, 3, 0]), ([1, 1, 1, 0, 0, 1, 0, 0, 1, 0, 1, 1], [3, 0]), ([0, 0, 1, 1, 1, 0, 0, 1, 0, 0, 1, 0, 1, 1], [2]), ([1, 0, 1, 1, 1, 0, 0, 1, 0, 0, 1, 0, 1, 1], [2]), ([0, 1, 0, 0, 1, 0, 1, 1], [3, 0]), ([1, 1, 0, 0, 1, 0, 1, 1], [3, 0]), ([1, 0, 1, 1], []), ([0, 1, 1, 1], [2]), ([1, 1, 1, 1], [2])]

def z12 (N : Nat) : Env := z42 tys zj [] [] [] [] false [] []

theorem zg2 (N : Nat) : EnvOk Go.Proofs.Try.prog (z12 N) := z11 mixed z1x (FnsOk.nil) (ItsOk.nil)

def z52 (N : Nat) (s : (List UInt8)) (k0 : Bool -> Option Bool) : Option Bool :=
 cond (decide ((((List.length s) : Nat) : Int) < (1 : Int)))
 (k0 true)
 (k0 (decide ((32 : Int) < (((List.length s) : Nat) : Int))))

def z93 (N : Nat) (x : z1v [(0, .v .str)]) (K : Ex -> List A -> Option Bool) : Option Bool :=
 z52 N x.1 (fun a1 => (K .normal (mkS [(0, .v .str), (12, .v .bool)] 42 (x.1, a1, ()))))

def z8w (N : Nat) : Hd Bool := fun st K => (unS [(0, .v .str)] 55 (restr [0] 0 st)).bind fun x => z93 N x K

def zgu (N : Nat) : Tab Bool := []

theorem zg0 {N : Nat} {c : Ctx} (hb : Base Go.Proofs.Try.prog (z12 N) c) : zu Go.Proofs.Try.prog c (ze zb [0, 0, 1]) (z8w N) :=
  zq (s := [(0, .v .str)]) (m := 55) (g := z93 N) [0] (z9 hb N (zgu N) z16 zb TabOk.nil [0, 0, 1] _ rfl) (fun x K => by kernel_rfl)

def z53 (N : Nat) (s : (List UInt8)) (k0 : Bool -> Option Bool) (k1 : Option Bool) : Option Bool :=
 z52 N s
 (fun x13 => cond x13
 (k0 false)
 (k1))

def z94 (N : Nat) (x : z1v [(0, .v .str)]) (K : Ex -> List A -> Option Bool) : Option Bool :=
 z53 N x.1 (fun a0 => (K .ret (mkS [(2, .v .bool)] 53 (a0, ())))) (K .normal (mkS [(0, .v .str)] 55 (x.1, ())))

def z8x (N : Nat) : Hd Bool := fun st K => (unS [(0, .v .str)] 55 (restr [0] 0 st)).bind fun x => z94 N x K

def zgv (N : Nat) : Tab Bool := [([0, 0, 1], z8w N)]

theorem zg1 {N : Nat} {c : Ctx} (hb : Base Go.Proofs.Try.prog (z12 N) c) : zu Go.Proofs.Try.prog c (ze zb [0, 1]) (z8x N) :=
  zq (s := [(0, .v .str)]) (m := 55) (g := z94 N) [0] (z9 hb N (zgv N) z16 zb (TabOk.cons (zg0 hb) TabOk.nil) [0, 1] _ rfl) (fun x K => by kernel_rfl)

def z35 (N : Nat) (s : (List UInt8)) (i : Int) (k0 : Bool -> Option Bool) : Option Bool :=
 cond (Go.Lift.inR i (List.length s))
 (cond (decide ((97 : Int) <= (((UInt8.toNat (List.getD s (Int.toNat i) (0 : UInt8))) : Nat) : Int)))
 (cond (Go.Lift.inR i (List.length s))
 (k0 (decide ((((UInt8.toNat (List.getD s (Int.toNat i) (0 : UInt8))) : Nat) : Int) <= (122 : Int))))
 (none))
 (k0 false))
 (none)

def z90 (N : Nat) (x : z1v [(0, .v .str), (2, .v (.int .i64))]) (K : Ex -> List A -> Option Bool) : Option Bool :=
 z35 N x.1 x.2.1 (fun a2 => (K .normal (mkS [(0, .v .str), (2, .v (.int .i64)), (0, .v .bool)] 51 (x.1, x.2.1, a2, ()))))

def z8t (N : Nat) : Hd Bool := fun st K => (unS [(0, .v .str), (2, .v (.int .i64))] 52 (restr [0, 3] 0 st)).bind fun x => z90 N x K

def zgr (N : Nat) : Tab Bool := []

theorem zfx {N : Nat} {c : Ctx} (hb : Base Go.Proofs.Try.prog (z12 N) c) : zu Go.Proofs.Try.prog c (ze zb [0, 0, 0, 1, 0, 0, 1, 0, 1, 1]) (z8t N) :=
  zq (s := [(0, .v .str), (2, .v (.int .i64))]) (m := 52) (g := z90 N) [0, 3] (z9 hb N (zgr N) z16 zb TabOk.nil [0, 0, 0, 1, 0, 0, 1, 0, 1, 1] _ rfl) (fun x K => by kernel_rfl)

def z34 (N : Nat) (s : (List UInt8)) (i : Int) (small : Bool) (k0 : Bool -> Option Bool) : Option Bool :=
 cond (Go.Lift.inR i (List.length s))
 (cond ((((UInt8.toNat (List.getD s (Int.toNat i) (0 : UInt8))) : Nat) : Int) == (45 : Int))
 (k0 true)
 (cond (Go.Lift.inR i (List.length s))
 (cond (decide ((48 : Int) <= (((UInt8.toNat (List.getD s (Int.toNat i) (0 : UInt8))) : Nat) : Int)))
 (cond (Go.Lift.inR i (List.length s))
 (k0 (decide ((((UInt8.toNat (List.getD s (Int.toNat i) (0 : UInt8))) : Nat) : Int) <= (57 : Int))))
 (none))
 (k0 false))
 (none)))
 (none)

def z8z (N : Nat) (x : z1v [(0, .v .str), (2, .v (.int .i64)), (0, .v .bool)]) (K : Ex -> List A -> Option Bool) : Option Bool :=
 z34 N x.1 x.2.1 x.2.2.1 (fun a3 => (K .normal (mkS [(0, .v .str), (2, .v (.int .i64)), (0, .v .bool), (0, .v .bool)] 50 (x.1, x.2.1, x.2.2.1, a3, ()))))

def z8s (N : Nat) : Hd Bool := fun st K => (unS [(0, .v .str), (2, .v (.int .i64)), (0, .v .bool)] 51 (restr [0, 3, 4] 0 st)).bind fun x => z8z N x K

def zgq (N : Nat) : Tab Bool := []

theorem zfw {N : Nat} {c : Ctx} (hb : Base Go.Proofs.Try.prog (z12 N) c) : zu Go.Proofs.Try.prog c (ze zb [0, 1, 0, 0, 1, 0, 0, 1, 0, 1, 1]) (z8s N) :=
  zq (s := [(0, .v .str), (2, .v (.int .i64)), (0, .v .bool)]) (m := 51) (g := z8z N) [0, 3, 4] (z9 hb N (zgq N) z16 zb TabOk.nil [0, 1, 0, 0, 1, 0, 0, 1, 0, 1, 1] _ rfl) (fun x K => by kernel_rfl)

def z50 (N : Nat) (s : (List UInt8)) (i : Int) (small : Bool) (other : Bool) (k0 : Bool -> Option Bool) : Option Bool :=
 cond (!small)
 (cond (i == (0 : Int))
 (k0 true)
 (k0 (!other)))
 (k0 false)

def z8y (N : Nat) (x : z1v [(0, .v .str), (2, .v (.int .i64)), (0, .v .bool), (0, .v .bool)]) (K : Ex -> List A -> Option Bool) : Option Bool :=
 z50 N x.1 x.2.1 x.2.2.1 x.2.2.2.1 (fun a2 => (K .normal (mkS [(0, .v .str), (2, .v (.int .i64)), (51, .v .bool)] 0 (x.1, x.2.1, a2, ()))))

def z8r (N : Nat) : Hd Bool := fun st K => (unS [(0, .v .str), (2, .v (.int .i64)), (0, .v .bool), (0, .v .bool)] 50 (restr [4, 3, 5, 0] 0 st)).bind fun x => z8y N x K

def zgp (N : Nat) : Tab Bool := []

theorem zfv {N : Nat} {c : Ctx} (hb : Base Go.Proofs.Try.prog (z12 N) c) : zu Go.Proofs.Try.prog c (ze zb [0, 1, 1, 0, 0, 1, 0, 0, 1, 0, 1, 1]) (z8r N) :=
  zq (s := [(0, .v .str), (2, .v (.int .i64)), (0, .v .bool), (0, .v .bool)]) (m := 50) (g := z8y N) [4, 3, 5, 0] (z9 hb N (zgp N) z16 zb TabOk.nil [0, 1, 1, 0, 0, 1, 0, 0, 1, 0, 1, 1] _ rfl) (fun x K => by kernel_rfl)

def z51 (N : Nat) (s : (List UInt8)) (i : Int) (k0 : Bool -> Option Bool) (k1 : Option Bool) : Option Bool :=
 z35 N s i
 (fun small => z34 N s i small
 (fun other => z50 N s i small other
 (fun x55 => cond x55
 (k0 false)
 (k1))))

def z91 (N : Nat) (x : z1v [(0, .v .str), (2, .v (.int .i64))]) (K : Ex -> List A -> Option Bool) : Option Bool :=
 z51 N x.1 x.2.1 (fun a0 => (K .ret (mkS [(2, .v .bool)] 53 (a0, ())))) (K .normal (mkS [(0, .v .str), (2, .v (.int .i64))] 52 (x.1, x.2.1, ())))

def z8u (N : Nat) : Hd Bool := fun st K => (unS [(0, .v .str), (2, .v (.int .i64))] 52 (restr [0, 3] 0 st)).bind fun x => z91 N x K

def zgs (N : Nat) : Tab Bool := [([0, 0, 0, 1, 0, 0, 1, 0, 1, 1], z8t N), ([0, 1, 0, 0, 1, 0, 0, 1, 0, 1, 1], z8s N), ([0, 1, 1, 0, 0, 1, 0, 0, 1, 0, 1, 1], z8r N)]

theorem zfy {N : Nat} {c : Ctx} (hb : Base Go.Proofs.Try.prog (z12 N) c) : zu Go.Proofs.Try.prog c (ze zb [0, 1, 0, 0, 1, 0, 1, 1]) (z8u N) :=
  zq (s := [(0, .v .str), (2, .v (.int .i64))]) (m := 52) (g := z91 N) [0, 3] (z9 hb N (zgs N) z16 zb (TabOk.cons (zfx hb) (TabOk.cons (zfw hb) (TabOk.cons (zfv hb) TabOk.nil))) [0, 1, 0, 0, 1, 0, 1, 1] _ rfl) (fun x K => by kernel_rfl)

def z4z (N : Nat) (s : (List UInt8)) (i : Int) (rec : Int -> Option Bool) (k0 : Bool -> Option Bool) (k1 : Option Bool) : Option Bool :=
 cond (decide (i < (((List.length s) : Nat) : Int)))
 (z51 N s i
 (fun x2 => k0 x2)
 (rec (Go.IntKind.wrap Go.IntKind.i64 (i + (1 : Int)))))
 (k1)

def z8q (N : Nat) (s : (List UInt8)) (i : Int) (k0 : Bool -> Option Bool) (k1 : Option Bool) : Option Bool :=
 iter (fun (v : Int) r => z4z N s v (fun i => (r i)) k0 k1) N i

def z92 (N : Nat) (i : (List UInt8)) (v : Int) (r : Int -> Option Bool) (K : Ex -> List A -> Option Bool) : Option Bool :=
 z4z N i v (fun i => (r i)) (fun a0 => (K .ret (mkS [(2, .v .bool)] 53 (a0, ())))) (K (.exit 0) (mkS [] 56 ()))

def z8v (N : Nat) : Hd Bool := fun st K => (unS [(0, .v .str), (2, .v (.int .i64))] 52 (restr [3, 0] 0 st)).bind fun x => iter (fun v r => z92 N ((fun x => x.1) x) v r K) N ((fun x => x.2.1) x)

def zgt (N : Nat) : Tab Bool := [([0, 1, 0, 0, 1, 0, 1, 1], z8u N)]

theorem zfz {N : Nat} {c : Ctx} (hb : Base Go.Proofs.Try.prog (z12 N) c) : zu Go.Proofs.Try.prog c (ze zb [0, 1, 0, 1, 1]) (z8v N) :=
  zch (s := [(0, .v .str), (2, .v (.int .i64))]) (m := 52) (z92 N) [3, 0] N (fun x => x.1) (fun x => x.2.1) (fun i v => (i, v, ())) (fun _ => rfl) (z9 hb N (zgt N) z16 zb (TabOk.cons (zfy hb) TabOk.nil) [0, 0, 1, 0, 1, 1] _ rfl) (fun i v r K => by kernel_rfl)

def z3b (N : Nat) (s : (List UInt8)) : Option Bool :=
 z53 N s
 (fun x2 => some x2)
 (z8q N s (0 : Int)
 (fun x21 => some x21)
 (some true))

def z9u (N : Nat) : Tab Bool := [([0, 1], z8x N), ([0, 1, 0, 1, 1], z8v N)]

theorem zej (N : Nat) (x : z1v [(0, .v .str)]) : zbu (z12 N) N (z9u N) z16 Go.Proofs.Try.f20 (mkS [(0, .v .str)] 0 x) (z4p (.v .bool) 1) = z3b N x.1 := by kernel_rfl

def z83 (N : Nat) : List A -> Res := z1w [(0, .v .str)] (fun x => z3b N x.1) (zaf (.v .bool) 1)

theorem zgw (N : Nat) : Contract Go.Proofs.Try.prog zj 20 (z83 N) :=
  Contract.of (E := z12 N) (H := z9u N) (L := z16) (N := N) (body := zb) (K := (z4p (.v .bool) 1)) (zg2 N) Go.Proofs.Try.func20 (by kernel_rfl) (by decide) (fun _ hb => (TabOk.cons (zg1 hb) (TabOk.cons (zfz hb) TabOk.nil))) (fun x y h => by rw [zej]; exact h) (z1h (s := (.v .bool)) (m := 1))

def zk : Code := (Go.Proofs.Try.f9.body).getD .skip

def z1g : List (List Nat × List Nat) := [([0], [0]), ([0, 0, 1], [7, 0]), ([1, 0, 1], [0]), ([0, 0, 1, 0, 1], [2]), ([1, 0, 1, 0, 1], [2]), ([0, 0, 1, 1], [3, 0]), ([0, 1, 0, 1, 1], [3, 0]), ([0, 0, 0, 0, 1, 0, 1, 1], [11, 0, 3]), ([1, 0, 0, 0, 1, 0, 1, 1], [0, 3]), ([1, 1, 0, 0, 0, 1, 0, 1, 1], []), ([0, 0, 0, 0, 1, 0, 0, 1, 0, 1, 1], [20, 0, 3]), ([1, 0, 0, 0, 1, 0, 0, 1, 0, 1, 1], [0, 3]), ([0, 0, 1, 0, 0, 0, 1, 0, 0, 1, 0, 1, 1], [2]), ([1, 0, 1, 0, 0, 0, 1, 0, 0, 1, 0, 1, 1], [2]), ([0, 0, 1, 0, 0, 1, 0, 0, 1, 0, 1, 1], [50, 3, 0]), ([1, 0, 1, 0, 0, 1, 0, 0, 1, 0, 1, 1], [3, 0]), ([0, 0, 1, 0, 1, 0, 0, 1, 0, 0, 1, 0, 1, 1], [2]), ([1, 0, 1, 0, 1, 0, 0, 1, 0, 0, 1, 0, 1, 1], [2]), ([0, 1, 1, 0, 0, 1, 0, 0, 1, 0, 1, 1], [4, 3, 0]), ([0, 1, 1, 1, 0, 0, 1, 0, 0, 1, 0, 1, 1], [4, 3, 0]), ([0, 0, 0, 0, 1, 1, 1, 0, 0, 1, 0, 0, 1, 0, 1, 1], [53, 0, 4, 3]), ([1, 0, 0, 0, 1, 1, 1, 0, 0, 1, 0, 0, 1, 0, 1, 1], [0, 4, 3]), ([1, 1, 0, 0, 0, 1, 1, 1, 0, 0, 1, 0, 0, 1, 0, 1, 1], [3, 0]), ([0, 0, 0, 1, 0, 0, 1, 1, 1, 0, 0, 1, 0, 0, 1, 0, 1, 1], [66, 4, 3, 0]), ([1, 0, 0, 1, 0, 0, 1, 1, 1, 0, 0, 1, 0, 0, 1, 0, 1, 1], [4, 3, 0]), ([0, 0, 1, 0, 0, 1, 0, 0, 1, 1, 1, 0, 0, 1, 0, 0, 1, 0, 1, 1], [2]), ([1, 0, 1, 0, 0, 1, 0, 0, 1, 1, 1, 0, 0, 1, 0, 0, 1, 0, 1, 1], [2]), ([0, 1, 0, 0, 1, 1, 1, 0, 0, 1, 0, 0, 1, 0, 1, 1], [4, 3, 0]), ([1, 1, 0, 0, 1, 1, 1, 0, 0, 1, 0, 0, 1, 0, 1, 1], [4, 3, 0]), ([1, 1, 1, 0, 0, 1, 0, 0, 1, 0, 1, 1], [3, 0]), ([0, 1, 0, 0, 1, 0, 1, 1], [3, 0]), ([1, 1, 0, 0, 1, 0, 1, 1], [3, 0]), ([1, 0, 1, 1], []), ([0, 1, 1, 1], [2]), ([1, 1, 1, 1], [2])]

def z18 (N : Nat) : Env := z42 tys zj [(20, z83 N)] [] [] [] false [] []

theorem zea (N : Nat) : EnvOk Go.Proofs.Try.prog (z18 N) := z11 mixed z1x (FnsOk.cons (zgw N) (FnsOk.nil)) (ItsOk.nil)

def z4f (N : Nat) (l : (List ((List UInt8) × (Int × (Int × Unit))))) (i : Int) (k0 : Bool -> Option Int) : Option Int :=
 cond (Go.Lift.inR i (List.length l))
 (cond (decide ((List.getD l (Int.toNat i) (([] : List UInt8), ((0 : Int), ((0 : Int), ())))).2.1 < (0 : Int)))
 (k0 true)
 (cond (Go.Lift.inR i (List.length l))
 (cond (decide ((1099511627776 : Int) < (List.getD l (Int.toNat i) (([] : List UInt8), ((0 : Int), ((0 : Int), ())))).2.1))
 (k0 true)
 (cond (Go.Lift.inR i (List.length l))
 (cond (decide ((List.getD l (Int.toNat i) (([] : List UInt8), ((0 : Int), ((0 : Int), ())))).2.2.1 < (0 : Int)))
 (k0 true)
 (cond (Go.Lift.inR i (List.length l))
 (k0 (decide ((1099511627776 : Int) < (List.getD l (Int.toNat i) (([] : List UInt8), ((0 : Int), ((0 : Int), ())))).2.2.1)))
 (none)))
 (none)))
 (none)))
 (none)

def z7x (N : Nat) (x : z1v [(0, .v (.sl (.pair .str (.pair (.int .i64) (.pair (.int .i64) .unit))))), (2, .v (.int .i64))]) (K : Ex -> List A -> Option Int) : Option Int :=
 z4f N x.1 x.2.1 (fun a2 => (K .normal (mkS [(0, .v (.sl (.pair .str (.pair (.int .i64) (.pair (.int .i64) .unit))))), (2, .v (.int .i64)), (46, .v .bool)] 16 (x.1, x.2.1, a2, ()))))

def z7s (N : Nat) : Hd Int := fun st K => (unS [(0, .v (.sl (.pair .str (.pair (.int .i64) (.pair (.int .i64) .unit))))), (2, .v (.int .i64))] 63 (restr [0, 3] 0 st)).bind fun x => z7x N x K

def zfp (N : Nat) : Tab Int := []

theorem ze6 {N : Nat} {c : Ctx} (hb : Base Go.Proofs.Try.prog (z18 N) c) : zu Go.Proofs.Try.prog c (ze zk [0, 0, 1, 0, 0, 1, 0, 0, 1, 0, 1, 1]) (z7s N) :=
  zq (s := [(0, .v (.sl (.pair .str (.pair (.int .i64) (.pair (.int .i64) .unit))))), (2, .v (.int .i64))]) (m := 63) (g := z7x N) [0, 3] (z9 hb N (zfp N) z1g zk TabOk.nil [0, 0, 1, 0, 0, 1, 0, 0, 1, 0, 1, 1] _ rfl) (fun x K => by kernel_rfl)

def z4g (N : Nat) (l : (List ((List UInt8) × (Int × (Int × Unit))))) (i : Int) (k0 : Int -> Option Int) (k1 : Option Int) : Option Int :=
 z4f N l i
 (fun x50 => cond x50
 (k0 (7 : Int))
 (k1))

def z7y (N : Nat) (x : z1v [(0, .v (.sl (.pair .str (.pair (.int .i64) (.pair (.int .i64) .unit))))), (2, .v (.int .i64))]) (K : Ex -> List A -> Option Int) : Option Int :=
 z4g N x.1 x.2.1 (fun a0 => (K .ret (mkS [(2, .v (.int .i64))] 64 (a0, ())))) (K .normal (mkS [(0, .v (.sl (.pair .str (.pair (.int .i64) (.pair (.int .i64) .unit))))), (2, .v (.int .i64))] 63 (x.1, x.2.1, ())))

def z7t (N : Nat) : Hd Int := fun st K => (unS [(0, .v (.sl (.pair .str (.pair (.int .i64) (.pair (.int .i64) .unit))))), (2, .v (.int .i64))] 63 (restr [0, 3] 0 st)).bind fun x => z7y N x K

def zfq (N : Nat) : Tab Int := [([0, 0, 1, 0, 0, 1, 0, 0, 1, 0, 1, 1], z7s N)]

theorem ze7 {N : Nat} {c : Ctx} (hb : Base Go.Proofs.Try.prog (z18 N) c) : zu Go.Proofs.Try.prog c (ze zk [0, 1, 0, 0, 1, 0, 0, 1, 0, 1, 1]) (z7t N) :=
  zq (s := [(0, .v (.sl (.pair .str (.pair (.int .i64) (.pair (.int .i64) .unit))))), (2, .v (.int .i64))]) (m := 63) (g := z7y N) [0, 3] (z9 hb N (zfq N) z1g zk (TabOk.cons (ze6 hb) TabOk.nil) [0, 1, 0, 0, 1, 0, 0, 1, 0, 1, 1] _ rfl) (fun x K => by kernel_rfl)

def z4c (N : Nat) (l : (List ((List UInt8) × (Int × (Int × Unit))))) (i : Int) (k : Int) (rec : Int -> Option Int) (k0 : Int -> Option Int) (k1 : Option Int) : Option Int :=
 cond (decide (k < i))
 (cond (Go.Lift.inR k (List.length l))
 (cond (Go.Lift.inR i (List.length l))
 (cond ((List.getD l (Int.toNat k) (([] : List UInt8), ((0 : Int), ((0 : Int), ())))).1 == (List.getD l (Int.toNat i) (([] : List UInt8), ((0 : Int), ((0 : Int), ())))).1)
 (k0 (5 : Int))
 (rec (Go.IntKind.wrap Go.IntKind.i64 (k + (1 : Int)))))
 (none))
 (none))
 (k1)

def z4e (N : Nat) (l : (List ((List UInt8) × (Int × (Int × Unit))))) (i : Int) (k : Int) (k0 : Int -> Option Int) (k1 : Option Int) : Option Int :=
 iter (fun (v : Int) r => z4c N l i v (fun k => (r k)) k0 k1) N k

def z7w (N : Nat) (i : ((List ((List UInt8) × (Int × (Int × Unit)))) × Int)) (v : Int) (r : Int -> Option Int) (K : Ex -> List A -> Option Int) : Option Int :=
 z4c N i.1 i.2 v (fun k => (r k)) (fun a0 => (K .ret (mkS [(2, .v (.int .i64))] 64 (a0, ())))) (K (.exit 2) (mkS [(0, .v (.sl (.pair .str (.pair (.int .i64) (.pair (.int .i64) .unit))))), (2, .v (.int .i64))] 63 (i.1, i.2, ())))

def z7r (N : Nat) : Hd Int := fun st K => (unS [(0, .v (.sl (.pair .str (.pair (.int .i64) (.pair (.int .i64) .unit))))), (2, .v (.int .i64)), (0, .v (.int .i64))] 62 (restr [4, 3, 0] 0 st)).bind fun x => iter (fun v r => z7w N ((fun x => (x.1, x.2.1)) x) v r K) N ((fun x => x.2.2.1) x)

def zfo (N : Nat) : Tab Int := []

theorem ze5 {N : Nat} {c : Ctx} (hb : Base Go.Proofs.Try.prog (z18 N) c) : zu Go.Proofs.Try.prog c (ze zk [0, 1, 1, 1, 0, 0, 1, 0, 0, 1, 0, 1, 1]) (z7r N) :=
  zch (s := [(0, .v (.sl (.pair .str (.pair (.int .i64) (.pair (.int .i64) .unit))))), (2, .v (.int .i64)), (0, .v (.int .i64))]) (m := 62) (z7w N) [4, 3, 0] N (fun x => (x.1, x.2.1)) (fun x => x.2.2.1) (fun i v => (i.1, i.2, v, ())) (fun _ => rfl) (z9 hb N (zfo N) z1g zk TabOk.nil [0, 0, 1, 1, 1, 0, 0, 1, 0, 0, 1, 0, 1, 1] _ rfl) (fun i v r K => by kernel_rfl)

def z4h (N : Nat) (l : (List ((List UInt8) × (Int × (Int × Unit))))) (i : Int) (k0 : Int -> Option Int) (k1 : Option Int) : Option Int :=
 cond (Go.Lift.inR i (List.length l))
 ((z3b N (List.getD l (Int.toNat i) (([] : List UInt8), ((0 : Int), ((0 : Int), ())))).1).bind fun y =>
 cond (!y)
 (k0 (4 : Int))
 (z4g N l i
 (fun x2 => k0 x2)
 (z4e N l i (0 : Int)
 (fun x21 => k0 x21)
 (k1))))
 (none)

def z7z (N : Nat) (x : z1v [(0, .v (.sl (.pair .str (.pair (.int .i64) (.pair (.int .i64) .unit))))), (2, .v (.int .i64))]) (K : Ex -> List A -> Option Int) : Option Int :=
 z4h N x.1 x.2.1 (fun a0 => (K .ret (mkS [(2, .v (.int .i64))] 64 (a0, ())))) (K .normal (mkS [(0, .v (.sl (.pair .str (.pair (.int .i64) (.pair (.int .i64) .unit))))), (2, .v (.int .i64))] 63 (x.1, x.2.1, ())))

def z7u (N : Nat) : Hd Int := fun st K => (unS [(0, .v (.sl (.pair .str (.pair (.int .i64) (.pair (.int .i64) .unit))))), (2, .v (.int .i64))] 63 (restr [0, 3] 0 st)).bind fun x => z7z N x K

def zfr (N : Nat) : Tab Int := [([0, 1, 0, 0, 1, 0, 0, 1, 0, 1, 1], z7t N), ([0, 1, 1, 1, 0, 0, 1, 0, 0, 1, 0, 1, 1], z7r N)]

theorem ze8 {N : Nat} {c : Ctx} (hb : Base Go.Proofs.Try.prog (z18 N) c) : zu Go.Proofs.Try.prog c (ze zk [0, 1, 0, 0, 1, 0, 1, 1]) (z7u N) :=
  zq (s := [(0, .v (.sl (.pair .str (.pair (.int .i64) (.pair (.int .i64) .unit))))), (2, .v (.int .i64))]) (m := 63) (g := z7z N) [0, 3] (z9 hb N (zfr N) z1g zk (TabOk.cons (ze7 hb) (TabOk.cons (ze5 hb) TabOk.nil)) [0, 1, 0, 0, 1, 0, 1, 1] _ rfl) (fun x K => by kernel_rfl)

def z4d (N : Nat) (l : (List ((List UInt8) × (Int × (Int × Unit))))) (i : Int) (rec : Int -> Option Int) (k0 : Int -> Option Int) (k1 : Option Int) : Option Int :=
 cond (decide (i < (((List.length l) : Nat) : Int)))
 (z4h N l i
 (fun x2 => k0 x2)
 (rec (Go.IntKind.wrap Go.IntKind.i64 (i + (1 : Int)))))
 (k1)

def z7q (N : Nat) (l : (List ((List UInt8) × (Int × (Int × Unit))))) (i : Int) (k0 : Int -> Option Int) (k1 : Option Int) : Option Int :=
 iter (fun (v : Int) r => z4d N l v (fun i => (r i)) k0 k1) N i

def z80 (N : Nat) (i : (List ((List UInt8) × (Int × (Int × Unit))))) (v : Int) (r : Int -> Option Int) (K : Ex -> List A -> Option Int) : Option Int :=
 z4d N i v (fun i => (r i)) (fun a0 => (K .ret (mkS [(2, .v (.int .i64))] 64 (a0, ())))) (K (.exit 0) (mkS [] 67 ()))

def z7v (N : Nat) : Hd Int := fun st K => (unS [(0, .v (.sl (.pair .str (.pair (.int .i64) (.pair (.int .i64) .unit))))), (2, .v (.int .i64))] 63 (restr [3, 0] 0 st)).bind fun x => iter (fun v r => z80 N ((fun x => x.1) x) v r K) N ((fun x => x.2.1) x)

def zfs (N : Nat) : Tab Int := [([0, 1, 0, 0, 1, 0, 1, 1], z7u N)]

theorem ze9 {N : Nat} {c : Ctx} (hb : Base Go.Proofs.Try.prog (z18 N) c) : zu Go.Proofs.Try.prog c (ze zk [0, 1, 0, 1, 1]) (z7v N) :=
  zch (s := [(0, .v (.sl (.pair .str (.pair (.int .i64) (.pair (.int .i64) .unit))))), (2, .v (.int .i64))]) (m := 63) (z80 N) [3, 0] N (fun x => x.1) (fun x => x.2.1) (fun i v => (i, v, ())) (fun _ => rfl) (z9 hb N (zfs N) z1g zk (TabOk.cons (ze8 hb) TabOk.nil) [0, 0, 1, 0, 1, 1] _ rfl) (fun i v r K => by kernel_rfl)

def z1i (N : Nat) (l : (List ((List UInt8) × (Int × (Int × Unit))))) : Option Int :=
 cond (decide ((8 : Int) < (((List.length l) : Nat) : Int)))
 (some (3 : Int))
 (z7q N l (0 : Int)
 (fun x2 => some x2)
 (some (0 : Int)))

def z8m (N : Nat) : Tab Int := [([0, 1, 0, 1, 1], z7v N)]

theorem zde (N : Nat) (x : z1v [(0, .v (.sl (.pair .str (.pair (.int .i64) (.pair (.int .i64) .unit)))))]) : zbu (z18 N) N (z8m N) z1g Go.Proofs.Try.f9 (mkS [(0, .v (.sl (.pair .str (.pair (.int .i64) (.pair (.int .i64) .unit)))))] 0 x) (z4p (.v (.int .i64)) 1) = z1i N x.1 := by kernel_rfl

def z72 (N : Nat) : List A -> Res := z1w [(0, .v (.sl (.pair .str (.pair (.int .i64) (.pair (.int .i64) .unit)))))] (fun x => z1i N x.1) (zaf (.v (.int .i64)) 1)

theorem zft (N : Nat) : Contract Go.Proofs.Try.prog zj 9 (z72 N) :=
  Contract.of (E := z18 N) (H := z8m N) (L := z1g) (N := N) (body := zk) (K := (z4p (.v (.int .i64)) 1)) (zea N) Go.Proofs.Try.func9 (by kernel_rfl) (by decide) (fun _ hb => (TabOk.cons (ze9 hb) TabOk.nil)) (fun x y h => by rw [zde]; exact h) (z1h (s := (.v (.int .i64))) (m := 1))

def zdl : Code := (Go.Proofs.Try.f25.body).getD .skip

def z8p : List (List Nat × List Nat) := [([0], [1]), ([0, 1], [2]), ([1, 1], [2])]

def z4y (N : Nat) : Env := z42 tys zj [] [] [] [] false [] []

theorem zei (N : Nat) : EnvOk Go.Proofs.Try.prog (z4y N) := z11 mixed z1x (FnsOk.nil) (ItsOk.nil)

def z26 (N : Nat) (b : (Int × (Int × (Int × (Int × Unit))))) : Option Bool :=
 cond (decide ((0 : Int) <= b.1))
 (cond (decide (b.1 <= (1099511627776 : Int)))
 (cond (decide ((0 : Int) <= b.2.1))
 (cond (decide (b.2.1 <= (1099511627776 : Int)))
 (cond (decide ((0 : Int) <= b.2.2.1))
 (cond (decide (b.2.2.1 <= b.1))
 (cond (decide ((0 : Int) <= b.2.2.2.1))
 (some (decide (b.2.2.2.1 <= (1099511627776 : Int))))
 (some false))
 (some false))
 (some false))
 (some false))
 (some false))
 (some false))
 (some false)

def z8o (N : Nat) : Tab Bool := []

theorem zdk (N : Nat) (x : z1v [(0, .v (.pair (.int .i64) (.pair (.int .i64) (.pair (.int .i64) (.pair (.int .i64) .unit)))))]) : zbu (z4y N) N (z8o N) z8p Go.Proofs.Try.f25 (mkS [(0, .v (.pair (.int .i64) (.pair (.int .i64) (.pair (.int .i64) (.pair (.int .i64) .unit)))))] 0 x) (z4p (.v .bool) 1) = z26 N x.1 := by kernel_rfl

def z40 (N : Nat) : List A -> Res := z1w [(0, .v (.pair (.int .i64) (.pair (.int .i64) (.pair (.int .i64) (.pair (.int .i64) .unit)))))] (fun x => z26 N x.1) (zaf (.v .bool) 1)

theorem z82 (N : Nat) : Contract Go.Proofs.Try.prog zj 25 (z40 N) :=
  Contract.of (E := z4y N) (H := z8o N) (L := z8p) (N := N) (body := zdl) (K := (z4p (.v .bool) 1)) (zei N) Go.Proofs.Try.func25 (by kernel_rfl) (by decide) (fun _ hb => TabOk.nil) (fun x y h => by rw [zdk]; exact h) (z1h (s := (.v .bool)) (m := 1))

def z14 : Code := (Go.Proofs.Try.f13.body).getD .skip

def z2e : List (List Nat × List Nat) := [([0], [2, 1, 4]), ([0, 0, 1], [18, 2, 4, 1]), ([1, 0, 1], [1, 2, 4]), ([0, 0, 1, 0, 1], [4]), ([1, 0, 1, 0, 1], [4]), ([0, 1, 1], [1, 2, 5, 4]), ([0, 1, 1, 1], [2, 5, 4]), ([0, 0, 1, 1, 1, 1], [40, 2, 4, 5]), ([1, 0, 1, 1, 1, 1], [2, 5, 4]), ([0, 0, 1, 0, 1, 1, 1, 1], [2, 4]), ([0, 1, 0, 1, 0, 1, 1, 1, 1], [4]), ([1, 1, 0, 1, 0, 1, 1, 1, 1], [4]), ([0, 1, 1, 1, 1, 1], [2, 4]), ([0, 1, 1, 1, 1, 1, 1], [4]), ([1, 1, 1, 1, 1, 1, 1], [4])]

def z21 (N : Nat) : Env := z42 tys zj [(25, z40 N)] [] [] [] false [] []

theorem zht (N : Nat) : EnvOk Go.Proofs.Try.prog (z21 N) := z11 mixed z1x (FnsOk.cons (z82 N) (FnsOk.nil)) (ItsOk.nil)

def z6k (N : Nat) (now : Int) (b : (Int × (Int × (Int × (Int × Unit))))) (x4 : (Int × (Int × (Int × (Int × Unit))))) (k0 : Bool -> Option (Int × (Int × (Int × (Int × Unit))))) : Option (Int × (Int × (Int × (Int × Unit)))) :=
 (z26 N b).bind fun y =>
 cond (!y)
 (k0 true)
 (cond (decide (now <= b.2.2.2.1))
 (k0 true)
 (k0 (decide ((1099511627776 : Int) < now))))

def zb5 (N : Nat) (x : z1v [(1, .v (.int .i64)), (0, .box (.pair (.int .i64) (.pair (.int .i64) (.pair (.int .i64) (.pair (.int .i64) .unit))))), (1, .box (.pair (.int .i64) (.pair (.int .i64) (.pair (.int .i64) (.pair (.int .i64) .unit)))))]) (K : Ex -> List A -> Option (Int × (Int × (Int × (Int × Unit))))) : Option (Int × (Int × (Int × (Int × Unit)))) :=
 z6k N x.1 x.2.1 x.2.2.1 (fun a3 => (K .normal (mkS [(1, .v (.int .i64)), (0, .box (.pair (.int .i64) (.pair (.int .i64) (.pair (.int .i64) (.pair (.int .i64) .unit))))), (1, .box (.pair (.int .i64) (.pair (.int .i64) (.pair (.int .i64) (.pair (.int .i64) .unit))))), (13, .v .bool)] 35 (x.1, x.2.1, x.2.2.1, a3, ()))))

def zb1 (N : Nat) : Hd (Int × (Int × (Int × (Int × Unit)))) := fun st K => (unS [(1, .v (.int .i64)), (0, .box (.pair (.int .i64) (.pair (.int .i64) (.pair (.int .i64) (.pair (.int .i64) .unit))))), (1, .box (.pair (.int .i64) (.pair (.int .i64) (.pair (.int .i64) (.pair (.int .i64) .unit)))))] 49 (restr [2, 1, 4] 0 st)).bind fun x => zb5 N x K

def zj0 (N : Nat) : Tab (Int × (Int × (Int × (Int × Unit)))) := []

theorem zhr {N : Nat} {c : Ctx} (hb : Base Go.Proofs.Try.prog (z21 N) c) : zu Go.Proofs.Try.prog c (ze z14 [0, 0, 1]) (zb1 N) :=
  zq (s := [(1, .v (.int .i64)), (0, .box (.pair (.int .i64) (.pair (.int .i64) (.pair (.int .i64) (.pair (.int .i64) .unit))))), (1, .box (.pair (.int .i64) (.pair (.int .i64) (.pair (.int .i64) (.pair (.int .i64) .unit)))))]) (m := 49) (g := zb5 N) [2, 1, 4] (z9 hb N (zj0 N) z2e z14 TabOk.nil [0, 0, 1] _ rfl) (fun x K => by kernel_rfl)

def z6l (N : Nat) (now : Int) (b : (Int × (Int × (Int × (Int × Unit))))) (x4 : (Int × (Int × (Int × (Int × Unit))))) (k0 : Option (Int × (Int × (Int × (Int × Unit))))) (k1 : Option (Int × (Int × (Int × (Int × Unit))))) : Option (Int × (Int × (Int × (Int × Unit)))) :=
 z6k N now b x4
 (fun x18 => cond x18
 (k0)
 (k1))

def zb6 (N : Nat) (x : z1v [(1, .v (.int .i64)), (0, .box (.pair (.int .i64) (.pair (.int .i64) (.pair (.int .i64) (.pair (.int .i64) .unit))))), (1, .box (.pair (.int .i64) (.pair (.int .i64) (.pair (.int .i64) (.pair (.int .i64) .unit)))))]) (K : Ex -> List A -> Option (Int × (Int × (Int × (Int × Unit))))) : Option (Int × (Int × (Int × (Int × Unit)))) :=
 z6l N x.1 x.2.1 x.2.2.1 (K .ret (mkS [(4, .box (.pair (.int .i64) (.pair (.int .i64) (.pair (.int .i64) (.pair (.int .i64) .unit)))))] 49 (x.2.1, ()))) (K .normal (mkS [(1, .v (.int .i64)), (0, .box (.pair (.int .i64) (.pair (.int .i64) (.pair (.int .i64) (.pair (.int .i64) .unit))))), (1, .box (.pair (.int .i64) (.pair (.int .i64) (.pair (.int .i64) (.pair (.int .i64) .unit)))))] 49 (x.1, x.2.1, x.2.2.1, ())))

def zb2 (N : Nat) : Hd (Int × (Int × (Int × (Int × Unit)))) := fun st K => (unS [(1, .v (.int .i64)), (0, .box (.pair (.int .i64) (.pair (.int .i64) (.pair (.int .i64) (.pair (.int .i64) .unit))))), (1, .box (.pair (.int .i64) (.pair (.int .i64) (.pair (.int .i64) (.pair (.int .i64) .unit)))))] 49 (restr [2, 1, 4] 0 st)).bind fun x => zb6 N x K

def zj1 (N : Nat) : Tab (Int × (Int × (Int × (Int × Unit)))) := [([0, 0, 1], zb1 N)]

theorem zhs {N : Nat} {c : Ctx} (hb : Base Go.Proofs.Try.prog (z21 N) c) : zu Go.Proofs.Try.prog c (ze z14 [0, 1]) (zb2 N) :=
  zq (s := [(1, .v (.int .i64)), (0, .box (.pair (.int .i64) (.pair (.int .i64) (.pair (.int .i64) (.pair (.int .i64) .unit))))), (1, .box (.pair (.int .i64) (.pair (.int .i64) (.pair (.int .i64) (.pair (.int .i64) .unit)))))]) (m := 49) (g := zb6 N) [2, 1, 4] (z9 hb N (zj1 N) z2e z14 (TabOk.cons (zhr hb) TabOk.nil) [0, 1] _ rfl) (fun x K => by kernel_rfl)

def z6i (N : Nat) (b : (Int × (Int × (Int × (Int × Unit))))) (x4 : (Int × (Int × (Int × (Int × Unit))))) (ticks : Int) (k0 : Bool -> Option (Int × (Int × (Int × (Int × Unit))))) : Option (Int × (Int × (Int × (Int × Unit)))) :=
 cond (decide ((0 : Int) < b.2.1))
 (cond (b.2.1 == (0 : Int))
 (none)
 (k0 (decide ((Go.IntKind.wrap Go.IntKind.i64 (Int.tdiv (Go.IntKind.wrap Go.IntKind.i64 (b.1 - b.2.2.1)) b.2.1)) < ticks))))
 (k0 false)

def zb3 (N : Nat) (x : z1v [(2, .box (.pair (.int .i64) (.pair (.int .i64) (.pair (.int .i64) (.pair (.int .i64) .unit))))), (1, .box (.pair (.int .i64) (.pair (.int .i64) (.pair (.int .i64) (.pair (.int .i64) .unit))))), (0, .v (.int .i64))]) (K : Ex -> List A -> Option (Int × (Int × (Int × (Int × Unit))))) : Option (Int × (Int × (Int × (Int × Unit)))) :=
 z6i N x.1 x.2.1 x.2.2.1 (fun a3 => (K .normal (mkS [(2, .box (.pair (.int .i64) (.pair (.int .i64) (.pair (.int .i64) (.pair (.int .i64) .unit))))), (1, .box (.pair (.int .i64) (.pair (.int .i64) (.pair (.int .i64) (.pair (.int .i64) .unit))))), (0, .v (.int .i64)), (34, .v .bool)] 13 (x.1, x.2.1, x.2.2.1, a3, ()))))

end
end Go.Proofs.YtdeemkigjeemjaaLg

set_option linter.all false
set_option maxRecDepth 100000
namespace Go.Proofs.YtdeemkigjeemjaaLg
noncomputable section
open Go Go.Lift

def zaz (N : Nat) : Hd (Int × (Int × (Int × (Int × Unit)))) := fun st K => (unS [(2, .box (.pair (.int .i64) (.pair (.int .i64) (.pair (.int .i64) (.pair (.int .i64) .unit))))), (1, .box (.pair (.int .i64) (.pair (.int .i64) (.pair (.int .i64) (.pair (.int .i64) .unit))))), (0, .v (.int .i64))] 48 (restr [2, 5, 4] 0 st)).bind fun x => zb3 N x K

def ziy (N : Nat) : Tab (Int × (Int × (Int × (Int × Unit)))) := []

theorem zhp {N : Nat} {c : Ctx} (hb : Base Go.Proofs.Try.prog (z21 N) c) : zu Go.Proofs.Try.prog c (ze z14 [0, 0, 1, 1, 1, 1]) (zaz N) :=
  zq (s := [(2, .box (.pair (.int .i64) (.pair (.int .i64) (.pair (.int .i64) (.pair (.int .i64) .unit))))), (1, .box (.pair (.int .i64) (.pair (.int .i64) (.pair (.int .i64) (.pair (.int .i64) .unit))))), (0, .v (.int .i64))]) (m := 48) (g := zb3 N) [2, 5, 4] (z9 hb N (ziy N) z2e z14 TabOk.nil [0, 0, 1, 1, 1, 1] _ rfl) (fun x K => by kernel_rfl)

def z6j (N : Nat) (b : (Int × (Int × (Int × (Int × Unit))))) (x4 : (Int × (Int × (Int × (Int × Unit))))) (ticks : Int) (k0 : (Int × (Int × (Int × (Int × Unit)))) -> Option (Int × (Int × (Int × (Int × Unit))))) (k1 : Option (Int × (Int × (Int × (Int × Unit))))) : Option (Int × (Int × (Int × (Int × Unit)))) :=
 z6i N b x4 ticks
 (fun x40 => cond x40
 (k0 (b.1, (b.2.1, (b.1, b.2.2.2))))
 (k1))

def zb4 (N : Nat) (x : z1v [(2, .box (.pair (.int .i64) (.pair (.int .i64) (.pair (.int .i64) (.pair (.int .i64) .unit))))), (1, .box (.pair (.int .i64) (.pair (.int .i64) (.pair (.int .i64) (.pair (.int .i64) .unit))))), (0, .v (.int .i64))]) (K : Ex -> List A -> Option (Int × (Int × (Int × (Int × Unit))))) : Option (Int × (Int × (Int × (Int × Unit)))) :=
 z6j N x.1 x.2.1 x.2.2.1 (fun a0 => (K .ret (mkS [(4, .box (.pair (.int .i64) (.pair (.int .i64) (.pair (.int .i64) (.pair (.int .i64) .unit)))))] 49 (a0, ())))) (K .normal (mkS [(2, .box (.pair (.int .i64) (.pair (.int .i64) (.pair (.int .i64) (.pair (.int .i64) .unit))))), (1, .box (.pair (.int .i64) (.pair (.int .i64) (.pair (.int .i64) (.pair (.int .i64) .unit))))), (0, .v (.int .i64))] 48 (x.1, x.2.1, x.2.2.1, ())))

def zb0 (N : Nat) : Hd (Int × (Int × (Int × (Int × Unit)))) := fun st K => (unS [(2, .box (.pair (.int .i64) (.pair (.int .i64) (.pair (.int .i64) (.pair (.int .i64) .unit))))), (1, .box (.pair (.int .i64) (.pair (.int .i64) (.pair (.int .i64) (.pair (.int .i64) .unit))))), (0, .v (.int .i64))] 48 (restr [2, 5, 4] 0 st)).bind fun x => zb4 N x K

def ziz (N : Nat) : Tab (Int × (Int × (Int × (Int × Unit)))) := [([0, 0, 1, 1, 1, 1], zaz N)]

theorem zhq {N : Nat} {c : Ctx} (hb : Base Go.Proofs.Try.prog (z21 N) c) : zu Go.Proofs.Try.prog c (ze z14 [0, 1, 1, 1, 1]) (zb0 N) :=
  zq (s := [(2, .box (.pair (.int .i64) (.pair (.int .i64) (.pair (.int .i64) (.pair (.int .i64) .unit))))), (1, .box (.pair (.int .i64) (.pair (.int .i64) (.pair (.int .i64) (.pair (.int .i64) .unit))))), (0, .v (.int .i64))]) (m := 48) (g := zb4 N) [2, 5, 4] (z9 hb N (ziz N) z2e z14 (TabOk.cons (zhp hb) TabOk.nil) [0, 1, 1, 1, 1] _ rfl) (fun x K => by kernel_rfl)

def z3f (N : Nat) (b : (Int × (Int × (Int × (Int × Unit))))) (now : Int) : Option (Int × (Int × (Int × (Int × Unit)))) :=
 z6l N now b ((0 : Int), ((0 : Int), ((0 : Int), ((0 : Int), ()))))
 (some b)
 (z6j N (b.1, (b.2.1, (b.2.2.1, (now, b.2.2.2.2)))) ((0 : Int), ((0 : Int), ((0 : Int), ((0 : Int), ())))) (Go.IntKind.wrap Go.IntKind.i64 (now - b.2.2.2.1))
 (fun x4 => some x4)
 (some (b.1, (b.2.1, ((Go.IntKind.wrap Go.IntKind.i64 (b.2.2.1 + (Go.IntKind.wrap Go.IntKind.i64 (b.2.1 * (Go.IntKind.wrap Go.IntKind.i64 (now - b.2.2.2.1)))))), (now, b.2.2.2.2))))))

def zcz (N : Nat) : Tab (Int × (Int × (Int × (Int × Unit)))) := [([0, 1], zb2 N), ([0, 1, 1, 1, 1], zb0 N)]

theorem zgo (N : Nat) (x : z1v [(0, .v (.pair (.int .i64) (.pair (.int .i64) (.pair (.int .i64) (.pair (.int .i64) .unit))))), (0, .v (.int .i64))]) : zbu (z21 N) N (zcz N) z2e Go.Proofs.Try.f13 (mkS [(0, .v (.pair (.int .i64) (.pair (.int .i64) (.pair (.int .i64) (.pair (.int .i64) .unit))))), (0, .v (.int .i64))] 0 x) (z4p (.v (.pair (.int .i64) (.pair (.int .i64) (.pair (.int .i64) (.pair (.int .i64) .unit))))) 2) = z3f N x.1 x.2.1 := by kernel_rfl

def z60 (N : Nat) : List A -> Res := z1w [(0, .v (.pair (.int .i64) (.pair (.int .i64) (.pair (.int .i64) (.pair (.int .i64) .unit))))), (0, .v (.int .i64))] (fun x => z3f N x.1 x.2.1) (zaf (.v (.pair (.int .i64) (.pair (.int .i64) (.pair (.int .i64) (.pair (.int .i64) .unit))))) 2)

theorem zb7 (N : Nat) : Contract Go.Proofs.Try.prog zj 13 (z60 N) :=
  Contract.of (E := z21 N) (H := zcz N) (L := z2e) (N := N) (body := z14) (K := (z4p (.v (.pair (.int .i64) (.pair (.int .i64) (.pair (.int .i64) (.pair (.int .i64) .unit))))) 2)) (zht N) Go.Proofs.Try.func13 (by kernel_rfl) (by decide) (fun _ hb => (TabOk.cons (zhs hb) (TabOk.cons (zhq hb) TabOk.nil))) (fun x y h => by rw [zgo]; exact h) (z1h (s := (.v (.pair (.int .i64) (.pair (.int .i64) (.pair (.int .i64) (.pair (.int .i64) .unit)))))) (m := 2))

def zeh : Code := (Go.Proofs.Try.f14.body).getD .skip

def z9t : List (List Nat × List Nat) := [([0], [2, 4, 1]), ([0, 0, 1], [8, 2, 4, 1]), ([1, 0, 1], [2, 1, 4]), ([0, 0, 1, 0, 1], [4, 5]), ([1, 0, 1, 0, 1], [4, 5]), ([0, 1, 1], [2, 4]), ([0, 0, 1, 1, 1], [15, 2, 4]), ([1, 0, 1, 1, 1], [2, 4]), ([0, 0, 1, 0, 1, 1, 1], [4, 5]), ([1, 0, 1, 0, 1, 1, 1], [4, 5]), ([0, 1, 1, 1, 1], [2, 4]), ([0, 1, 1, 1, 1, 1], [4, 5]), ([1, 1, 1, 1, 1, 1], [4, 5])]

def z5z (N : Nat) : Env := z42 tys zj [(13, z60 N), (25, z40 N)] [] [] [] false [] []

theorem zfu (N : Nat) : EnvOk Go.Proofs.Try.prog (z5z N) := z11 mixed z1x (FnsOk.cons (zb7 N) (FnsOk.cons (z82 N) (FnsOk.nil))) (ItsOk.nil)

def z2d (N : Nat) (b : (Int × (Int × (Int × (Int × Unit))))) (now : Int) : Option ((Int × (Int × (Int × (Int × Unit)))) × Bool × Unit) :=
 (z26 N b).bind fun y =>
 cond (!y)
 (some (b, (false, ())))
 ((z3f N b now).bind fun y1 =>
 cond (y1.2.2.1 == (0 : Int))
 (some (y1, (false, ())))
 (some ((y1.1, (y1.2.1, ((Go.IntKind.wrap Go.IntKind.i64 (y1.2.2.1 - (1 : Int))), y1.2.2.2))), (true, ()))))

def z9s (N : Nat) : Tab ((Int × (Int × (Int × (Int × Unit)))) × Bool × Unit) := []

theorem zeg (N : Nat) (x : z1v [(0, .v (.pair (.int .i64) (.pair (.int .i64) (.pair (.int .i64) (.pair (.int .i64) .unit))))), (0, .v (.int .i64))]) : zbu (z5z N) N (z9s N) z9t Go.Proofs.Try.f14 (mkS [(0, .v (.pair (.int .i64) (.pair (.int .i64) (.pair (.int .i64) (.pair (.int .i64) .unit))))), (0, .v (.int .i64))] 0 x) (z4p (.tup [(.pair (.int .i64) (.pair (.int .i64) (.pair (.int .i64) (.pair (.int .i64) .unit)))), .bool]) 2) = z2d N x.1 x.2.1 := by kernel_rfl

def z4i (N : Nat) : List A -> Res := z1w [(0, .v (.pair (.int .i64) (.pair (.int .i64) (.pair (.int .i64) (.pair (.int .i64) .unit))))), (0, .v (.int .i64))] (fun x => z2d N x.1 x.2.1) (zaf (.tup [(.pair (.int .i64) (.pair (.int .i64) (.pair (.int .i64) (.pair (.int .i64) .unit)))), .bool]) 2)

theorem z8n (N : Nat) : Contract Go.Proofs.Try.prog zj 14 (z4i N) :=
  Contract.of (E := z5z N) (H := z9s N) (L := z9t) (N := N) (body := zeh) (K := (z4p (.tup [(.pair (.int .i64) (.pair (.int .i64) (.pair (.int .i64) (.pair (.int .i64) .unit)))), .bool]) 2)) (zfu N) Go.Proofs.Try.func14 (by kernel_rfl) (by decide) (fun _ hb => TabOk.nil) (fun x y h => by rw [zeg]; exact h) (z1h (s := (.tup [(.pair (.int .i64) (.pair (.int .i64) (.pair (.int .i64) (.pair (.int .i64) .unit)))), .bool])) (m := 2))

def zp : Code := (Go.Proofs.Try.f11.body).getD .skip

def z1q : List (List Nat × List Nat) := [([0], [0, 4, 1, 2, 3, 10]), ([0, 0, 1], [12, 0, 4, 1, 2, 3, 10]), ([0, 1, 0, 1], [12, 0, 4, 1, 2, 3, 10]), ([0, 0, 0, 0, 1, 0, 1], [18, 0, 12, 4, 1, 2, 3, 10]), ([1, 0, 0, 0, 1, 0, 1], [0, 12, 4, 1, 2, 3, 10]), ([1, 1, 0, 0, 0, 1, 0, 1], [10]), ([0, 0, 0, 0, 1, 0, 0, 1, 0, 1], [27, 12, 0, 4, 1, 2, 3, 10]), ([1, 0, 0, 0, 1, 0, 0, 1, 0, 1], [0, 12, 1, 2, 3, 4, 10]), ([0, 1, 0, 0, 0, 1, 0, 0, 1, 0, 1], [12, 0, 4, 1, 2, 3, 10]), ([0, 1, 0, 0, 1, 0, 0, 1, 0, 1], [2, 3, 4, 13, 10]), ([0, 0, 1, 1, 0, 0, 1, 0, 0, 1, 0, 1], [14, 2, 3, 4, 13, 10]), ([0, 1, 0, 1, 1, 0, 0, 1, 0, 0, 1, 0, 1], [14, 2, 3, 4, 13, 10]), ([0, 0, 0, 0, 1, 0, 1, 1, 0, 0, 1, 0, 0, 1, 0, 1], [43, 2, 14, 3, 4, 13, 10]), ([1, 0, 0, 0, 1, 0, 1, 1, 0, 0, 1, 0, 0, 1, 0, 1], [2, 14, 3, 4, 13, 10]), ([1, 1, 0, 0, 0, 1, 0, 1, 1, 0, 0, 1, 0, 0, 1, 0, 1], [13, 10]), ([0, 0, 0, 1, 0, 0, 1, 0, 1, 1, 0, 0, 1, 0, 0, 1, 0, 1], [61, 13, 2, 14, 3, 4, 10]), ([1, 0, 0, 1, 0, 0, 1, 0, 1, 1, 0, 0, 1, 0, 0, 1, 0, 1], [14, 2, 3, 4, 13, 10]), ([0, 1, 0, 0, 1, 0, 0, 1, 0, 1, 1, 0, 0, 1, 0, 0, 1, 0, 1], [14, 2, 3, 4, 13, 10]), ([0, 1, 0, 0, 1, 0, 1, 1, 0, 0, 1, 0, 0, 1, 0, 1], [14, 2, 3, 4, 13, 10]), ([1, 1, 0, 0, 1, 0, 1, 1, 0, 0, 1, 0, 0, 1, 0, 1], [14, 2, 3, 4, 13, 10]), ([1, 0, 1, 1, 0, 0, 1, 0, 0, 1, 0, 1], [13, 10]), ([0, 1, 1, 1, 0, 0, 1, 0, 0, 1, 0, 1], [10, 11]), ([1, 1, 1, 1, 0, 0, 1, 0, 0, 1, 0, 1], [10, 11]), ([0, 1, 0, 0, 1, 0, 1], [12, 0, 4, 1, 2, 3, 10]), ([1, 1, 0, 0, 1, 0, 1], [12, 0, 4, 1, 2, 3, 10]), ([1, 0, 1], [10]), ([0, 1, 1], [10, 11]), ([1, 1, 1], [10, 11])]

def z1a (N : Nat) : Env := z42 tys zj [(14, z4i N)] [] [] [] false [] []

theorem zdj (N : Nat) : EnvOk Go.Proofs.Try.prog (z1a N) := z11 mixed z1x (FnsOk.cons (z8n N) (FnsOk.nil)) (ItsOk.nil)

def z3x (N : Nat) (asked : (List ((List UInt8) × ((List UInt8) × (Int × Unit))))) (tenant : (List UInt8)) (class_ : (List UInt8)) (x10 : (Int × (Int × (Int × (Int × Unit))))) (b : (Int × (Int × (Int × (Int × Unit))))) (k : Int) (k0 : Bool -> Option ((Int × (Int × (Int × (Int × Unit)))) × Bool × Unit)) : Option ((Int × (Int × (Int × (Int × Unit)))) × Bool × Unit) :=
 cond (Go.Lift.inR k (List.length asked))
 (cond ((List.getD asked (Int.toNat k) (([] : List UInt8), (([] : List UInt8), ((0 : Int), ())))).1 == tenant)
 (cond (Go.Lift.inR k (List.length asked))
 (k0 ((List.getD asked (Int.toNat k) (([] : List UInt8), (([] : List UInt8), ((0 : Int), ())))).2.1 == class_))
 (none))
 (k0 false))
 (none)

def z78 (N : Nat) (x : z1v [(2, .v (.sl (.pair .str (.pair .str (.pair (.int .i64) .unit))))), (0, .v .str), (0, .v .str), (5, .box (.pair (.int .i64) (.pair (.int .i64) (.pair (.int .i64) (.pair (.int .i64) .unit))))), (2, .box (.pair (.int .i64) (.pair (.int .i64) (.pair (.int .i64) (.pair (.int .i64) .unit))))), (0, .v (.int .i64))]) (K : Ex -> List A -> Option ((Int × (Int × (Int × (Int × Unit)))) × Bool × Unit)) : Option ((Int × (Int × (Int × (Int × Unit)))) × Bool × Unit) :=
 z3x N x.1 x.2.1 x.2.2.1 x.2.2.2.1 x.2.2.2.2.1 x.2.2.2.2.2.1 (fun a6 => (K .normal (mkS [(2, .v (.sl (.pair .str (.pair .str (.pair (.int .i64) .unit))))), (0, .v .str), (0, .v .str), (5, .box (.pair (.int .i64) (.pair (.int .i64) (.pair (.int .i64) (.pair (.int .i64) .unit))))), (2, .box (.pair (.int .i64) (.pair (.int .i64) (.pair (.int .i64) (.pair (.int .i64) .unit))))), (0, .v (.int .i64)), (46, .v .bool)] 12 (x.1, x.2.1, x.2.2.1, x.2.2.2.1, x.2.2.2.2.1, x.2.2.2.2.2.1, a6, ()))))

def z74 (N : Nat) : Hd ((Int × (Int × (Int × (Int × Unit)))) × Bool × Unit) := fun st K => (unS [(2, .v (.sl (.pair .str (.pair .str (.pair (.int .i64) .unit))))), (0, .v .str), (0, .v .str), (5, .box (.pair (.int .i64) (.pair (.int .i64) (.pair (.int .i64) (.pair (.int .i64) .unit))))), (2, .box (.pair (.int .i64) (.pair (.int .i64) (.pair (.int .i64) (.pair (.int .i64) .unit))))), (0, .v (.int .i64))] 59 (restr [2, 14, 3, 4, 13, 10] 0 st)).bind fun x => z78 N x K

def zeb (N : Nat) : Tab ((Int × (Int × (Int × (Int × Unit)))) × Bool × Unit) := []

theorem zdf {N : Nat} {c : Ctx} (hb : Base Go.Proofs.Try.prog (z1a N) c) : zu Go.Proofs.Try.prog c (ze zp [0, 0, 0, 1, 0, 0, 1, 0, 1, 1, 0, 0, 1, 0, 0, 1, 0, 1]) (z74 N) :=
  zq (s := [(2, .v (.sl (.pair .str (.pair .str (.pair (.int .i64) .unit))))), (0, .v .str), (0, .v .str), (5, .box (.pair (.int .i64) (.pair (.int .i64) (.pair (.int .i64) (.pair (.int .i64) .unit))))), (2, .box (.pair (.int .i64) (.pair (.int .i64) (.pair (.int .i64) (.pair (.int .i64) .unit))))), (0, .v (.int .i64))]) (m := 59) (g := z78 N) [2, 14, 3, 4, 13, 10] (z9 hb N (zeb N) z1q zp TabOk.nil [0, 0, 0, 1, 0, 0, 1, 0, 1, 1, 0, 0, 1, 0, 0, 1, 0, 1] _ rfl) (fun x K => by kernel_rfl)

def z3y (N : Nat) (asked : (List ((List UInt8) × ((List UInt8) × (Int × Unit))))) (tenant : (List UInt8)) (class_ : (List UInt8)) (x10 : (Int × (Int × (Int × (Int × Unit))))) (b : (Int × (Int × (Int × (Int × Unit))))) (k : Int) (k0 : (Int × (Int × (Int × (Int × Unit)))) -> Option ((Int × (Int × (Int × (Int × Unit)))) × Bool × Unit)) : Option ((Int × (Int × (Int × (Int × Unit)))) × Bool × Unit) :=
 z3x N asked tenant class_ x10 b k
 (fun x61 => cond x61
 (cond (Go.Lift.inR k (List.length asked))
 ((z2d N b (List.getD asked (Int.toNat k) (([] : List UInt8), (([] : List UInt8), ((0 : Int), ())))).2.2.1).bind fun y =>
 k0 y.1)
 (none))
 (k0 b))

def z79 (N : Nat) (x : z1v [(2, .v (.sl (.pair .str (.pair .str (.pair (.int .i64) .unit))))), (0, .v .str), (0, .v .str), (5, .box (.pair (.int .i64) (.pair (.int .i64) (.pair (.int .i64) (.pair (.int .i64) .unit))))), (2, .box (.pair (.int .i64) (.pair (.int .i64) (.pair (.int .i64) (.pair (.int .i64) .unit))))), (0, .v (.int .i64))]) (K : Ex -> List A -> Option ((Int × (Int × (Int × (Int × Unit)))) × Bool × Unit)) : Option ((Int × (Int × (Int × (Int × Unit)))) × Bool × Unit) :=
 z3y N x.1 x.2.1 x.2.2.1 x.2.2.2.1 x.2.2.2.2.1 x.2.2.2.2.2.1 (fun a4 => (K .normal (mkS [(2, .v (.sl (.pair .str (.pair .str (.pair (.int .i64) .unit))))), (0, .v .str), (0, .v .str), (5, .box (.pair (.int .i64) (.pair (.int .i64) (.pair (.int .i64) (.pair (.int .i64) .unit))))), (2, .box (.pair (.int .i64) (.pair (.int .i64) (.pair (.int .i64) (.pair (.int .i64) .unit))))), (0, .v (.int .i64))] 59 (x.1, x.2.1, x.2.2.1, x.2.2.2.1, a4, x.2.2.2.2.2.1, ()))))

def z75 (N : Nat) : Hd ((Int × (Int × (Int × (Int × Unit)))) × Bool × Unit) := fun st K => (unS [(2, .v (.sl (.pair .str (.pair .str (.pair (.int .i64) .unit))))), (0, .v .str), (0, .v .str), (5, .box (.pair (.int .i64) (.pair (.int .i64) (.pair (.int .i64) (.pair (.int .i64) .unit))))), (2, .box (.pair (.int .i64) (.pair (.int .i64) (.pair (.int .i64) (.pair (.int .i64) .unit))))), (0, .v (.int .i64))] 59 (restr [2, 14, 3, 4, 13, 10] 0 st)).bind fun x => z79 N x K

def zec (N : Nat) : Tab ((Int × (Int × (Int × (Int × Unit)))) × Bool × Unit) := [([0, 0, 0, 1, 0, 0, 1, 0, 1, 1, 0, 0, 1, 0, 0, 1, 0, 1], z74 N)]

theorem zdg {N : Nat} {c : Ctx} (hb : Base Go.Proofs.Try.prog (z1a N) c) : zu Go.Proofs.Try.prog c (ze zp [0, 1, 0, 0, 1, 0, 1, 1, 0, 0, 1, 0, 0, 1, 0, 1]) (z75 N) :=
  zq (s := [(2, .v (.sl (.pair .str (.pair .str (.pair (.int .i64) .unit))))), (0, .v .str), (0, .v .str), (5, .box (.pair (.int .i64) (.pair (.int .i64) (.pair (.int .i64) (.pair (.int .i64) .unit))))), (2, .box (.pair (.int .i64) (.pair (.int .i64) (.pair (.int .i64) (.pair (.int .i64) .unit))))), (0, .v (.int .i64))]) (m := 59) (g := z79 N) [2, 14, 3, 4, 13, 10] (z9 hb N (zec N) z1q zp (TabOk.cons (zdf hb) TabOk.nil) [0, 1, 0, 0, 1, 0, 1, 1, 0, 0, 1, 0, 0, 1, 0, 1] _ rfl) (fun x K => by kernel_rfl)

def z3v (N : Nat) (asked : (List ((List UInt8) × ((List UInt8) × (Int × Unit))))) (tenant : (List UInt8)) (class_ : (List UInt8)) (x10 : (Int × (Int × (Int × (Int × Unit))))) (b : (Int × (Int × (Int × (Int × Unit))))) (k : Int) (rec : (Int × (Int × (Int × (Int × Unit)))) -> Int -> Option ((Int × (Int × (Int × (Int × Unit)))) × Bool × Unit)) (k0 : (Int × (Int × (Int × (Int × Unit)))) -> Option ((Int × (Int × (Int × (Int × Unit)))) × Bool × Unit)) : Option ((Int × (Int × (Int × (Int × Unit)))) × Bool × Unit) :=
 cond (decide (k < (((List.length asked) : Nat) : Int)))
 (z3y N asked tenant class_ x10 b k
 (fun b1 => rec b1 (Go.IntKind.wrap Go.IntKind.i64 (k + (1 : Int)))))
 (k0 b)

def z3z (N : Nat) (asked : (List ((List UInt8) × ((List UInt8) × (Int × Unit))))) (tenant : (List UInt8)) (class_ : (List UInt8)) (x10 : (Int × (Int × (Int × (Int × Unit))))) (b : (Int × (Int × (Int × (Int × Unit))))) (k : Int) (k0 : (Int × (Int × (Int × (Int × Unit)))) -> Option ((Int × (Int × (Int × (Int × Unit)))) × Bool × Unit)) : Option ((Int × (Int × (Int × (Int × Unit)))) × Bool × Unit) :=
 iter (fun (v : ((Int × (Int × (Int × (Int × Unit)))) × Int)) r => z3v N asked tenant class_ x10 v.1 v.2 (fun b k => (r (b, k))) k0) N (b, k)

def z7a (N : Nat) (i : ((List ((List UInt8) × ((List UInt8) × (Int × Unit)))) × (List UInt8) × (List UInt8) × (Int × (Int × (Int × (Int × Unit)))))) (v : ((Int × (Int × (Int × (Int × Unit)))) × Int)) (r : ((Int × (Int × (Int × (Int × Unit)))) × Int) -> Option ((Int × (Int × (Int × (Int × Unit)))) × Bool × Unit)) (K : Ex -> List A -> Option ((Int × (Int × (Int × (Int × Unit)))) × Bool × Unit)) : Option ((Int × (Int × (Int × (Int × Unit)))) × Bool × Unit) :=
 z3v N i.1 i.2.1 i.2.2.1 i.2.2.2 v.1 v.2 (fun b k => (r (b, k))) (fun a1 => (K (.exit 2) (mkS [(10, .box (.pair (.int .i64) (.pair (.int .i64) (.pair (.int .i64) (.pair (.int .i64) .unit))))), (2, .box (.pair (.int .i64) (.pair (.int .i64) (.pair (.int .i64) (.pair (.int .i64) .unit)))))] 60 (i.2.2.2, a1, ()))))

def z76 (N : Nat) : Hd ((Int × (Int × (Int × (Int × Unit)))) × Bool × Unit) := fun st K => (unS [(2, .v (.sl (.pair .str (.pair .str (.pair (.int .i64) .unit))))), (0, .v .str), (0, .v .str), (5, .box (.pair (.int .i64) (.pair (.int .i64) (.pair (.int .i64) (.pair (.int .i64) .unit))))), (2, .box (.pair (.int .i64) (.pair (.int .i64) (.pair (.int .i64) (.pair (.int .i64) .unit))))), (0, .v (.int .i64))] 59 (restr [14, 2, 3, 4, 13, 10] 0 st)).bind fun x => iter (fun v r => z7a N ((fun x => (x.1, x.2.1, x.2.2.1, x.2.2.2.1)) x) v r K) N ((fun x => (x.2.2.2.2.1, x.2.2.2.2.2.1)) x)

def zed (N : Nat) : Tab ((Int × (Int × (Int × (Int × Unit)))) × Bool × Unit) := [([0, 1, 0, 0, 1, 0, 1, 1, 0, 0, 1, 0, 0, 1, 0, 1], z75 N)]

theorem zdh {N : Nat} {c : Ctx} (hb : Base Go.Proofs.Try.prog (z1a N) c) : zu Go.Proofs.Try.prog c (ze zp [0, 1, 0, 1, 1, 0, 0, 1, 0, 0, 1, 0, 1]) (z76 N) :=
  zch (s := [(2, .v (.sl (.pair .str (.pair .str (.pair (.int .i64) .unit))))), (0, .v .str), (0, .v .str), (5, .box (.pair (.int .i64) (.pair (.int .i64) (.pair (.int .i64) (.pair (.int .i64) .unit))))), (2, .box (.pair (.int .i64) (.pair (.int .i64) (.pair (.int .i64) (.pair (.int .i64) .unit))))), (0, .v (.int .i64))]) (m := 59) (z7a N) [14, 2, 3, 4, 13, 10] N (fun x => (x.1, x.2.1, x.2.2.1, x.2.2.2.1)) (fun x => (x.2.2.2.2.1, x.2.2.2.2.2.1)) (fun i v => (i.1, i.2.1, i.2.2.1, i.2.2.2, v.1, v.2, ())) (fun _ => rfl) (z9 hb N (zed N) z1q zp (TabOk.cons (zdg hb) TabOk.nil) [0, 0, 1, 0, 1, 1, 0, 0, 1, 0, 0, 1, 0, 1] _ rfl) (fun i v r K => by kernel_rfl)

def z3w (N : Nat) (l : (List ((List UInt8) × (Int × (Int × Unit))))) (begun : Int) (asked : (List ((List UInt8) × ((List UInt8) × (Int × Unit))))) (tenant : (List UInt8)) (class_ : (List UInt8)) (x10 : (Int × (Int × (Int × (Int × Unit))))) (i : Int) (rec : Int -> Option ((Int × (Int × (Int × (Int × Unit)))) × Bool × Unit)) (k0 : (Int × (Int × (Int × (Int × Unit)))) -> Bool -> Option ((Int × (Int × (Int × (Int × Unit)))) × Bool × Unit)) (k1 : Option ((Int × (Int × (Int × (Int × Unit)))) × Bool × Unit)) : Option ((Int × (Int × (Int × (Int × Unit)))) × Bool × Unit) :=
 cond (decide (i < (((List.length l) : Nat) : Int)))
 (cond (Go.Lift.inR i (List.length l))
 (cond (!((List.getD l (Int.toNat i) (([] : List UInt8), ((0 : Int), ((0 : Int), ())))).1 == class_))
 (rec (Go.IntKind.wrap Go.IntKind.i64 (i + (1 : Int))))
 (cond (Go.Lift.inR i (List.length l))
 (cond (Go.Lift.inR i (List.length l))
 (z3z N asked tenant class_ x10 ((List.getD l (Int.toNat i) (([] : List UInt8), ((0 : Int), ((0 : Int), ())))).2.1, ((List.getD l (Int.toNat i) (([] : List UInt8), ((0 : Int), ((0 : Int), ())))).2.2.1, ((0 : Int), (begun, ())))) (0 : Int)
 (fun b => k0 b true))
 (none))
 (none)))
 (none))
 (k1)

def z73 (N : Nat) (l : (List ((List UInt8) × (Int × (Int × Unit))))) (begun : Int) (asked : (List ((List UInt8) × ((List UInt8) × (Int × Unit))))) (tenant : (List UInt8)) (class_ : (List UInt8)) (x10 : (Int × (Int × (Int × (Int × Unit))))) (i : Int) (k0 : (Int × (Int × (Int × (Int × Unit)))) -> Bool -> Option ((Int × (Int × (Int × (Int × Unit)))) × Bool × Unit)) (k1 : Option ((Int × (Int × (Int × (Int × Unit)))) × Bool × Unit)) : Option ((Int × (Int × (Int × (Int × Unit)))) × Bool × Unit) :=
 iter (fun (v : Int) r => z3w N l begun asked tenant class_ x10 v (fun i => (r i)) k0 k1) N i

def z7b (N : Nat) (i : ((List ((List UInt8) × (Int × (Int × Unit)))) × Int × (List ((List UInt8) × ((List UInt8) × (Int × Unit)))) × (List UInt8) × (List UInt8) × (Int × (Int × (Int × (Int × Unit)))))) (v : Int) (r : Int -> Option ((Int × (Int × (Int × (Int × Unit)))) × Bool × Unit)) (K : Ex -> List A -> Option ((Int × (Int × (Int × (Int × Unit)))) × Bool × Unit)) : Option ((Int × (Int × (Int × (Int × Unit)))) × Bool × Unit) :=
 z3w N i.1 i.2.1 i.2.2.1 i.2.2.2.1 i.2.2.2.2.1 i.2.2.2.2.2 v (fun i => (r i)) (fun a0 a1 => (K .ret (mkS [(10, .box (.pair (.int .i64) (.pair (.int .i64) (.pair (.int .i64) (.pair (.int .i64) .unit))))), (0, .v .bool)] 62 (a0, a1, ())))) (K (.exit 0) (mkS [(10, .box (.pair (.int .i64) (.pair (.int .i64) (.pair (.int .i64) (.pair (.int .i64) .unit)))))] 63 (i.2.2.2.2.2, ())))

def z77 (N : Nat) : Hd ((Int × (Int × (Int × (Int × Unit)))) × Bool × Unit) := fun st K => (unS [(0, .v (.sl (.pair .str (.pair (.int .i64) (.pair (.int .i64) .unit))))), (0, .v (.int .i64)), (0, .v (.sl (.pair .str (.pair .str (.pair (.int .i64) .unit))))), (0, .v .str), (0, .v .str), (5, .box (.pair (.int .i64) (.pair (.int .i64) (.pair (.int .i64) (.pair (.int .i64) .unit))))), (1, .v (.int .i64))] 61 (restr [12, 0, 4, 1, 2, 3, 10] 0 st)).bind fun x => iter (fun v r => z7b N ((fun x => (x.1, x.2.1, x.2.2.1, x.2.2.2.1, x.2.2.2.2.1, x.2.2.2.2.2.1)) x) v r K) N ((fun x => x.2.2.2.2.2.2.1) x)

def zee (N : Nat) : Tab ((Int × (Int × (Int × (Int × Unit)))) × Bool × Unit) := [([0, 1, 0, 1, 1, 0, 0, 1, 0, 0, 1, 0, 1], z76 N)]

theorem zdi {N : Nat} {c : Ctx} (hb : Base Go.Proofs.Try.prog (z1a N) c) : zu Go.Proofs.Try.prog c (ze zp [0, 1, 0, 1]) (z77 N) :=
  zch (s := [(0, .v (.sl (.pair .str (.pair (.int .i64) (.pair (.int .i64) .unit))))), (0, .v (.int .i64)), (0, .v (.sl (.pair .str (.pair .str (.pair (.int .i64) .unit))))), (0, .v .str), (0, .v .str), (5, .box (.pair (.int .i64) (.pair (.int .i64) (.pair (.int .i64) (.pair (.int .i64) .unit))))), (1, .v (.int .i64))]) (m := 61) (z7b N) [12, 0, 4, 1, 2, 3, 10] N (fun x => (x.1, x.2.1, x.2.2.1, x.2.2.2.1, x.2.2.2.2.1, x.2.2.2.2.2.1)) (fun x => x.2.2.2.2.2.2.1) (fun i v => (i.1, i.2.1, i.2.2.1, i.2.2.2.1, i.2.2.2.2.1, i.2.2.2.2.2, v, ())) (fun _ => rfl) (z9 hb N (zee N) z1q zp (TabOk.cons (zdh hb) TabOk.nil) [0, 0, 1, 0, 1] _ rfl) (fun i v r K => by kernel_rfl)

def z2h (N : Nat) (l : (List ((List UInt8) × (Int × (Int × Unit))))) (begun : Int) (asked : (List ((List UInt8) × ((List UInt8) × (Int × Unit))))) (tenant : (List UInt8)) (class_ : (List UInt8)) : Option ((Int × (Int × (Int × (Int × Unit)))) × Bool × Unit) :=
 z73 N l begun asked tenant class_ ((0 : Int), ((0 : Int), ((0 : Int), ((0 : Int), ())))) (0 : Int)
 (fun x10 x11 => some (x10, (x11, ())))
 (some (((0 : Int), ((0 : Int), ((0 : Int), ((0 : Int), ())))), (false, ())))

def z81 (N : Nat) : Tab ((Int × (Int × (Int × (Int × Unit)))) × Bool × Unit) := [([0, 1, 0, 1], z77 N)]

theorem zcd (N : Nat) (x : z1v [(0, .v (.sl (.pair .str (.pair (.int .i64) (.pair (.int .i64) .unit))))), (0, .v (.int .i64)), (0, .v (.sl (.pair .str (.pair .str (.pair (.int .i64) .unit))))), (0, .v .str), (0, .v .str)]) : zbu (z1a N) N (z81 N) z1q Go.Proofs.Try.f11 (mkS [(0, .v (.sl (.pair .str (.pair (.int .i64) (.pair (.int .i64) .unit))))), (0, .v (.int .i64)), (0, .v (.sl (.pair .str (.pair .str (.pair (.int .i64) .unit))))), (0, .v .str), (0, .v .str)] 0 x) (z4p (.tup [(.pair (.int .i64) (.pair (.int .i64) (.pair (.int .i64) (.pair (.int .i64) .unit)))), .bool]) 5) = z2h N x.1 x.2.1 x.2.2.1 x.2.2.2.1 x.2.2.2.2.1 := by kernel_rfl

def z6c (N : Nat) : List A -> Res := z1w [(0, .v (.sl (.pair .str (.pair (.int .i64) (.pair (.int .i64) .unit))))), (0, .v (.int .i64)), (0, .v (.sl (.pair .str (.pair .str (.pair (.int .i64) .unit))))), (0, .v .str), (0, .v .str)] (fun x => z2h N x.1 x.2.1 x.2.2.1 x.2.2.2.1 x.2.2.2.2.1) (zaf (.tup [(.pair (.int .i64) (.pair (.int .i64) (.pair (.int .i64) (.pair (.int .i64) .unit)))), .bool]) 5)

theorem zef (N : Nat) : Contract Go.Proofs.Try.prog zj 11 (z6c N) :=
  Contract.of (E := z1a N) (H := z81 N) (L := z1q) (N := N) (body := zp) (K := (z4p (.tup [(.pair (.int .i64) (.pair (.int .i64) (.pair (.int .i64) (.pair (.int .i64) .unit)))), .bool]) 5)) (zdj N) Go.Proofs.Try.func11 (by kernel_rfl) (by decide) (fun _ hb => (TabOk.cons (zdi hb) TabOk.nil)) (fun x y h => by rw [zcd]; exact h) (z1h (s := (.tup [(.pair (.int .i64) (.pair (.int .i64) (.pair (.int .i64) (.pair (.int .i64) .unit)))), .bool])) (m := 5))

def z7 : Code := (Go.Proofs.Try.f3.body).getD .skip

def zl : List (List Nat × List Nat) := [([0], [0, 2, 1]), ([0, 0, 1], [25, 0, 1, 2]), ([1, 0, 1], [0, 1, 2]), ([0, 0, 1, 0, 1], [6]), ([1, 0, 1, 0, 1], [6]), ([0, 1, 1], [0, 1, 7, 8, 2]), ([0, 0, 1, 1, 1], [37, 0, 1, 7, 8, 2]), ([1, 0, 1, 1, 1], [0, 1, 7, 8, 2]), ([0, 0, 1, 0, 1, 1, 1], [6]), ([1, 0, 1, 0, 1, 1, 1], [6]), ([0, 0, 1, 1, 1, 1], [48, 7, 8, 0, 1, 2]), ([1, 0, 1, 1, 1, 1], [7, 1, 2, 0, 8]), ([0, 0, 1, 0, 1, 1, 1, 1], [6]), ([1, 0, 1, 0, 1, 1, 1, 1], [6]), ([0, 0, 1, 1, 1, 1, 1], [70, 1, 2, 7, 0, 8]), ([1, 0, 1, 1, 1, 1, 1], [1, 2, 7, 0, 8]), ([0, 0, 1, 0, 1, 1, 1, 1, 1], [6]), ([1, 0, 1, 0, 1, 1, 1, 1, 1], [6]), ([0, 1, 1, 1, 1, 1, 1], [1, 2, 7, 0, 9, 8]), ([0, 1, 1, 1, 1, 1, 1, 1], [2, 7, 0, 10, 9, 8]), ([0, 0, 1, 1, 1, 1, 1, 1, 1, 1], [11, 2, 7, 0, 10, 9, 8]), ([0, 1, 0, 1, 1, 1, 1, 1, 1, 1, 1], [11, 2, 7, 0, 10, 9, 8]), ([0, 0, 0, 0, 1, 0, 1, 1, 1, 1, 1, 1, 1, 1], [75, 2, 11, 7, 0, 8, 10, 9]), ([1, 0, 0, 0, 1, 0, 1, 1, 1, 1, 1, 1, 1, 1], [2, 11, 7, 0, 8, 10, 9]), ([1, 1, 0, 0, 0, 1, 0, 1, 1, 1, 1, 1, 1, 1, 1], [8]), ([0, 0, 0, 1, 0, 0, 1, 0, 1, 1, 1, 1, 1, 1, 1, 1], [12, 7, 11, 2, 0, 8, 10, 9]), ([0, 0, 1, 0, 0, 1, 0, 0, 1, 0, 1, 1, 1, 1, 1, 1, 1, 1], [84, 7, 12, 11, 2, 0, 8, 10, 9]), ([1, 0, 1, 0, 0, 1, 0, 0, 1, 0, 1, 1, 1, 1, 1, 1, 1, 1], [0, 10, 2, 9, 11, 12, 7, 8]), ([0, 0, 1, 0, 1, 0, 0, 1, 0, 0, 1, 0, 1, 1, 1, 1, 1, 1, 1, 1], [12, 11, 2, 7, 0, 8, 10, 9]), ([0, 0, 1, 0, 1, 0, 1, 0, 0, 1, 0, 0, 1, 0, 1, 1, 1, 1, 1, 1, 1, 1], [96, 11, 12, 2, 7, 0, 8, 10, 9]), ([1, 0, 1, 0, 1, 0, 1, 0, 0, 1, 0, 0, 1, 0, 1, 1, 1, 1, 1, 1, 1, 1], [11, 2, 7, 0, 10, 9, 8]), ([0, 0, 1, 0, 1, 0, 1, 0, 1, 0, 0, 1, 0, 0, 1, 0, 1, 1, 1, 1, 1, 1, 1, 1], [12, 11, 2, 7, 0, 9, 8]), ([1, 0, 1, 0, 1, 0, 1, 0, 1, 0, 0, 1, 0, 0, 1, 0, 1, 1, 1, 1, 1, 1, 1, 1], [11, 2, 7, 0, 10, 9, 8]), ([1, 1, 0, 1, 0, 1, 0, 0, 1, 0, 0, 1, 0, 1, 1, 1, 1, 1, 1, 1, 1], [11, 2, 7, 0, 10, 9, 8]), ([0, 1, 1, 0, 0, 1, 0, 0, 1, 0, 1, 1, 1, 1, 1, 1, 1, 1], [7, 12, 13, 14, 11, 2, 0, 10, 9, 8]), ([0, 0, 1, 1, 1, 0, 0, 1, 0, 0, 1, 0, 1, 1, 1, 1, 1, 1, 1, 1], [127, 13, 12, 14, 7, 11, 2, 0, 10, 9, 8]), ([1, 0, 1, 1, 1, 0, 0, 1, 0, 0, 1, 0, 1, 1, 1, 1, 1, 1, 1, 1], [13, 12, 14, 7, 11, 2, 0, 10, 9, 8]), ([0, 0, 1, 0, 1, 1, 1, 0, 0, 1, 0, 0, 1, 0, 1, 1, 1, 1, 1, 1, 1, 1], [6]), ([1, 0, 1, 0, 1, 1, 1, 0, 0, 1, 0, 0, 1, 0, 1, 1, 1, 1, 1, 1, 1, 1], [6]), ([0, 1, 1, 1, 1, 0, 0, 1, 0, 0, 1, 0, 1, 1, 1, 1, 1, 1, 1, 1], [14, 7, 12, 11, 2, 0, 10, 9, 8, 16]), ([0, 1, 1, 1, 1, 1, 0, 0, 1, 0, 0, 1, 0, 1, 1, 1, 1, 1, 1, 1, 1], [14, 7, 12, 11, 2, 0, 10, 9, 8, 16, 17]), ([0, 0, 1, 1, 1, 1, 1, 1, 0, 0, 1, 0, 0, 1, 0, 1, 1, 1, 1, 1, 1, 1, 1], [136, 7, 12, 11, 2, 0, 10, 9, 8, 16, 17]), ([1, 0, 1, 1, 1, 1, 1, 1, 0, 0, 1, 0, 0, 1, 0, 1, 1, 1, 1, 1, 1, 1, 1], [7, 12, 17, 11, 2, 0, 10, 9, 8]), ([0, 1, 1, 0, 1, 1, 1, 1, 1, 1, 0, 0, 1, 0, 0, 1, 0, 1, 1, 1, 1, 1, 1, 1, 1], [138, 7, 12, 11, 2, 0, 10, 9, 8, 17]), ([1, 1, 1, 0, 1, 1, 1, 1, 1, 1, 0, 0, 1, 0, 0, 1, 0, 1, 1, 1, 1, 1, 1, 1, 1], [7, 12, 17, 11, 2, 0, 10, 9, 8]), ([0, 1, 1, 1, 0, 1, 1, 1, 1, 1, 1, 0, 0, 1, 0, 0, 1, 0, 1, 1, 1, 1, 1, 1, 1, 1], [7, 12, 17, 11, 2, 0, 10, 9, 8]), ([0, 1, 0, 1, 1, 1, 1, 1, 1, 0, 0, 1, 0, 0, 1, 0, 1, 1, 1, 1, 1, 1, 1, 1], [7, 12, 17, 11, 2, 0, 10, 9, 8]), ([0, 1, 1, 1, 1, 1, 1, 1, 0, 0, 1, 0, 0, 1, 0, 1, 1, 1, 1, 1, 1, 1, 1], [148, 11, 2, 7, 0, 10, 9, 8]), ([1, 1, 1, 1, 1, 1, 1, 1, 0, 0, 1, 0, 0, 1, 0, 1, 1, 1, 1, 1, 1, 1, 1], [11, 2, 7, 0, 10, 9, 8]), ([0, 0, 1, 1, 1, 1, 1, 1, 1, 1, 0, 0, 1, 0, 0, 1, 0, 1, 1, 1, 1, 1, 1, 1, 1], [6]), ([1, 0, 1, 1, 1, 1, 1, 1, 1, 1, 0, 0, 1, 0, 0, 1, 0, 1, 1, 1, 1, 1, 1, 1, 1], [6]), ([0, 1, 0, 0, 1, 0, 1, 1, 1, 1, 1, 1, 1, 1], [11, 2, 7, 0, 10, 9, 8]), ([1, 1, 0, 0, 1, 0, 1, 1, 1, 1, 1, 1, 1, 1], [11, 2, 7, 0, 10, 9, 8]), ([1, 0, 1, 1, 1, 1, 1, 1, 1, 1], [8]), ([0, 1, 1, 1, 1, 1, 1, 1, 1, 1], [6]), ([1, 1, 1, 1, 1, 1, 1, 1, 1, 1], [6])]

def zi (N : Nat) : Env := z42 tys zj [(11, z6c N), (14, z4i N), (13, z60 N), (9, z72 N), (6, z7c N), (12, z33 N), (15, z32 N), (7, ze3 N), (8, za0 N), (10, z59 N)] [] [] [] false [] []

theorem zaa (N : Nat) : EnvOk Go.Proofs.Try.prog (zi N) := z11 mixed z1x (FnsOk.cons (zef N) (FnsOk.cons (z8n N) (FnsOk.cons (zb7 N) (FnsOk.cons (zft N) (FnsOk.cons (zg3 N) (FnsOk.cons (z4l N) (FnsOk.cons (z4k N) (FnsOk.cons (zlv N) (FnsOk.cons (zho N) (FnsOk.cons (z9i N) (FnsOk.nil))))))))))) (ItsOk.nil)

def z2s (N : Nat) (l : (List ((List UInt8) × (Int × (Int × Unit))))) (now : Int) (asked : (List ((List UInt8) × ((List UInt8) × (Int × Unit))))) (k0 : Bool -> Option Bool) : Option Bool :=
 cond (decide ((12 : Int) < (((List.length l) : Nat) : Int)))
 (k0 true)
 (k0 (decide ((40 : Int) < (((List.length asked) : Nat) : Int))))

def z5p (N : Nat) (x : z1v [(0, .v (.sl (.pair .str (.pair (.int .i64) (.pair (.int .i64) .unit))))), (0, .v (.int .i64)), (0, .v (.sl (.pair .str (.pair .str (.pair (.int .i64) .unit)))))]) (K : Ex -> List A -> Option Bool) : Option Bool :=
 z2s N x.1 x.2.1 x.2.2.1 (fun a3 => (K .normal (mkS [(0, .v (.sl (.pair .str (.pair (.int .i64) (.pair (.int .i64) .unit))))), (0, .v (.int .i64)), (0, .v (.sl (.pair .str (.pair .str (.pair (.int .i64) .unit))))), (22, .v .bool)] 128 (x.1, x.2.1, x.2.2.1, a3, ()))))

def z5h (N : Nat) : Hd Bool := fun st K => (unS [(0, .v (.sl (.pair .str (.pair (.int .i64) (.pair (.int .i64) .unit))))), (0, .v (.int .i64)), (0, .v (.sl (.pair .str (.pair .str (.pair (.int .i64) .unit)))))] 151 (restr [0, 2, 1] 0 st)).bind fun x => z5p N x K

def zbe (N : Nat) : Tab Bool := []

theorem za8 {N : Nat} {c : Ctx} (hb : Base Go.Proofs.Try.prog (zi N) c) : zu Go.Proofs.Try.prog c (ze z7 [0, 0, 1]) (z5h N) :=
  zq (s := [(0, .v (.sl (.pair .str (.pair (.int .i64) (.pair (.int .i64) .unit))))), (0, .v (.int .i64)), (0, .v (.sl (.pair .str (.pair .str (.pair (.int .i64) .unit)))))]) (m := 151) (g := z5p N) [0, 2, 1] (z9 hb N (zbe N) zl z7 TabOk.nil [0, 0, 1] _ rfl) (fun x K => by kernel_rfl)

def z2t (N : Nat) (l : (List ((List UInt8) × (Int × (Int × Unit))))) (now : Int) (asked : (List ((List UInt8) × ((List UInt8) × (Int × Unit))))) (k0 : Bool -> Option Bool) (k1 : Option Bool) : Option Bool :=
 z2s N l now asked
 (fun x25 => cond x25
 ((z1s N).bind fun y =>
 k0 y)
 (k1))

def z5q (N : Nat) (x : z1v [(0, .v (.sl (.pair .str (.pair (.int .i64) (.pair (.int .i64) .unit))))), (0, .v (.int .i64)), (0, .v (.sl (.pair .str (.pair .str (.pair (.int .i64) .unit)))))]) (K : Ex -> List A -> Option Bool) : Option Bool :=
 z2t N x.1 x.2.1 x.2.2.1 (fun a0 => (K .ret (mkS [(6, .v .bool)] 147 (a0, ())))) (K .normal (mkS [(0, .v (.sl (.pair .str (.pair (.int .i64) (.pair (.int .i64) .unit))))), (0, .v (.int .i64)), (0, .v (.sl (.pair .str (.pair .str (.pair (.int .i64) .unit)))))] 151 (x.1, x.2.1, x.2.2.1, ())))

def z5i (N : Nat) : Hd Bool := fun st K => (unS [(0, .v (.sl (.pair .str (.pair (.int .i64) (.pair (.int .i64) .unit))))), (0, .v (.int .i64)), (0, .v (.sl (.pair .str (.pair .str (.pair (.int .i64) .unit)))))] 151 (restr [0, 2, 1] 0 st)).bind fun x => z5q N x K

def zbf (N : Nat) : Tab Bool := [([0, 0, 1], z5h N)]

theorem za9 {N : Nat} {c : Ctx} (hb : Base Go.Proofs.Try.prog (zi N) c) : zu Go.Proofs.Try.prog c (ze z7 [0, 1]) (z5i N) :=
  zq (s := [(0, .v (.sl (.pair .str (.pair (.int .i64) (.pair (.int .i64) .unit))))), (0, .v (.int .i64)), (0, .v (.sl (.pair .str (.pair .str (.pair (.int .i64) .unit)))))]) (m := 151) (g := z5q N) [0, 2, 1] (z9 hb N (zbf N) zl z7 (TabOk.cons (za8 hb) TabOk.nil) [0, 1] _ rfl) (fun x K => by kernel_rfl)

def z2q (N : Nat) (l : (List ((List UInt8) × (Int × (Int × Unit))))) (now : Int) (asked : (List ((List UInt8) × ((List UInt8) × (Int × Unit))))) (r_ : (Option ((List ((List UInt8) × (Int × (Int × Unit)))) × (Int × ((Option (List (((List UInt8) × ((List UInt8) × Unit)) × (Int × (Int × (Int × (Int × Unit))))))) × Unit))))) (e : Int) (k0 : Bool -> Option Bool) : Option Bool :=
 (z1i N l).bind fun y =>
 cond (y != (0 : Int))
 (k0 true)
 (cond (decide (now < (0 : Int)))
 (k0 true)
 (k0 (decide ((1099511627776 : Int) < now))))

def z5n (N : Nat) (x : z1v [(0, .v (.sl (.pair .str (.pair (.int .i64) (.pair (.int .i64) .unit))))), (0, .v (.int .i64)), (0, .v (.sl (.pair .str (.pair .str (.pair (.int .i64) .unit))))), (4, .ov (.nb (.pair (.own (.pair .str (.pair (.int .i64) (.pair (.int .i64) .unit)))) (.pair (.int .i64) (.pair (.mp (.pair .str (.pair .str .unit)) (.pair (.int .i64) (.pair (.int .i64) (.pair (.int .i64) (.pair (.int .i64) .unit))))) .unit))))), (0, .v (.int .i64))]) (K : Ex -> List A -> Option Bool) : Option Bool :=
 z2q N x.1 x.2.1 x.2.2.1 x.2.2.2.1 x.2.2.2.2.1 (fun a5 => (K .normal (mkS [(0, .v (.sl (.pair .str (.pair (.int .i64) (.pair (.int .i64) .unit))))), (0, .v (.int .i64)), (0, .v (.sl (.pair .str (.pair .str (.pair (.int .i64) .unit))))), (4, .ov (.nb (.pair (.own (.pair .str (.pair (.int .i64) (.pair (.int .i64) .unit)))) (.pair (.int .i64) (.pair (.mp (.pair .str (.pair .str .unit)) (.pair (.int .i64) (.pair (.int .i64) (.pair (.int .i64) (.pair (.int .i64) .unit))))) .unit))))), (0, .v (.int .i64)), (39, .v .bool)] 105 (x.1, x.2.1, x.2.2.1, x.2.2.2.1, x.2.2.2.2.1, a5, ()))))

def z5f (N : Nat) : Hd Bool := fun st K => (unS [(0, .v (.sl (.pair .str (.pair (.int .i64) (.pair (.int .i64) .unit))))), (0, .v (.int .i64)), (0, .v (.sl (.pair .str (.pair .str (.pair (.int .i64) .unit))))), (4, .ov (.nb (.pair (.own (.pair .str (.pair (.int .i64) (.pair (.int .i64) .unit)))) (.pair (.int .i64) (.pair (.mp (.pair .str (.pair .str .unit)) (.pair (.int .i64) (.pair (.int .i64) (.pair (.int .i64) (.pair (.int .i64) .unit))))) .unit))))), (0, .v (.int .i64))] 145 (restr [0, 1, 7, 8, 2] 0 st)).bind fun x => z5n N x K

def zbc (N : Nat) : Tab Bool := []

theorem za6 {N : Nat} {c : Ctx} (hb : Base Go.Proofs.Try.prog (zi N) c) : zu Go.Proofs.Try.prog c (ze z7 [0, 0, 1, 1, 1, 1]) (z5f N) :=
  zq (s := [(0, .v (.sl (.pair .str (.pair (.int .i64) (.pair (.int .i64) .unit))))), (0, .v (.int .i64)), (0, .v (.sl (.pair .str (.pair .str (.pair (.int .i64) .unit))))), (4, .ov (.nb (.pair (.own (.pair .str (.pair (.int .i64) (.pair (.int .i64) .unit)))) (.pair (.int .i64) (.pair (.mp (.pair .str (.pair .str .unit)) (.pair (.int .i64) (.pair (.int .i64) (.pair (.int .i64) (.pair (.int .i64) .unit))))) .unit))))), (0, .v (.int .i64))]) (m := 145) (g := z5n N) [0, 1, 7, 8, 2] (z9 hb N (zbc N) zl z7 TabOk.nil [0, 0, 1, 1, 1, 1] _ rfl) (fun x K => by kernel_rfl)

def z2r (N : Nat) (l : (List ((List UInt8) × (Int × (Int × Unit))))) (now : Int) (asked : (List ((List UInt8) × ((List UInt8) × (Int × Unit))))) (r_ : (Option ((List ((List UInt8) × (Int × (Int × Unit)))) × (Int × ((Option (List (((List UInt8) × ((List UInt8) × Unit)) × (Int × (Int × (Int × (Int × Unit))))))) × Unit))))) (e : Int) (k0 : Bool -> Option Bool) (k1 : Option Bool) : Option Bool :=
 z2q N l now asked r_ e
 (fun x48 => cond x48
 (cond (Option.isSome r_)
 (k0 false)
 ((z1i N l).bind fun y =>
 cond (e == y)
 ((z1s N).bind fun y1 =>
 k0 y1)
 ((z1i N l).bind fun y2 =>
 cond (y2 == (0 : Int))
 (cond (e == (7 : Int))
 ((z1s N).bind fun y3 =>
 k0 y3)
 (k0 false))
 (k0 false))))
 (k1))

def z5o (N : Nat) (x : z1v [(0, .v (.sl (.pair .str (.pair (.int .i64) (.pair (.int .i64) .unit))))), (0, .v (.int .i64)), (0, .v (.sl (.pair .str (.pair .str (.pair (.int .i64) .unit))))), (4, .ov (.nb (.pair (.own (.pair .str (.pair (.int .i64) (.pair (.int .i64) .unit)))) (.pair (.int .i64) (.pair (.mp (.pair .str (.pair .str .unit)) (.pair (.int .i64) (.pair (.int .i64) (.pair (.int .i64) (.pair (.int .i64) .unit))))) .unit))))), (0, .v (.int .i64))]) (K : Ex -> List A -> Option Bool) : Option Bool :=
 z2r N x.1 x.2.1 x.2.2.1 x.2.2.2.1 x.2.2.2.2.1 (fun a0 => (K .ret (mkS [(6, .v .bool)] 147 (a0, ())))) (K .normal (mkS [(0, .v (.sl (.pair .str (.pair (.int .i64) (.pair (.int .i64) .unit))))), (0, .v (.int .i64)), (0, .v (.sl (.pair .str (.pair .str (.pair (.int .i64) .unit))))), (4, .ov (.nb (.pair (.own (.pair .str (.pair (.int .i64) (.pair (.int .i64) .unit)))) (.pair (.int .i64) (.pair (.mp (.pair .str (.pair .str .unit)) (.pair (.int .i64) (.pair (.int .i64) (.pair (.int .i64) (.pair (.int .i64) .unit))))) .unit))))), (0, .v (.int .i64))] 145 (x.1, x.2.1, x.2.2.1, x.2.2.2.1, x.2.2.2.2.1, ())))

def z5g (N : Nat) : Hd Bool := fun st K => (unS [(0, .v (.sl (.pair .str (.pair (.int .i64) (.pair (.int .i64) .unit))))), (0, .v (.int .i64)), (0, .v (.sl (.pair .str (.pair .str (.pair (.int .i64) .unit))))), (4, .ov (.nb (.pair (.own (.pair .str (.pair (.int .i64) (.pair (.int .i64) .unit)))) (.pair (.int .i64) (.pair (.mp (.pair .str (.pair .str .unit)) (.pair (.int .i64) (.pair (.int .i64) (.pair (.int .i64) (.pair (.int .i64) .unit))))) .unit))))), (0, .v (.int .i64))] 145 (restr [0, 1, 7, 8, 2] 0 st)).bind fun x => z5o N x K

def zbd (N : Nat) : Tab Bool := [([0, 0, 1, 1, 1, 1], z5f N)]

theorem za7 {N : Nat} {c : Ctx} (hb : Base Go.Proofs.Try.prog (zi N) c) : zu Go.Proofs.Try.prog c (ze z7 [0, 1, 1, 1, 1]) (z5g N) :=
  zq (s := [(0, .v (.sl (.pair .str (.pair (.int .i64) (.pair (.int .i64) .unit))))), (0, .v (.int .i64)), (0, .v (.sl (.pair .str (.pair .str (.pair (.int .i64) .unit))))), (4, .ov (.nb (.pair (.own (.pair .str (.pair (.int .i64) (.pair (.int .i64) .unit)))) (.pair (.int .i64) (.pair (.mp (.pair .str (.pair .str .unit)) (.pair (.int .i64) (.pair (.int .i64) (.pair (.int .i64) (.pair (.int .i64) .unit))))) .unit))))), (0, .v (.int .i64))]) (m := 145) (g := z5o N) [0, 1, 7, 8, 2] (z9 hb N (zbd N) zl z7 (TabOk.cons (za6 hb) TabOk.nil) [0, 1, 1, 1, 1] _ rfl) (fun x K => by kernel_rfl)

def z2o (N : Nat) (l : (List ((List UInt8) × (Int × (Int × Unit))))) (asked : (List ((List UInt8) × ((List UInt8) × (Int × Unit))))) (r_ : ((List ((List UInt8) × (Int × (Int × Unit)))) × (Int × ((Option (List (((List UInt8) × ((List UInt8) × Unit)) × (Int × (Int × (Int × (Int × Unit))))))) × Unit)))) (e : Int) (from_ : Int) (begun : Int) (i : Int) (x12 : ((List UInt8) × ((List UInt8) × (Int × Unit)))) (k0 : Bool -> Option Bool) : Option Bool :=
 cond (decide ((0 : Int) <= x12.2.2.1))
 (k0 (decide (x12.2.2.1 <= (1099511627776 : Int))))
 (k0 false)

def z5k (N : Nat) (x : z1v [(0, .v (.sl (.pair .str (.pair (.int .i64) (.pair (.int .i64) .unit))))), (1, .v (.sl (.pair .str (.pair .str (.pair (.int .i64) .unit))))), (4, .box (.pair (.own (.pair .str (.pair (.int .i64) (.pair (.int .i64) .unit)))) (.pair (.int .i64) (.pair (.mp (.pair .str (.pair .str .unit)) (.pair (.int .i64) (.pair (.int .i64) (.pair (.int .i64) (.pair (.int .i64) .unit))))) .unit)))), (0, .v (.int .i64)), (0, .v (.int .i64)), (0, .v (.int .i64)), (0, .v (.int .i64)), (0, .box (.pair .str (.pair .str (.pair (.int .i64) .unit))))]) (K : Ex -> List A -> Option Bool) : Option Bool :=
 z2o N x.1 x.2.1 x.2.2.1 x.2.2.2.1 x.2.2.2.2.1 x.2.2.2.2.2.1 x.2.2.2.2.2.2.1 x.2.2.2.2.2.2.2.1 (fun a8 => (K .normal (mkS [(0, .v (.sl (.pair .str (.pair (.int .i64) (.pair (.int .i64) .unit))))), (1, .v (.sl (.pair .str (.pair .str (.pair (.int .i64) .unit))))), (4, .box (.pair (.own (.pair .str (.pair (.int .i64) (.pair (.int .i64) .unit)))) (.pair (.int .i64) (.pair (.mp (.pair .str (.pair .str .unit)) (.pair (.int .i64) (.pair (.int .i64) (.pair (.int .i64) (.pair (.int .i64) .unit))))) .unit)))), (0, .v (.int .i64)), (0, .v (.int .i64)), (0, .v (.int .i64)), (0, .v (.int .i64)), (0, .box (.pair .str (.pair .str (.pair (.int .i64) .unit)))), (83, .v .bool)] 57 (x.1, x.2.1, x.2.2.1, x.2.2.2.1, x.2.2.2.2.1, x.2.2.2.2.2.1, x.2.2.2.2.2.2.1, x.2.2.2.2.2.2.2.1, a8, ()))))

def z5c (N : Nat) : Hd Bool := fun st K => (unS [(0, .v (.sl (.pair .str (.pair (.int .i64) (.pair (.int .i64) .unit))))), (1, .v (.sl (.pair .str (.pair .str (.pair (.int .i64) .unit))))), (4, .box (.pair (.own (.pair .str (.pair (.int .i64) (.pair (.int .i64) .unit)))) (.pair (.int .i64) (.pair (.mp (.pair .str (.pair .str .unit)) (.pair (.int .i64) (.pair (.int .i64) (.pair (.int .i64) (.pair (.int .i64) .unit))))) .unit)))), (0, .v (.int .i64)), (0, .v (.int .i64)), (0, .v (.int .i64)), (0, .v (.int .i64)), (0, .box (.pair .str (.pair .str (.pair (.int .i64) .unit))))] 141 (restr [12, 11, 2, 7, 0, 8, 10, 9] 0 st)).bind fun x => z5k N x K

def zb9 (N : Nat) : Tab Bool := []

theorem za3 {N : Nat} {c : Ctx} (hb : Base Go.Proofs.Try.prog (zi N) c) : zu Go.Proofs.Try.prog c (ze z7 [0, 0, 1, 0, 1, 0, 1, 0, 0, 1, 0, 0, 1, 0, 1, 1, 1, 1, 1, 1, 1, 1]) (z5c N) :=
  zq (s := [(0, .v (.sl (.pair .str (.pair (.int .i64) (.pair (.int .i64) .unit))))), (1, .v (.sl (.pair .str (.pair .str (.pair (.int .i64) .unit))))), (4, .box (.pair (.own (.pair .str (.pair (.int .i64) (.pair (.int .i64) .unit)))) (.pair (.int .i64) (.pair (.mp (.pair .str (.pair .str .unit)) (.pair (.int .i64) (.pair (.int .i64) (.pair (.int .i64) (.pair (.int .i64) .unit))))) .unit)))), (0, .v (.int .i64)), (0, .v (.int .i64)), (0, .v (.int .i64)), (0, .v (.int .i64)), (0, .box (.pair .str (.pair .str (.pair (.int .i64) .unit))))]) (m := 141) (g := z5k N) [12, 11, 2, 7, 0, 8, 10, 9] (z9 hb N (zb9 N) zl z7 TabOk.nil [0, 0, 1, 0, 1, 0, 1, 0, 0, 1, 0, 0, 1, 0, 1, 1, 1, 1, 1, 1, 1, 1] _ rfl) (fun x K => by kernel_rfl)

def z2n (N : Nat) (l : (List ((List UInt8) × (Int × (Int × Unit))))) (asked : (List ((List UInt8) × ((List UInt8) × (Int × Unit))))) (r_ : ((List ((List UInt8) × (Int × (Int × Unit)))) × (Int × ((Option (List (((List UInt8) × ((List UInt8) × Unit)) × (Int × (Int × (Int × (Int × Unit))))))) × Unit)))) (e : Int) (from_ : Int) (begun : Int) (i : Int) (x12 : ((List UInt8) × ((List UInt8) × (Int × Unit)))) (is_ : Bool) (taken : Bool) (want : Int) (k0 : Int -> Option Bool) : Option Bool :=
 cond (!is_)
 (k0 (6 : Int))
 (cond (!taken)
 (k0 (17 : Int))
 (k0 want))

def z5j (N : Nat) (x : z1v [(0, .v (.sl (.pair .str (.pair (.int .i64) (.pair (.int .i64) .unit))))), (1, .v (.sl (.pair .str (.pair .str (.pair (.int .i64) .unit))))), (4, .box (.pair (.own (.pair .str (.pair (.int .i64) (.pair (.int .i64) .unit)))) (.pair (.int .i64) (.pair (.mp (.pair .str (.pair .str .unit)) (.pair (.int .i64) (.pair (.int .i64) (.pair (.int .i64) (.pair (.int .i64) .unit))))) .unit)))), (0, .v (.int .i64)), (0, .v (.int .i64)), (0, .v (.int .i64)), (0, .v (.int .i64)), (0, .box (.pair .str (.pair .str (.pair (.int .i64) .unit)))), (1, .v .bool), (1, .v .bool), (0, .v (.int .i64))]) (K : Ex -> List A -> Option Bool) : Option Bool :=
 z2n N x.1 x.2.1 x.2.2.1 x.2.2.2.1 x.2.2.2.2.1 x.2.2.2.2.2.1 x.2.2.2.2.2.2.1 x.2.2.2.2.2.2.2.1 x.2.2.2.2.2.2.2.2.1 x.2.2.2.2.2.2.2.2.2.1 x.2.2.2.2.2.2.2.2.2.2.1 (fun a8 => (K .normal (mkS [(0, .v (.sl (.pair .str (.pair (.int .i64) (.pair (.int .i64) .unit))))), (1, .v (.sl (.pair .str (.pair .str (.pair (.int .i64) .unit))))), (4, .box (.pair (.own (.pair .str (.pair (.int .i64) (.pair (.int .i64) .unit)))) (.pair (.int .i64) (.pair (.mp (.pair .str (.pair .str .unit)) (.pair (.int .i64) (.pair (.int .i64) (.pair (.int .i64) (.pair (.int .i64) .unit))))) .unit)))), (0, .v (.int .i64)), (0, .v (.int .i64)), (0, .v (.int .i64)), (0, .v (.int .i64)), (0, .box (.pair .str (.pair .str (.pair (.int .i64) .unit)))), (4, .v (.int .i64))] 136 (x.1, x.2.1, x.2.2.1, x.2.2.2.1, x.2.2.2.2.1, x.2.2.2.2.2.1, x.2.2.2.2.2.2.1, x.2.2.2.2.2.2.2.1, a8, ()))))

def z5b (N : Nat) : Hd Bool := fun st K => (unS [(0, .v (.sl (.pair .str (.pair (.int .i64) (.pair (.int .i64) .unit))))), (1, .v (.sl (.pair .str (.pair .str (.pair (.int .i64) .unit))))), (4, .box (.pair (.own (.pair .str (.pair (.int .i64) (.pair (.int .i64) .unit)))) (.pair (.int .i64) (.pair (.mp (.pair .str (.pair .str .unit)) (.pair (.int .i64) (.pair (.int .i64) (.pair (.int .i64) (.pair (.int .i64) .unit))))) .unit)))), (0, .v (.int .i64)), (0, .v (.int .i64)), (0, .v (.int .i64)), (0, .v (.int .i64)), (0, .box (.pair .str (.pair .str (.pair (.int .i64) .unit)))), (1, .v .bool), (1, .v .bool), (0, .v (.int .i64))] 136 (restr [14, 7, 12, 11, 2, 0, 10, 9, 8, 16, 17] 0 st)).bind fun x => z5j N x K

def zb8 (N : Nat) : Tab Bool := []

theorem za2 {N : Nat} {c : Ctx} (hb : Base Go.Proofs.Try.prog (zi N) c) : zu Go.Proofs.Try.prog c (ze z7 [0, 1, 1, 1, 1, 1, 1, 0, 0, 1, 0, 0, 1, 0, 1, 1, 1, 1, 1, 1, 1, 1]) (z5b N) :=
  zq (s := [(0, .v (.sl (.pair .str (.pair (.int .i64) (.pair (.int .i64) .unit))))), (1, .v (.sl (.pair .str (.pair .str (.pair (.int .i64) .unit))))), (4, .box (.pair (.own (.pair .str (.pair (.int .i64) (.pair (.int .i64) .unit)))) (.pair (.int .i64) (.pair (.mp (.pair .str (.pair .str .unit)) (.pair (.int .i64) (.pair (.int .i64) (.pair (.int .i64) (.pair (.int .i64) .unit))))) .unit)))), (0, .v (.int .i64)), (0, .v (.int .i64)), (0, .v (.int .i64)), (0, .v (.int .i64)), (0, .box (.pair .str (.pair .str (.pair (.int .i64) .unit)))), (1, .v .bool), (1, .v .bool), (0, .v (.int .i64))]) (m := 136) (g := z5j N) [14, 7, 12, 11, 2, 0, 10, 9, 8, 16, 17] (z9 hb N (zb8 N) zl z7 TabOk.nil [0, 1, 1, 1, 1, 1, 1, 0, 0, 1, 0, 0, 1, 0, 1, 1, 1, 1, 1, 1, 1, 1] _ rfl) (fun x K => by kernel_rfl)

def z2p (N : Nat) (l : (List ((List UInt8) × (Int × (Int × Unit))))) (asked : (List ((List UInt8) × ((List UInt8) × (Int × Unit))))) (r_ : ((List ((List UInt8) × (Int × (Int × Unit)))) × (Int × ((Option (List (((List UInt8) × ((List UInt8) × Unit)) × (Int × (Int × (Int × (Int × Unit))))))) × Unit)))) (e : Int) (from_ : Int) (begun : Int) (i : Int) (k0 : ((List ((List UInt8) × (Int × (Int × Unit)))) × (Int × ((Option (List (((List UInt8) × ((List UInt8) × Unit)) × (Int × (Int × (Int × (Int × Unit))))))) × Unit))) -> Int -> Int -> Option Bool) (k1 : Bool -> Option Bool) : Option Bool :=
 cond (Go.Lift.inR i (List.length asked))
 (cond ((List.getD asked (Int.toNat i) (([] : List UInt8), (([] : List UInt8), ((0 : Int), ())))).2.1 == ([(98 : UInt8), (101 : UInt8), (103 : UInt8), (105 : UInt8), (110 : UInt8)] : List UInt8))
 ((z3a N r_ (List.getD asked (Int.toNat i) (([] : List UInt8), (([] : List UInt8), ((0 : Int), ())))).2.2.1).bind fun y =>
 z2o N l asked y.2.1 e from_ begun i (List.getD asked (Int.toNat i) (([] : List UInt8), (([] : List UInt8), ((0 : Int), ()))))
 (fun x96 => cond x96
 (k0 y.2.1 i (List.getD asked (Int.toNat i) (([] : List UInt8), (([] : List UInt8), ((0 : Int), ())))).2.2.1)
 (k0 y.2.1 from_ begun)))
 (cond (decide (((0 : Int) <= i) /\ (i <= (((List.length asked) : Nat) : Int))))
 (cond (decide (((0 : Int) <= from_) /\ (from_ <= i)))
 ((z2h N l begun (Go.Lift.cut asked (Int.toNat from_) (Int.toNat i)) (List.getD asked (Int.toNat i) (([] : List UInt8), (([] : List UInt8), ((0 : Int), ())))).1 (List.getD asked (Int.toNat i) (([] : List UInt8), (([] : List UInt8), ((0 : Int), ())))).2.1).bind fun y1 =>
 (z2l N r_ (List.getD asked (Int.toNat i) (([] : List UInt8), (([] : List UInt8), ((0 : Int), ())))).1 (List.getD asked (Int.toNat i) (([] : List UInt8), (([] : List UInt8), ((0 : Int), ())))).2.1 (List.getD asked (Int.toNat i) (([] : List UInt8), (([] : List UInt8), ((0 : Int), ())))).2.2.1).bind fun y2 =>
 (z3f N y1.1 (List.getD asked (Int.toNat i) (([] : List UInt8), (([] : List UInt8), ((0 : Int), ())))).2.2.1).bind fun y3 =>
 cond (y2.1 != y3.2.2.1)
 (k1 false)
 ((z2d N y1.1 (List.getD asked (Int.toNat i) (([] : List UInt8), (([] : List UInt8), ((0 : Int), ())))).2.2.1).bind fun y4 =>
 z2n N l asked y2.2.1 e from_ begun i (List.getD asked (Int.toNat i) (([] : List UInt8), (([] : List UInt8), ((0 : Int), ())))) y1.2.1 y4.2.1 (0 : Int)
 (fun want => (z1n N y2.2.1 (List.getD asked (Int.toNat i) (([] : List UInt8), (([] : List UInt8), ((0 : Int), ())))).1 (List.getD asked (Int.toNat i) (([] : List UInt8), (([] : List UInt8), ((0 : Int), ())))).2.1 (List.getD asked (Int.toNat i) (([] : List UInt8), (([] : List UInt8), ((0 : Int), ())))).2.2.1).bind fun y5 =>
 cond (y5.1 != want)
 (k1 false)
 (k0 y5.2.1 from_ begun))))
 (none))
 (none)))
 (none)

def z5l (N : Nat) (x : z1v [(0, .v (.sl (.pair .str (.pair (.int .i64) (.pair (.int .i64) .unit))))), (1, .v (.sl (.pair .str (.pair .str (.pair (.int .i64) .unit))))), (4, .box (.pair (.own (.pair .str (.pair (.int .i64) (.pair (.int .i64) .unit)))) (.pair (.int .i64) (.pair (.mp (.pair .str (.pair .str .unit)) (.pair (.int .i64) (.pair (.int .i64) (.pair (.int .i64) (.pair (.int .i64) .unit))))) .unit)))), (0, .v (.int .i64)), (0, .v (.int .i64)), (0, .v (.int .i64)), (0, .v (.int .i64))]) (K : Ex -> List A -> Option Bool) : Option Bool :=
 z2p N x.1 x.2.1 x.2.2.1 x.2.2.2.1 x.2.2.2.2.1 x.2.2.2.2.2.1 x.2.2.2.2.2.2.1 (fun a2 a4 a5 => (K .normal (mkS [(0, .v (.sl (.pair .str (.pair (.int .i64) (.pair (.int .i64) .unit))))), (1, .v (.sl (.pair .str (.pair .str (.pair (.int .i64) .unit))))), (4, .box (.pair (.own (.pair .str (.pair (.int .i64) (.pair (.int .i64) .unit)))) (.pair (.int .i64) (.pair (.mp (.pair .str (.pair .str .unit)) (.pair (.int .i64) (.pair (.int .i64) (.pair (.int .i64) (.pair (.int .i64) .unit))))) .unit)))), (0, .v (.int .i64)), (0, .v (.int .i64)), (0, .v (.int .i64)), (0, .v (.int .i64))] 142 (x.1, x.2.1, a2, x.2.2.2.1, a4, a5, x.2.2.2.2.2.2.1, ())))) (fun a0 => (K .ret (mkS [(6, .v .bool)] 147 (a0, ()))))

def z5d (N : Nat) : Hd Bool := fun st K => (unS [(0, .v (.sl (.pair .str (.pair (.int .i64) (.pair (.int .i64) .unit))))), (1, .v (.sl (.pair .str (.pair .str (.pair (.int .i64) .unit))))), (4, .box (.pair (.own (.pair .str (.pair (.int .i64) (.pair (.int .i64) .unit)))) (.pair (.int .i64) (.pair (.mp (.pair .str (.pair .str .unit)) (.pair (.int .i64) (.pair (.int .i64) (.pair (.int .i64) (.pair (.int .i64) .unit))))) .unit)))), (0, .v (.int .i64)), (0, .v (.int .i64)), (0, .v (.int .i64)), (0, .v (.int .i64))] 142 (restr [2, 11, 7, 0, 8, 10, 9] 0 st)).bind fun x => z5l N x K

def zba (N : Nat) : Tab Bool := [([0, 0, 1, 0, 1, 0, 1, 0, 0, 1, 0, 0, 1, 0, 1, 1, 1, 1, 1, 1, 1, 1], z5c N), ([0, 1, 1, 1, 1, 1, 1, 0, 0, 1, 0, 0, 1, 0, 1, 1, 1, 1, 1, 1, 1, 1], z5b N)]

theorem za4 {N : Nat} {c : Ctx} (hb : Base Go.Proofs.Try.prog (zi N) c) : zu Go.Proofs.Try.prog c (ze z7 [0, 1, 0, 0, 1, 0, 1, 1, 1, 1, 1, 1, 1, 1]) (z5d N) :=
  zq (s := [(0, .v (.sl (.pair .str (.pair (.int .i64) (.pair (.int .i64) .unit))))), (1, .v (.sl (.pair .str (.pair .str (.pair (.int .i64) .unit))))), (4, .box (.pair (.own (.pair .str (.pair (.int .i64) (.pair (.int .i64) .unit)))) (.pair (.int .i64) (.pair (.mp (.pair .str (.pair .str .unit)) (.pair (.int .i64) (.pair (.int .i64) (.pair (.int .i64) (.pair (.int .i64) .unit))))) .unit)))), (0, .v (.int .i64)), (0, .v (.int .i64)), (0, .v (.int .i64)), (0, .v (.int .i64))]) (m := 142) (g := z5l N) [2, 11, 7, 0, 8, 10, 9] (z9 hb N (zba N) zl z7 (TabOk.cons (za3 hb) (TabOk.cons (za2 hb) TabOk.nil)) [0, 1, 0, 0, 1, 0, 1, 1, 1, 1, 1, 1, 1, 1] _ rfl) (fun x K => by kernel_rfl)

def z2m (N : Nat) (l : (List ((List UInt8) × (Int × (Int × Unit))))) (asked : (List ((List UInt8) × ((List UInt8) × (Int × Unit))))) (e : Int) (r_ : ((List ((List UInt8) × (Int × (Int × Unit)))) × (Int × ((Option (List (((List UInt8) × ((List UInt8) × Unit)) × (Int × (Int × (Int × (Int × Unit))))))) × Unit)))) (from_ : Int) (begun : Int) (i : Int) (rec : ((List ((List UInt8) × (Int × (Int × Unit)))) × (Int × ((Option (List (((List UInt8) × ((List UInt8) × Unit)) × (Int × (Int × (Int × (Int × Unit))))))) × Unit))) -> Int -> Int -> Int -> Option Bool) (k0 : Bool -> Option Bool) (k1 : Option Bool) : Option Bool :=
 cond (decide (i < (((List.length asked) : Nat) : Int)))
 (z2p N l asked r_ e from_ begun i
 (fun r_1 from_1 begun1 => rec r_1 from_1 begun1 (Go.IntKind.wrap Go.IntKind.i64 (i + (1 : Int))))
 (fun x6 => k0 x6))
 (k1)

def z5a (N : Nat) (l : (List ((List UInt8) × (Int × (Int × Unit))))) (asked : (List ((List UInt8) × ((List UInt8) × (Int × Unit))))) (r_ : ((List ((List UInt8) × (Int × (Int × Unit)))) × (Int × ((Option (List (((List UInt8) × ((List UInt8) × Unit)) × (Int × (Int × (Int × (Int × Unit))))))) × Unit)))) (e : Int) (from_ : Int) (begun : Int) (i : Int) (k0 : Bool -> Option Bool) (k1 : Option Bool) : Option Bool :=
 iter (fun (v : (((List ((List UInt8) × (Int × (Int × Unit)))) × (Int × ((Option (List (((List UInt8) × ((List UInt8) × Unit)) × (Int × (Int × (Int × (Int × Unit))))))) × Unit))) × Int × Int × Int)) r => z2m N l asked e v.1 v.2.1 v.2.2.1 v.2.2.2 (fun r_ from_ begun i => (r (r_, from_, begun, i))) k0 k1) N (r_, from_, begun, i)

def z5m (N : Nat) (i : ((List ((List UInt8) × (Int × (Int × Unit)))) × (List ((List UInt8) × ((List UInt8) × (Int × Unit)))) × Int)) (v : (((List ((List UInt8) × (Int × (Int × Unit)))) × (Int × ((Option (List (((List UInt8) × ((List UInt8) × Unit)) × (Int × (Int × (Int × (Int × Unit))))))) × Unit))) × Int × Int × Int)) (r : (((List ((List UInt8) × (Int × (Int × Unit)))) × (Int × ((Option (List (((List UInt8) × ((List UInt8) × Unit)) × (Int × (Int × (Int × (Int × Unit))))))) × Unit))) × Int × Int × Int) -> Option Bool) (K : Ex -> List A -> Option Bool) : Option Bool :=
 z2m N i.1 i.2.1 i.2.2 v.1 v.2.1 v.2.2.1 v.2.2.2 (fun r_ from_ begun i => (r (r_, from_, begun, i))) (fun a0 => (K .ret (mkS [(6, .v .bool)] 147 (a0, ())))) (K (.exit 0) (mkS [(8, .v (.int .i64))] 145 (i.2.2, ())))

def z5e (N : Nat) : Hd Bool := fun st K => (unS [(0, .v (.sl (.pair .str (.pair (.int .i64) (.pair (.int .i64) .unit))))), (1, .v (.sl (.pair .str (.pair .str (.pair (.int .i64) .unit))))), (4, .box (.pair (.own (.pair .str (.pair (.int .i64) (.pair (.int .i64) .unit)))) (.pair (.int .i64) (.pair (.mp (.pair .str (.pair .str .unit)) (.pair (.int .i64) (.pair (.int .i64) (.pair (.int .i64) (.pair (.int .i64) .unit))))) .unit)))), (0, .v (.int .i64)), (0, .v (.int .i64)), (0, .v (.int .i64)), (0, .v (.int .i64))] 142 (restr [11, 2, 7, 0, 10, 9, 8] 0 st)).bind fun x => iter (fun v r => z5m N ((fun x => (x.1, x.2.1, x.2.2.2.1)) x) v r K) N ((fun x => (x.2.2.1, x.2.2.2.2.1, x.2.2.2.2.2.1, x.2.2.2.2.2.2.1)) x)

def zbb (N : Nat) : Tab Bool := [([0, 1, 0, 0, 1, 0, 1, 1, 1, 1, 1, 1, 1, 1], z5d N)]

theorem za5 {N : Nat} {c : Ctx} (hb : Base Go.Proofs.Try.prog (zi N) c) : zu Go.Proofs.Try.prog c (ze z7 [0, 1, 0, 1, 1, 1, 1, 1, 1, 1, 1]) (z5e N) :=
  zch (s := [(0, .v (.sl (.pair .str (.pair (.int .i64) (.pair (.int .i64) .unit))))), (1, .v (.sl (.pair .str (.pair .str (.pair (.int .i64) .unit))))), (4, .box (.pair (.own (.pair .str (.pair (.int .i64) (.pair (.int .i64) .unit)))) (.pair (.int .i64) (.pair (.mp (.pair .str (.pair .str .unit)) (.pair (.int .i64) (.pair (.int .i64) (.pair (.int .i64) (.pair (.int .i64) .unit))))) .unit)))), (0, .v (.int .i64)), (0, .v (.int .i64)), (0, .v (.int .i64)), (0, .v (.int .i64))]) (m := 142) (z5m N) [11, 2, 7, 0, 10, 9, 8] N (fun x => (x.1, x.2.1, x.2.2.2.1)) (fun x => (x.2.2.1, x.2.2.2.2.1, x.2.2.2.2.2.1, x.2.2.2.2.2.2.1)) (fun i v => (i.1, i.2.1, v.1, i.2.2, v.2.1, v.2.2.1, v.2.2.2, ())) (fun _ => rfl) (z9 hb N (zbb N) zl z7 (TabOk.cons (za4 hb) TabOk.nil) [0, 0, 1, 0, 1, 1, 1, 1, 1, 1, 1, 1] _ rfl) (fun i v r K => by kernel_rfl)

def z1j (N : Nat) (l : (List ((List UInt8) × (Int × (Int × Unit))))) (now : Int) (asked : (List ((List UInt8) × ((List UInt8) × (Int × Unit))))) : Option Bool :=
 z2t N l now asked
 (fun x6 => some x6)
 ((zfc N l now).bind fun y =>
 (z89 N l).bind fun y1 =>
 (z1i N l).bind fun y2 =>
 cond (y1 != y2)
 (some false)
 (z2r N l now asked y.1 y.2.1
 (fun x61 => some x61)
 (cond (Option.isSome y.1)
 (z5a N l asked (Option.getD y.1 (([] : List ((List UInt8) × (Int × (Int × Unit)))), ((0 : Int), ((Option.none), ())))) y.2.1 (0 : Int) now (0 : Int)
 (fun x62 => some x62)
 (cond (y.2.1 == (0 : Int))
 ((z1s N).bind fun y3 =>
 some y3)
 (some false)))
 (some false))))

def z61 (N : Nat) : Tab Bool := [([0, 1], z5i N), ([0, 1, 1, 1, 1], z5g N), ([0, 1, 0, 1, 1, 1, 1, 1, 1, 1, 1], z5e N)]

theorem z9j (N : Nat) (x : z1v [(0, .v (.sl (.pair .str (.pair (.int .i64) (.pair (.int .i64) .unit))))), (0, .v (.int .i64)), (0, .v (.sl (.pair .str (.pair .str (.pair (.int .i64) .unit)))))]) : zbu (zi N) N (z61 N) zl Go.Proofs.Try.f3 (mkS [(0, .v (.sl (.pair .str (.pair (.int .i64) (.pair (.int .i64) .unit))))), (0, .v (.int .i64)), (0, .v (.sl (.pair .str (.pair .str (.pair (.int .i64) .unit)))))] 0 x) (z4p (.v .bool) 3) = z1j N x.1 x.2.1 x.2.2.1 := by kernel_rfl

def za1 (N : Nat) : List A -> Res := z1w [(0, .v (.sl (.pair .str (.pair (.int .i64) (.pair (.int .i64) .unit))))), (0, .v (.int .i64)), (0, .v (.sl (.pair .str (.pair .str (.pair (.int .i64) .unit)))))] (fun x => z1j N x.1 x.2.1 x.2.2.1) (zaf (.v .bool) 3)

theorem zbg (N : Nat) : Contract Go.Proofs.Try.prog zj 3 (za1 N) :=
  Contract.of (E := zi N) (H := z61 N) (L := zl) (N := N) (body := z7) (K := (z4p (.v .bool) 3)) (zaa N) Go.Proofs.Try.func3 (by kernel_rfl) (by decide) (fun _ hb => (TabOk.cons (za9 hb) (TabOk.cons (za7 hb) (TabOk.cons (za5 hb) TabOk.nil)))) (fun x y h => by rw [z9j]; exact h) (z1h (s := (.v .bool)) (m := 3))

end
end Go.Proofs.YtdeemkigjeemjaaLg

set_option linter.all false
set_option maxRecDepth 100000
namespace Go.Proofs.YtdeemkigjeemjaaLg
noncomputable section
open Go Go.Lift Go.Proofs.YtdeemkigjeemjaaPx

theorem zym (N : Nat) {a b : Int} (ha : I64 a) (hb : I64 b) : zlh N a b = some (zq1 (a + b)) := by
  simp only [zlh, ziu, zit, zis, zir, zq3, zq1, I64, Bool.cond_eq_ite, decide_eq_true_eq, Bool.false_eq_true, if_false] at *
  repeat' split
  all_goals simp only [Option.some.injEq]
  all_goals omega

theorem zyl (N : Nat) (b : Bool) : zp0 N b = some (if b then -9223372036854775808 else 9223372036854775807) := by
  cases b <;> rfl

theorem zw4 (N : Nat) {a b : Int} (ha : I64 a) (hb : I64 b) (ha0 : a ≠ 0) (hb0 : b ≠ 0) : z5t N a b = some (decide (¬ I64 (a * b))) := by
  have hm : ∀ {b : Int}, b = -1 -> I64 b -> ¬ I64 (-9223372036854775808 * b) := by intro b h _; subst h; unfold I64; omega
  simp only [z5t, z7h, z7g, Bool.cond_eq_ite, beq_iff_eq, Option.some.injEq]
  by_cases h1 : a = -9223372036854775808 /\ b = -1
  . obtain ⟨rfl, rfl⟩ := h1
    simp [I64]
  by_cases h2 : b = -9223372036854775808 /\ a = -1
  . obtain ⟨rfl, rfl⟩ := h2
    simp [I64]
  have e : ((IntKind.wrap .i64 ((IntKind.wrap .i64 (a * b)).tdiv b)) != a) = decide (¬ I64 (a * b)) := by
    rw [Bool.eq_iff_iff, bne_iff_ne, decide_eq_true_eq]
    exact zpc ha hb hb0 h1
  have hab : ∀ (X Y : Option Bool), (if a = -9223372036854775808 then if b = -1 then X else if b = -9223372036854775808 then (if (a == -1) = true then X else Y) else Y else if b = -9223372036854775808 then (if (a == -1) = true then X else Y) else Y) = Y := by
    intro X Y
    repeat' split
    all_goals first
      | rfl
      | (exfalso; simp_all)
  have := hab (some true) (if b = 0 then none else some ((IntKind.wrap .i64 ((IntKind.wrap .i64 (a * b)).tdiv b)) != a))
  rw [if_neg hb0, e] at this
  rw [<- this]
  rw [if_neg hb0, e]
  repeat' split
  all_goals first
    | rfl
    | (exfalso; simp_all)

theorem zyj (N : Nat) {a b : Int} (ha : I64 a) (hb : I64 b) : zlf N a b = some (zq1 (a * b)) := by
  simp only [zlf, ziq, zio, Bool.cond_eq_ite, beq_iff_eq]
  by_cases ha0 : a = 0
  . subst ha0; simp [zq1]
  by_cases hb0 : b = 0
  . subst hb0; simp [zq1]
  rw [if_neg ha0, if_neg hb0, zw4 N ha hb ha0 hb0]
  simp only [Option.bind_some, zyl, decide_eq_true_eq]
  by_cases hi : I64 (a * b)
  . rw [if_neg (by simpa using hi), z4s hi, z11g hi]
  . rw [if_pos hi]
    have hs := zwy ha0 hb0
    rcases hs with ⟨h, hp⟩ | ⟨h, hp⟩
    . rw [z11h (by unfold I64 at hi; omega)]
      rcases h with ⟨h1, h2⟩ | ⟨h1, h2⟩
      . simp [show ¬ a < 0 by omega, show ¬ b < 0 by omega]
      . simp [h1, h2]
    . rw [z11f (by unfold I64 at hi; omega)]
      rcases h with ⟨h1, h2⟩ | ⟨h1, h2⟩
      . simp [show ¬ a < 0 by omega, h2]
      . simp [h1, show ¬ b < 0 by omega]

end
end Go.Proofs.YtdeemkigjeemjaaLg

set_option linter.all false
namespace Go.Proofs.YtdeemkigjeemjaaPx
noncomputable section
open Go Go.Lift

theorem z3l {i : Nat} (h : i < 9223372036854775807) : IntKind.wrap .i64 ((i : Int) + 1) = ((i + 1 : Nat) : Int) := by
  rw [z4s (by unfold I64; omega)]; omega

theorem ztv {α : Type} (l : List α) (d : α) (i : Nat) (h : i < l.length) : l.getD i d ∈ l := by
  rw [List.getD_eq_getElem?_getD, List.getElem?_eq_getElem h]; simp

theorem zbs {α : Type} (l : List α) (d : α) (i : Nat) (h : i < l.length) : l.drop i = l.getD i d :: l.drop (i + 1) := by
  rw [List.getD_eq_getElem?_getD, List.getElem?_eq_getElem h, Option.getD_some, List.drop_eq_getElem_cons h]

theorem zbr {α : Type} (l : List α) {i : Nat} (h : l.length <= i) : l.drop i = [] := List.drop_of_length_le h

theorem z2v {p : Prop} [Decidable p] (h : p) : decide p = true := decide_eq_true h
theorem z3k {p : Prop} [Decidable p] (h : ¬ p) : decide p = false := decide_eq_false h

theorem zvy {α : Type} (l : List α) (d : α) (i : Nat) (h : i < l.length) : l.take (i + 1) = l.take i ++ [l.getD i d] := by
  rw [List.getD_eq_getElem?_getD, List.getElem?_eq_getElem h, Option.getD_some, List.take_succ_eq_append_getElem h]

theorem zzb {α : Type} (l : List α) (n : Nat) : cut l 0 n = l.take n := by simp [cut]

end
end Go.Proofs.YtdeemkigjeemjaaPx
