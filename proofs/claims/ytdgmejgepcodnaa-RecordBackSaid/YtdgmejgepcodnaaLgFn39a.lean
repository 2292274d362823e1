/- The functions of the seat, as plain functions, and what their calls do. Printed by a program of mine; checked here. -/
import Derived.Test.YtdgmejgepcodnaaLgW
import Derived.Test.YtdgmejgepcodnaaChecked
import Derived.KernelRfl
import Derived.WalkKit
import Derived.Tactics
import Derived.Tactics2
import Derived.Defers
import Derived.Lib.Hide
import Derived.Below
import Derived.Recover
import Derived.Orders
import Derived.WalkSmall
import Derived.LoopN
set_option linter.all false
set_option maxRecDepth 100000
namespace Go.Proofs.YtdgmejgepcodnaaLg
open Go Go.Lift

noncomputable def ty3 : TyI := ⟨(Go.TypeDesc.int Go.IntKind.i64), 1, 8, (.int .i64), (0 : Int), false⟩

theorem ty3_ok : TyOk Go.Proofs.Try.prog 3 ty3 := TyOk.of (by kernel_rfl) (by kernel_rfl) (by kernel_rfl) (by kernel_rfl)

noncomputable def ty4 : TyI := ⟨Go.TypeDesc.bool, 1, 1, .bool, false, false⟩

theorem ty4_ok : TyOk Go.Proofs.Try.prog 4 ty4 := TyOk.of (by kernel_rfl) (by kernel_rfl) (by kernel_rfl) (by kernel_rfl)

noncomputable def ty5 : TyI := ⟨(Go.TypeDesc.int Go.IntKind.u8), 1, 1, (.int .u8), (0 : Int), false⟩

theorem ty5_ok : TyOk Go.Proofs.Try.prog 5 ty5 := TyOk.of (by kernel_rfl) (by kernel_rfl) (by kernel_rfl) (by kernel_rfl)

noncomputable def ty9 : TyI := ⟨Go.TypeDesc.string, 1, 16, .str, ([] : List UInt8), false⟩

theorem ty9_ok : TyOk Go.Proofs.Try.prog 9 ty9 := TyOk.of (by kernel_rfl) (by kernel_rfl) (by kernel_rfl) (by kernel_rfl)

noncomputable def ty20 : TyI := ⟨(Go.TypeDesc.interface (List.toArray ([] : List (String × Nat)))), 1, 16, .opq, Go.Value.nilIface, false⟩

theorem ty20_ok : TyOk Go.Proofs.Try.prog 20 ty20 := TyOk.of (by kernel_rfl) (by kernel_rfl) (by kernel_rfl) (by kernel_rfl)

noncomputable def ty21 : TyI := ⟨(Go.TypeDesc.int Go.IntKind.i32), 1, 4, (.int .i32), (0 : Int), false⟩

theorem ty21_ok : TyOk Go.Proofs.Try.prog 21 ty21 := TyOk.of (by kernel_rfl) (by kernel_rfl) (by kernel_rfl) (by kernel_rfl)

noncomputable def ty22 : TyI := ⟨(Go.TypeDesc.slice 28), 1, 24, (.sl (.pair (.int .i64) (.pair .str (.pair (.int .i64) (.pair (.int .i64) (.pair .str .unit)))))), ([] : List (Int × ((List UInt8) × (Int × (Int × ((List UInt8) × Unit)))))), false⟩

theorem ty22_ok : TyOk Go.Proofs.Try.prog 22 ty22 := TyOk.of (by kernel_rfl) (by kernel_rfl) (by kernel_rfl) (by kernel_rfl)

noncomputable def ty24 : TyI := ⟨(Go.TypeDesc.int Go.IntKind.i64), 1, 8, (.int .i64), (0 : Int), false⟩

theorem ty24_ok : TyOk Go.Proofs.Try.prog 24 ty24 := TyOk.of (by kernel_rfl) (by kernel_rfl) (by kernel_rfl) (by kernel_rfl)

noncomputable def ty28 : TyI := ⟨(Go.TypeDesc.struct (List.toArray ([(Go.Field.mk "Kind" 3 0 false "" "" 0), (Go.Field.mk "Tenant" 9 1 false "" "" 8), (Go.Field.mk "Num" 3 2 false "" "" 24), (Go.Field.mk "Epoch" 3 3 false "" "" 32), (Go.Field.mk "Text" 9 4 false "" "" 40)] : List Go.Field))), 5, 56, (.pair (.int .i64) (.pair .str (.pair (.int .i64) (.pair (.int .i64) (.pair .str .unit))))), ((0 : Int), ([] : List UInt8), (0 : Int), (0 : Int), ([] : List UInt8), ()), true⟩

theorem ty28_ok : TyOk Go.Proofs.Try.prog 28 ty28 := TyOk.of (by kernel_rfl) (by kernel_rfl) (by kernel_rfl) (by kernel_rfl)

noncomputable def ty39 : TyI := ⟨(Go.TypeDesc.pointer 3), 1, 8, .opq, (Go.Value.pointer none), false⟩

theorem ty39_ok : TyOk Go.Proofs.Try.prog 39 ty39 := TyOk.of (by kernel_rfl) (by kernel_rfl) (by kernel_rfl) (by kernel_rfl)

noncomputable def ty40 : TyI := ⟨(Go.TypeDesc.array 2 39), 2, 16, (.arr 2 .opq), ([(Go.Value.pointer none), (Go.Value.pointer none)] : List Go.Value), true⟩

theorem ty40_ok : TyOk Go.Proofs.Try.prog 40 ty40 := TyOk.of (by kernel_rfl) (by kernel_rfl) (by kernel_rfl) (by kernel_rfl)

noncomputable def ty42 : TyI := ⟨(Go.TypeDesc.pointer 28), 1, 8, .opq, (Go.Value.pointer none), false⟩

theorem ty42_ok : TyOk Go.Proofs.Try.prog 42 ty42 := TyOk.of (by kernel_rfl) (by kernel_rfl) (by kernel_rfl) (by kernel_rfl)

noncomputable def ty43 : TyI := ⟨(Go.TypeDesc.slice 5), 1, 24, (.sl (.int .u8)), ([] : List Int), false⟩

theorem ty43_ok : TyOk Go.Proofs.Try.prog 43 ty43 := TyOk.of (by kernel_rfl) (by kernel_rfl) (by kernel_rfl) (by kernel_rfl)

noncomputable def ty46 : TyI := ⟨(Go.TypeDesc.slice 39), 1, 24, (.sl .opq), ([] : List Go.Value), false⟩

theorem ty46_ok : TyOk Go.Proofs.Try.prog 46 ty46 := TyOk.of (by kernel_rfl) (by kernel_rfl) (by kernel_rfl) (by kernel_rfl)

noncomputable def ty49 : TyI := ⟨(Go.TypeDesc.int Go.IntKind.u64), 1, 8, (.int .u64), (0 : Int), false⟩

theorem ty49_ok : TyOk Go.Proofs.Try.prog 49 ty49 := TyOk.of (by kernel_rfl) (by kernel_rfl) (by kernel_rfl) (by kernel_rfl)

noncomputable def ty50 : TyI := ⟨(Go.TypeDesc.pointer 52), 1, 8, .opq, (Go.Value.pointer none), false⟩

theorem ty50_ok : TyOk Go.Proofs.Try.prog 50 ty50 := TyOk.of (by kernel_rfl) (by kernel_rfl) (by kernel_rfl) (by kernel_rfl)

noncomputable def ty52 : TyI := ⟨(Go.TypeDesc.struct (List.toArray ([(Go.Field.mk "addr" 50 0 false "" "strings" 0), (Go.Field.mk "buf" 43 1 false "" "strings" 8)] : List Go.Field))), 2, 32, (.pair .opq (.pair (.sl (.int .u8)) .unit)), ((Go.Value.pointer none), ([] : List Int), ()), true⟩

theorem ty52_ok : TyOk Go.Proofs.Try.prog 52 ty52 := TyOk.of (by kernel_rfl) (by kernel_rfl) (by kernel_rfl) (by kernel_rfl)

noncomputable def ty54 : TyI := ⟨(Go.TypeDesc.interface (List.toArray ([("Error", 57)] : List (String × Nat)))), 1, 16, .opq, Go.Value.nilIface, false⟩

theorem ty54_ok : TyOk Go.Proofs.Try.prog 54 ty54 := TyOk.of (by kernel_rfl) (by kernel_rfl) (by kernel_rfl) (by kernel_rfl)

noncomputable def ty58 : TyI := ⟨(Go.TypeDesc.pointer 78), 1, 8, .opq, (Go.Value.pointer none), false⟩

theorem ty58_ok : TyOk Go.Proofs.Try.prog 58 ty58 := TyOk.of (by kernel_rfl) (by kernel_rfl) (by kernel_rfl) (by kernel_rfl)

noncomputable def ty64 : TyI := ⟨(Go.TypeDesc.struct (List.toArray ([(Go.Field.mk "S" 9 0 false "" "" 0), (Go.Field.mk "E" 24 1 false "" "" 16)] : List Go.Field))), 2, 24, (.pair .str (.pair (.int .i64) .unit)), (([] : List UInt8), (0 : Int), ()), true⟩

theorem ty64_ok : TyOk Go.Proofs.Try.prog 64 ty64 := TyOk.of (by kernel_rfl) (by kernel_rfl) (by kernel_rfl) (by kernel_rfl)

noncomputable def ty78 : TyI := ⟨(Go.TypeDesc.struct (List.toArray ([(Go.Field.mk "made" 4 0 false "" "porter/field" 0), (Go.Field.mk "rest" 9 1 false "" "porter/field" 8), (Go.Field.mk "err" 24 2 false "" "porter/field" 24)] : List Go.Field))), 3, 32, (.pair .bool (.pair .str (.pair (.int .i64) .unit))), (false, ([] : List UInt8), (0 : Int), ()), true⟩

theorem ty78_ok : TyOk Go.Proofs.Try.prog 78 ty78 := TyOk.of (by kernel_rfl) (by kernel_rfl) (by kernel_rfl) (by kernel_rfl)

noncomputable def ty84 : TyI := ⟨(Go.TypeDesc.func (List.toArray ([21, 4] : List Nat)) (List.toArray ([4] : List Nat)) false), 1, 8, .opq, Go.Value.nilFunc, false⟩

theorem ty84_ok : TyOk Go.Proofs.Try.prog 84 ty84 := TyOk.of (by kernel_rfl) (by kernel_rfl) (by kernel_rfl) (by kernel_rfl)

noncomputable def ty86 : TyI := ⟨(Go.TypeDesc.int Go.IntKind.u64), 1, 8, (.int .u64), (0 : Int), false⟩

theorem ty86_ok : TyOk Go.Proofs.Try.prog 86 ty86 := TyOk.of (by kernel_rfl) (by kernel_rfl) (by kernel_rfl) (by kernel_rfl)

noncomputable def tys : List (Nat × TyI) := [(3, ty3), (4, ty4), (5, ty5), (9, ty9), (20, ty20), (21, ty21), (22, ty22), (24, ty24), (28, ty28), (39, ty39), (40, ty40), (42, ty42), (43, ty43), (46, ty46), (49, ty49), (50, ty50), (52, ty52), (54, ty54), (58, ty58), (64, ty64), (78, ty78), (84, ty84), (86, ty86)]

theorem tys_ok : TysOk Go.Proofs.Try.prog tys := TysOk.cons ty3_ok (TysOk.cons ty4_ok (TysOk.cons ty5_ok (TysOk.cons ty9_ok (TysOk.cons ty20_ok (TysOk.cons ty21_ok (TysOk.cons ty22_ok (TysOk.cons ty24_ok (TysOk.cons ty28_ok (TysOk.cons ty39_ok (TysOk.cons ty40_ok (TysOk.cons ty42_ok (TysOk.cons ty43_ok (TysOk.cons ty46_ok (TysOk.cons ty49_ok (TysOk.cons ty50_ok (TysOk.cons ty52_ok (TysOk.cons ty54_ok (TysOk.cons ty58_ok (TysOk.cons ty64_ok (TysOk.cons ty78_ok (TysOk.cons ty84_ok (TysOk.cons ty86_ok (TysOk.nil)))))))))))))))))))))))

theorem mixed : Go.Proofs.Try.prog.follows .mixedOrders = true := by kernel_rfl

abbrev field_Reader_Left_R : Type := (Int × ((Bool × ((List UInt8) × (Int × Unit))) × Unit))

noncomputable def field_Reader_Left_body : Code := (Go.Proofs.Try.f51.body).getD .skip

noncomputable def field_Reader_Left_L : List (List Nat × List Nat) := [([0], [0]), ([0, 0, 1], [4, 0]), ([1, 0, 1], [0]), ([0, 0, 1, 0, 1], [2, 0]), ([1, 0, 1, 0, 1], [2, 0]), ([0, 1, 1], [2, 0]), ([1, 1, 1], [2, 0])]

noncomputable def field_Reader_Left_E (N : Nat) : Env := mkEnv tys noGlob [] [] [] [0] false [] []

theorem field_Reader_Left_Eok (N : Nat) : EnvOk Go.Proofs.Try.prog (field_Reader_Left_E N) := mkEnv_ok mixed tys_ok (FnsOk.nil) (ItsOk.nil)

noncomputable def field_Reader_Left (N : Nat) (r_ : (Bool × ((List UInt8) × (Int × Unit)))) : Option (Int × ((Bool × ((List UInt8) × (Int × Unit))) × Unit)) :=
  some ((((List.length r_.2.1) : Nat) : Int), (r_, ()))

noncomputable def field_Reader_Left_t (N : Nat) : Tab (Int × ((Bool × ((List UInt8) × (Int × Unit))) × Unit)) := []

theorem field_Reader_Left_link (N : Nat) (x : denS [(0, .box (.pair .bool (.pair .str (.pair (.int .i64) .unit))))]) : evFX (field_Reader_Left_E N) N (field_Reader_Left_t N) field_Reader_Left_L Go.Proofs.Try.f51 (mkS [(0, .box (.pair .bool (.pair .str (.pair (.int .i64) .unit))))] 0 x) (kResB (.v (.int .i64)) [(0, .box (.pair .bool (.pair .str (.pair (.int .i64) .unit))))] 0) = field_Reader_Left N x.1 := by kernel_rfl

noncomputable def field_Reader_Left_res (N : Nat) : List A → Res := resOf [(0, .box (.pair .bool (.pair .str (.pair (.int .i64) .unit))))] (fun x => field_Reader_Left N x.1) (oResB (.v (.int .i64)) [(0, .box (.pair .bool (.pair .str (.pair (.int .i64) .unit))))] 0)

theorem field_Reader_Left_ct (N : Nat) : Contract Go.Proofs.Try.prog noGlob 51 (field_Reader_Left_res N) :=
  Contract.of (E := field_Reader_Left_E N) (H := field_Reader_Left_t N) (L := field_Reader_Left_L) (N := N) (body := field_Reader_Left_body) (K := (kResB (.v (.int .i64)) [(0, .box (.pair .bool (.pair .str (.pair (.int .i64) .unit))))] 0)) (field_Reader_Left_Eok N) Go.Proofs.Try.func51 (by kernel_rfl) (by decide) (fun _ hb => TabOk.nil) (fun x y h => by rw [field_Reader_Left_link]; exact h) (kResB_ok (s := (.v (.int .i64))) (os := [(0, .box (.pair .bool (.pair .str (.pair (.int .i64) .unit))))]) (m := 0))

abbrev field_Reader_Left_nil_R : Type := Int

noncomputable def field_Reader_Left_nil_body : Code := (Go.Proofs.Try.f51.body).getD .skip

noncomputable def field_Reader_Left_nil_L : List (List Nat × List Nat) := [([0], [0]), ([0, 0, 1], [4, 0]), ([1, 0, 1], [0]), ([0, 0, 1, 0, 1], [2]), ([1, 0, 1, 0, 1], [2]), ([0, 1, 1], [2]), ([1, 1, 1], [2])]

noncomputable def field_Reader_Left_nil_E (N : Nat) : Env := mkEnv tys noGlob [] [] [] [] false [] []

theorem field_Reader_Left_nil_Eok (N : Nat) : EnvOk Go.Proofs.Try.prog (field_Reader_Left_nil_E N) := mkEnv_ok mixed tys_ok (FnsOk.nil) (ItsOk.nil)

noncomputable def field_Reader_Left_nil (N : Nat) : Option Int :=
  some (0 : Int)

noncomputable def field_Reader_Left_nil_t (N : Nat) : Tab Int := []

theorem field_Reader_Left_nil_link (N : Nat) (x : denS [(0, .nilp)]) : evFX (field_Reader_Left_nil_E N) N (field_Reader_Left_nil_t N) field_Reader_Left_nil_L Go.Proofs.Try.f51 (mkS [(0, .nilp)] 0 x) (kRes (.v (.int .i64)) 1) = field_Reader_Left_nil N := by kernel_rfl

noncomputable def field_Reader_Left_nil_res (N : Nat) : List A → Res := resOf [(0, .nilp)] (fun x => field_Reader_Left_nil N) (oRes (.v (.int .i64)) 1)

theorem field_Reader_Left_nil_ct (N : Nat) : Contract Go.Proofs.Try.prog noGlob 51 (field_Reader_Left_nil_res N) :=
  Contract.of (E := field_Reader_Left_nil_E N) (H := field_Reader_Left_nil_t N) (L := field_Reader_Left_nil_L) (N := N) (body := field_Reader_Left_nil_body) (K := (kRes (.v (.int .i64)) 1)) (field_Reader_Left_nil_Eok N) Go.Proofs.Try.func51 (by kernel_rfl) (by decide) (fun _ hb => TabOk.nil) (fun x y h => by rw [field_Reader_Left_nil_link]; exact h) (kRes_ok (s := (.v (.int .i64))) (m := 1))

noncomputable def field_Reader_Left_nil_all (N : Nat) : List A → Res := resAlt [(0, .nilp)] (fun x => field_Reader_Left_nil N) (oRes (.v (.int .i64)) 1) (field_Reader_Left_res N)

theorem field_Reader_Left_nil_allct (N : Nat) : Contract Go.Proofs.Try.prog noGlob 51 (field_Reader_Left_nil_all N) := Contract.alt (field_Reader_Left_nil_ct N) (field_Reader_Left_ct N)

abbrev field_Reader_reads_R : Type := (Bool × ((Bool × ((List UInt8) × (Int × Unit))) × Unit))

noncomputable def field_Reader_reads_body : Code := (Go.Proofs.Try.f47.body).getD .skip

noncomputable def field_Reader_reads_L : List (List Nat × List Nat) := [([0], [0]), ([0, 1], [2, 0]), ([1, 1], [2, 0])]

noncomputable def field_Reader_reads_E (N : Nat) : Env := mkEnv tys noGlob [] [] [] [0] false [] []

theorem field_Reader_reads_Eok (N : Nat) : EnvOk Go.Proofs.Try.prog (field_Reader_reads_E N) := mkEnv_ok mixed tys_ok (FnsOk.nil) (ItsOk.nil)

noncomputable def field_Reader_reads (N : Nat) (r_ : (Bool × ((List UInt8) × (Int × Unit)))) : Option (Bool × ((Bool × ((List UInt8) × (Int × Unit))) × Unit)) :=
  cond r_.1
  (some ((r_.2.2.1 == (0 : Int)), (r_, ())))
  (some (false, (r_, ())))

noncomputable def field_Reader_reads_t (N : Nat) : Tab (Bool × ((Bool × ((List UInt8) × (Int × Unit))) × Unit)) := []

theorem field_Reader_reads_link (N : Nat) (x : denS [(0, .box (.pair .bool (.pair .str (.pair (.int .i64) .unit))))]) : evFX (field_Reader_reads_E N) N (field_Reader_reads_t N) field_Reader_reads_L Go.Proofs.Try.f47 (mkS [(0, .box (.pair .bool (.pair .str (.pair (.int .i64) .unit))))] 0 x) (kResB (.v .bool) [(0, .box (.pair .bool (.pair .str (.pair (.int .i64) .unit))))] 0) = field_Reader_reads N x.1 := by kernel_rfl

noncomputable def field_Reader_reads_res (N : Nat) : List A → Res := resOf [(0, .box (.pair .bool (.pair .str (.pair (.int .i64) .unit))))] (fun x => field_Reader_reads N x.1) (oResB (.v .bool) [(0, .box (.pair .bool (.pair .str (.pair (.int .i64) .unit))))] 0)

theorem field_Reader_reads_ct (N : Nat) : Contract Go.Proofs.Try.prog noGlob 47 (field_Reader_reads_res N) :=
  Contract.of (E := field_Reader_reads_E N) (H := field_Reader_reads_t N) (L := field_Reader_reads_L) (N := N) (body := field_Reader_reads_body) (K := (kResB (.v .bool) [(0, .box (.pair .bool (.pair .str (.pair (.int .i64) .unit))))] 0)) (field_Reader_reads_Eok N) Go.Proofs.Try.func47 (by kernel_rfl) (by decide) (fun _ hb => TabOk.nil) (fun x y h => by rw [field_Reader_reads_link]; exact h) (kResB_ok (s := (.v .bool)) (os := [(0, .box (.pair .bool (.pair .str (.pair (.int .i64) .unit))))]) (m := 0))

abbrev field_Reader_reads_nil_R : Type := Bool

noncomputable def field_Reader_reads_nil_body : Code := (Go.Proofs.Try.f47.body).getD .skip

noncomputable def field_Reader_reads_nil_L : List (List Nat × List Nat) := [([0], [0]), ([0, 1], [2]), ([1, 1], [2])]

noncomputable def field_Reader_reads_nil_E (N : Nat) : Env := mkEnv tys noGlob [] [] [] [] false [] []

theorem field_Reader_reads_nil_Eok (N : Nat) : EnvOk Go.Proofs.Try.prog (field_Reader_reads_nil_E N) := mkEnv_ok mixed tys_ok (FnsOk.nil) (ItsOk.nil)

noncomputable def field_Reader_reads_nil (N : Nat) : Option Bool :=
  some false

noncomputable def field_Reader_reads_nil_t (N : Nat) : Tab Bool := []

theorem field_Reader_reads_nil_link (N : Nat) (x : denS [(0, .nilp)]) : evFX (field_Reader_reads_nil_E N) N (field_Reader_reads_nil_t N) field_Reader_reads_nil_L Go.Proofs.Try.f47 (mkS [(0, .nilp)] 0 x) (kRes (.v .bool) 1) = field_Reader_reads_nil N := by kernel_rfl

noncomputable def field_Reader_reads_nil_res (N : Nat) : List A → Res := resOf [(0, .nilp)] (fun x => field_Reader_reads_nil N) (oRes (.v .bool) 1)

theorem field_Reader_reads_nil_ct (N : Nat) : Contract Go.Proofs.Try.prog noGlob 47 (field_Reader_reads_nil_res N) :=
  Contract.of (E := field_Reader_reads_nil_E N) (H := field_Reader_reads_nil_t N) (L := field_Reader_reads_nil_L) (N := N) (body := field_Reader_reads_nil_body) (K := (kRes (.v .bool) 1)) (field_Reader_reads_nil_Eok N) Go.Proofs.Try.func47 (by kernel_rfl) (by decide) (fun _ hb => TabOk.nil) (fun x y h => by rw [field_Reader_reads_nil_link]; exact h) (kRes_ok (s := (.v .bool)) (m := 1))

noncomputable def field_Reader_reads_nil_all (N : Nat) : List A → Res := resAlt [(0, .nilp)] (fun x => field_Reader_reads_nil N) (oRes (.v .bool) 1) (field_Reader_reads_res N)

theorem field_Reader_reads_nil_allct (N : Nat) : Contract Go.Proofs.Try.prog noGlob 47 (field_Reader_reads_nil_all N) := Contract.alt (field_Reader_reads_nil_ct N) (field_Reader_reads_ct N)

abbrev field_Reader_Fail_R : Type := ((Unit) × ((Bool × ((List UInt8) × (Int × Unit))) × Unit))

noncomputable def field_Reader_Fail_body : Code := (Go.Proofs.Try.f37.body).getD .skip

noncomputable def field_Reader_Fail_L : List (List Nat × List Nat) := [([0], [9, 0, 1]), ([1], [0]), ([0, 1], [0])]

noncomputable def field_Reader_Fail_E (N : Nat) : Env := mkEnv tys noGlob [(47, field_Reader_reads_nil_all N)] [] [] [0] false [] []

theorem field_Reader_Fail_Eok (N : Nat) : EnvOk Go.Proofs.Try.prog (field_Reader_Fail_E N) := mkEnv_ok mixed tys_ok (FnsOk.cons (field_Reader_reads_nil_allct N) (FnsOk.nil)) (ItsOk.nil)

noncomputable def field_Reader_Fail_p1 (N : Nat) (r_ : (Bool × ((List UInt8) × (Int × Unit)))) (e : Int) (k0 : (Bool × ((List UInt8) × (Int × Unit))) → Bool → Option ((Unit) × ((Bool × ((List UInt8) × (Int × Unit))) × Unit))) : Option ((Unit) × ((Bool × ((List UInt8) × (Int × Unit))) × Unit)) :=
  (field_Reader_reads N r_).bind fun y =>
  cond y.1
  (k0 y.2.1 (e != (0 : Int)))
  (k0 y.2.1 false)

noncomputable def field_Reader_Fail_g1 (N : Nat) (x : denS [(0, .box (.pair .bool (.pair .str (.pair (.int .i64) .unit)))), (0, .v (.int .i64))]) (K : Ex → List A → Option ((Unit) × ((Bool × ((List UInt8) × (Int × Unit))) × Unit))) : Option ((Unit) × ((Bool × ((List UInt8) × (Int × Unit))) × Unit)) :=
  field_Reader_Fail_p1 N x.1 x.2.1 (fun a0 a2 => (K .normal (mkS [(0, .box (.pair .bool (.pair .str (.pair (.int .i64) .unit)))), (0, .v (.int .i64)), (7, .v .bool)] 7 (a0, x.2.1, a2, ()))))

noncomputable def field_Reader_Fail_h1 (N : Nat) : Hd ((Unit) × ((Bool × ((List UInt8) × (Int × Unit))) × Unit)) := fun st K => (unS [(0, .box (.pair .bool (.pair .str (.pair (.int .i64) .unit)))), (0, .v (.int .i64))] 15 (restr [0, 1] 0 st)).bind fun x => field_Reader_Fail_g1 N x K

noncomputable def field_Reader_Fail_t1 (N : Nat) : Tab ((Unit) × ((Bool × ((List UInt8) × (Int × Unit))) × Unit)) := []

theorem field_Reader_Fail_ok1 {N : Nat} {c : Ctx} (hb : Base Go.Proofs.Try.prog (field_Reader_Fail_E N) c) : CodeOk Go.Proofs.Try.prog c (nodeAt field_Reader_Fail_body [0]) (field_Reader_Fail_h1 N) :=
  piece_ok (s := [(0, .box (.pair .bool (.pair .str (.pair (.int .i64) .unit)))), (0, .v (.int .i64))]) (m := 15) (g := field_Reader_Fail_g1 N) [0, 1] (evN_sound hb N (field_Reader_Fail_t1 N) field_Reader_Fail_L field_Reader_Fail_body TabOk.nil [0] _ rfl) (fun x K => by kernel_rfl)

noncomputable def field_Reader_Fail (N : Nat) (r_ : (Bool × ((List UInt8) × (Int × Unit)))) (e : Int) : Option ((Unit) × ((Bool × ((List UInt8) × (Int × Unit))) × Unit)) :=
  field_Reader_Fail_p1 N r_ e
  (fun r_1 x9 => cond x9
    (some ((), ((r_1.1, (([] : List UInt8), (e, r_1.2.2.2))), ())))
    (some ((), (r_1, ()))))

noncomputable def field_Reader_Fail_t (N : Nat) : Tab ((Unit) × ((Bool × ((List UInt8) × (Int × Unit))) × Unit)) := [([0], field_Reader_Fail_h1 N)]

theorem field_Reader_Fail_link (N : Nat) (x : denS [(0, .box (.pair .bool (.pair .str (.pair (.int .i64) .unit)))), (0, .v (.int .i64))]) : evFX (field_Reader_Fail_E N) N (field_Reader_Fail_t N) field_Reader_Fail_L Go.Proofs.Try.f37 (mkS [(0, .box (.pair .bool (.pair .str (.pair (.int .i64) .unit)))), (0, .v (.int .i64))] 0 x) (kResB (.tup []) [(0, .box (.pair .bool (.pair .str (.pair (.int .i64) .unit))))] 1) = field_Reader_Fail N x.1 x.2.1 := by kernel_rfl

noncomputable def field_Reader_Fail_res (N : Nat) : List A → Res := resOf [(0, .box (.pair .bool (.pair .str (.pair (.int .i64) .unit)))), (0, .v (.int .i64))] (fun x => field_Reader_Fail N x.1 x.2.1) (oResB (.tup []) [(0, .box (.pair .bool (.pair .str (.pair (.int .i64) .unit))))] 1)

theorem field_Reader_Fail_ct (N : Nat) : Contract Go.Proofs.Try.prog noGlob 37 (field_Reader_Fail_res N) :=
  Contract.of (E := field_Reader_Fail_E N) (H := field_Reader_Fail_t N) (L := field_Reader_Fail_L) (N := N) (body := field_Reader_Fail_body) (K := (kResB (.tup []) [(0, .box (.pair .bool (.pair .str (.pair (.int .i64) .unit))))] 1)) (field_Reader_Fail_Eok N) Go.Proofs.Try.func37 (by kernel_rfl) (by decide) (fun _ hb => (TabOk.cons (field_Reader_Fail_ok1 hb) TabOk.nil)) (fun x y h => by rw [field_Reader_Fail_link]; exact h) (kResB_ok (s := (.tup [])) (os := [(0, .box (.pair .bool (.pair .str (.pair (.int .i64) .unit))))]) (m := 1))

abbrev field_Reader_Fail_nil_R : Type := (Unit)

noncomputable def field_Reader_Fail_nil_body : Code := (Go.Proofs.Try.f37.body).getD .skip

noncomputable def field_Reader_Fail_nil_L : List (List Nat × List Nat) := [([0], [9, 0, 1]), ([1], []), ([0, 1], [])]

noncomputable def field_Reader_Fail_nil_E (N : Nat) : Env := mkEnv tys noGlob [(47, field_Reader_reads_nil_all N)] [] [] [] false [] []

theorem field_Reader_Fail_nil_Eok (N : Nat) : EnvOk Go.Proofs.Try.prog (field_Reader_Fail_nil_E N) := mkEnv_ok mixed tys_ok (FnsOk.cons (field_Reader_reads_nil_allct N) (FnsOk.nil)) (ItsOk.nil)

noncomputable def field_Reader_Fail_nil_p1 (N : Nat) (e : Int) (k0 : Bool → Option (Unit)) : Option (Unit) :=
  k0 false

noncomputable def field_Reader_Fail_nil_g1 (N : Nat) (x : denS [(0, .nilp), (0, .v (.int .i64))]) (K : Ex → List A → Option (Unit)) : Option (Unit) :=
  field_Reader_Fail_nil_p1 N x.2.1 (fun a1 => (K .normal (mkS [(0, .nilp), (0, .v (.int .i64)), (7, .v .bool)] 7 ((), x.2.1, a1, ()))))

noncomputable def field_Reader_Fail_nil_h1 (N : Nat) : Hd (Unit) := fun st K => (unS [(0, .nilp), (0, .v (.int .i64))] 15 (restr [0, 1] 0 st)).bind fun x => field_Reader_Fail_nil_g1 N x K

noncomputable def field_Reader_Fail_nil_t1 (N : Nat) : Tab (Unit) := []

theorem field_Reader_Fail_nil_ok1 {N : Nat} {c : Ctx} (hb : Base Go.Proofs.Try.prog (field_Reader_Fail_nil_E N) c) : CodeOk Go.Proofs.Try.prog c (nodeAt field_Reader_Fail_nil_body [0]) (field_Reader_Fail_nil_h1 N) :=
  piece_ok (s := [(0, .nilp), (0, .v (.int .i64))]) (m := 15) (g := field_Reader_Fail_nil_g1 N) [0, 1] (evN_sound hb N (field_Reader_Fail_nil_t1 N) field_Reader_Fail_nil_L field_Reader_Fail_nil_body TabOk.nil [0] _ rfl) (fun x K => by kernel_rfl)

noncomputable def field_Reader_Fail_nil (N : Nat) (e : Int) : Option (Unit) :=
  field_Reader_Fail_nil_p1 N e
  (fun x9 => cond x9
    (none)
    (some ()))

noncomputable def field_Reader_Fail_nil_t (N : Nat) : Tab (Unit) := [([0], field_Reader_Fail_nil_h1 N)]

theorem field_Reader_Fail_nil_link (N : Nat) (x : denS [(0, .nilp), (0, .v (.int .i64))]) : evFX (field_Reader_Fail_nil_E N) N (field_Reader_Fail_nil_t N) field_Reader_Fail_nil_L Go.Proofs.Try.f37 (mkS [(0, .nilp), (0, .v (.int .i64))] 0 x) (kRes (.tup []) 2) = field_Reader_Fail_nil N x.2.1 := by kernel_rfl

noncomputable def field_Reader_Fail_nil_res (N : Nat) : List A → Res := resOf [(0, .nilp), (0, .v (.int .i64))] (fun x => field_Reader_Fail_nil N x.2.1) (oRes (.tup []) 2)

theorem field_Reader_Fail_nil_ct (N : Nat) : Contract Go.Proofs.Try.prog noGlob 37 (field_Reader_Fail_nil_res N) :=
  Contract.of (E := field_Reader_Fail_nil_E N) (H := field_Reader_Fail_nil_t N) (L := field_Reader_Fail_nil_L) (N := N) (body := field_Reader_Fail_nil_body) (K := (kRes (.tup []) 2)) (field_Reader_Fail_nil_Eok N) Go.Proofs.Try.func37 (by kernel_rfl) (by decide) (fun _ hb => (TabOk.cons (field_Reader_Fail_nil_ok1 hb) TabOk.nil)) (fun x y h => by rw [field_Reader_Fail_nil_link]; exact h) (kRes_ok (s := (.tup [])) (m := 2))

noncomputable def field_Reader_Fail_nil_all (N : Nat) : List A → Res := resAlt [(0, .nilp), (0, .v (.int .i64))] (fun x => field_Reader_Fail_nil N x.2.1) (oRes (.tup []) 2) (field_Reader_Fail_res N)

theorem field_Reader_Fail_nil_allct (N : Nat) : Contract Go.Proofs.Try.prog noGlob 37 (field_Reader_Fail_nil_all N) := Contract.alt (field_Reader_Fail_nil_ct N) (field_Reader_Fail_ct N)

abbrev field_Reader_Err_R : Type := (Int × ((Bool × ((List UInt8) × (Int × Unit))) × Unit))

noncomputable def field_Reader_Err_body : Code := (Go.Proofs.Try.f52.body).getD .skip

noncomputable def field_Reader_Err_L : List (List Nat × List Nat) := [([0], [0]), ([0, 0, 1], [11, 0]), ([1, 0, 1], [0]), ([0, 0, 1, 0, 1], [2, 0]), ([1, 0, 1, 0, 1], [2, 0]), ([0, 1, 1], [2, 0]), ([1, 1, 1], [2, 0])]

noncomputable def field_Reader_Err_E (N : Nat) : Env := mkEnv tys noGlob [] [] [] [0] false [] []

theorem field_Reader_Err_Eok (N : Nat) : EnvOk Go.Proofs.Try.prog (field_Reader_Err_E N) := mkEnv_ok mixed tys_ok (FnsOk.nil) (ItsOk.nil)

noncomputable def field_Reader_Err_p2 (N : Nat) (r_ : (Bool × ((List UInt8) × (Int × Unit)))) (k0 : Bool → Option (Int × ((Bool × ((List UInt8) × (Int × Unit))) × Unit))) : Option (Int × ((Bool × ((List UInt8) × (Int × Unit))) × Unit)) :=
  k0 (!r_.1)

noncomputable def field_Reader_Err_g2 (N : Nat) (x : denS [(0, .box (.pair .bool (.pair .str (.pair (.int .i64) .unit))))]) (K : Ex → List A → Option (Int × ((Bool × ((List UInt8) × (Int × Unit))) × Unit))) : Option (Int × ((Bool × ((List UInt8) × (Int × Unit))) × Unit)) :=
  field_Reader_Err_p2 N x.1 (fun a1 => (K .normal (mkS [(0, .box (.pair .bool (.pair .str (.pair (.int .i64) .unit)))), (10, .v .bool)] 4 (x.1, a1, ()))))

noncomputable def field_Reader_Err_h2 (N : Nat) : Hd (Int × ((Bool × ((List UInt8) × (Int × Unit))) × Unit)) := fun st K => (unS [(0, .box (.pair .bool (.pair .str (.pair (.int .i64) .unit))))] 15 (restr [0] 0 st)).bind fun x => field_Reader_Err_g2 N x K

noncomputable def field_Reader_Err_t2 (N : Nat) : Tab (Int × ((Bool × ((List UInt8) × (Int × Unit))) × Unit)) := []

theorem field_Reader_Err_ok2 {N : Nat} {c : Ctx} (hb : Base Go.Proofs.Try.prog (field_Reader_Err_E N) c) : CodeOk Go.Proofs.Try.prog c (nodeAt field_Reader_Err_body [0, 0, 1]) (field_Reader_Err_h2 N) :=
  piece_ok (s := [(0, .box (.pair .bool (.pair .str (.pair (.int .i64) .unit))))]) (m := 15) (g := field_Reader_Err_g2 N) [0] (evN_sound hb N (field_Reader_Err_t2 N) field_Reader_Err_L field_Reader_Err_body TabOk.nil [0, 0, 1] _ rfl) (fun x K => by kernel_rfl)

noncomputable def field_Reader_Err_p1 (N : Nat) (r_ : (Bool × ((List UInt8) × (Int × Unit)))) (k0 : Int → Option (Int × ((Bool × ((List UInt8) × (Int × Unit))) × Unit))) (k1 : Option (Int × ((Bool × ((List UInt8) × (Int × Unit))) × Unit))) : Option (Int × ((Bool × ((List UInt8) × (Int × Unit))) × Unit)) :=
  field_Reader_Err_p2 N r_
  (fun x11 => cond x11
    (k0 (21 : Int))
    (k1))

noncomputable def field_Reader_Err_g1 (N : Nat) (x : denS [(0, .box (.pair .bool (.pair .str (.pair (.int .i64) .unit))))]) (K : Ex → List A → Option (Int × ((Bool × ((List UInt8) × (Int × Unit))) × Unit))) : Option (Int × ((Bool × ((List UInt8) × (Int × Unit))) × Unit)) :=
  field_Reader_Err_p1 N x.1 (fun a1 => (K .ret (mkS [(0, .box (.pair .bool (.pair .str (.pair (.int .i64) .unit)))), (1, .v (.int .i64))] 13 (x.1, a1, ())))) (K .normal (mkS [(0, .box (.pair .bool (.pair .str (.pair (.int .i64) .unit))))] 15 (x.1, ())))

noncomputable def field_Reader_Err_h1 (N : Nat) : Hd (Int × ((Bool × ((List UInt8) × (Int × Unit))) × Unit)) := fun st K => (unS [(0, .box (.pair .bool (.pair .str (.pair (.int .i64) .unit))))] 15 (restr [0] 0 st)).bind fun x => field_Reader_Err_g1 N x K

noncomputable def field_Reader_Err_t1 (N : Nat) : Tab (Int × ((Bool × ((List UInt8) × (Int × Unit))) × Unit)) := [([0, 0, 1], field_Reader_Err_h2 N)]

theorem field_Reader_Err_ok1 {N : Nat} {c : Ctx} (hb : Base Go.Proofs.Try.prog (field_Reader_Err_E N) c) : CodeOk Go.Proofs.Try.prog c (nodeAt field_Reader_Err_body [0, 1]) (field_Reader_Err_h1 N) :=
  piece_ok (s := [(0, .box (.pair .bool (.pair .str (.pair (.int .i64) .unit))))]) (m := 15) (g := field_Reader_Err_g1 N) [0] (evN_sound hb N (field_Reader_Err_t1 N) field_Reader_Err_L field_Reader_Err_body (TabOk.cons (field_Reader_Err_ok2 hb) TabOk.nil) [0, 1] _ rfl) (fun x K => by kernel_rfl)

noncomputable def field_Reader_Err (N : Nat) (r_ : (Bool × ((List UInt8) × (Int × Unit)))) : Option (Int × ((Bool × ((List UInt8) × (Int × Unit))) × Unit)) :=
  field_Reader_Err_p1 N r_
  (fun x2 => some (x2, (r_, ())))
  (some (r_.2.2.1, (r_, ())))

noncomputable def field_Reader_Err_t (N : Nat) : Tab (Int × ((Bool × ((List UInt8) × (Int × Unit))) × Unit)) := [([0, 1], field_Reader_Err_h1 N)]

theorem field_Reader_Err_link (N : Nat) (x : denS [(0, .box (.pair .bool (.pair .str (.pair (.int .i64) .unit))))]) : evFX (field_Reader_Err_E N) N (field_Reader_Err_t N) field_Reader_Err_L Go.Proofs.Try.f52 (mkS [(0, .box (.pair .bool (.pair .str (.pair (.int .i64) .unit))))] 0 x) (kResB (.v (.int .i64)) [(0, .box (.pair .bool (.pair .str (.pair (.int .i64) .unit))))] 0) = field_Reader_Err N x.1 := by kernel_rfl

noncomputable def field_Reader_Err_res (N : Nat) : List A → Res := resOf [(0, .box (.pair .bool (.pair .str (.pair (.int .i64) .unit))))] (fun x => field_Reader_Err N x.1) (oResB (.v (.int .i64)) [(0, .box (.pair .bool (.pair .str (.pair (.int .i64) .unit))))] 0)

theorem field_Reader_Err_ct (N : Nat) : Contract Go.Proofs.Try.prog noGlob 52 (field_Reader_Err_res N) :=
  Contract.of (E := field_Reader_Err_E N) (H := field_Reader_Err_t N) (L := field_Reader_Err_L) (N := N) (body := field_Reader_Err_body) (K := (kResB (.v (.int .i64)) [(0, .box (.pair .bool (.pair .str (.pair (.int .i64) .unit))))] 0)) (field_Reader_Err_Eok N) Go.Proofs.Try.func52 (by kernel_rfl) (by decide) (fun _ hb => (TabOk.cons (field_Reader_Err_ok1 hb) TabOk.nil)) (fun x y h => by rw [field_Reader_Err_link]; exact h) (kResB_ok (s := (.v (.int .i64))) (os := [(0, .box (.pair .bool (.pair .str (.pair (.int .i64) .unit))))]) (m := 0))

abbrev field_Reader_Err_nil_R : Type := Int

noncomputable def field_Reader_Err_nil_body : Code := (Go.Proofs.Try.f52.body).getD .skip

noncomputable def field_Reader_Err_nil_L : List (List Nat × List Nat) := [([0], [0]), ([0, 0, 1], [11, 0]), ([1, 0, 1], [0]), ([0, 0, 1, 0, 1], [2]), ([1, 0, 1, 0, 1], [2]), ([0, 1, 1], [2]), ([1, 1, 1], [2])]

noncomputable def field_Reader_Err_nil_E (N : Nat) : Env := mkEnv tys noGlob [] [] [] [] false [] []

theorem field_Reader_Err_nil_Eok (N : Nat) : EnvOk Go.Proofs.Try.prog (field_Reader_Err_nil_E N) := mkEnv_ok mixed tys_ok (FnsOk.nil) (ItsOk.nil)

noncomputable def field_Reader_Err_nil_p2 (N : Nat) (k0 : Bool → Option Int) : Option Int :=
  k0 true

noncomputable def field_Reader_Err_nil_g2 (N : Nat) (x : denS [(0, .nilp)]) (K : Ex → List A → Option Int) : Option Int :=
  field_Reader_Err_nil_p2 N (fun a0 => (K .normal (mkS [(0, .nilp), (10, .v .bool)] 4 ((), a0, ()))))

noncomputable def field_Reader_Err_nil_h2 (N : Nat) : Hd Int := fun st K => (unS [(0, .nilp)] 15 (restr [0] 0 st)).bind fun x => field_Reader_Err_nil_g2 N x K

noncomputable def field_Reader_Err_nil_t2 (N : Nat) : Tab Int := []

theorem field_Reader_Err_nil_ok2 {N : Nat} {c : Ctx} (hb : Base Go.Proofs.Try.prog (field_Reader_Err_nil_E N) c) : CodeOk Go.Proofs.Try.prog c (nodeAt field_Reader_Err_nil_body [0, 0, 1]) (field_Reader_Err_nil_h2 N) :=
  piece_ok (s := [(0, .nilp)]) (m := 15) (g := field_Reader_Err_nil_g2 N) [0] (evN_sound hb N (field_Reader_Err_nil_t2 N) field_Reader_Err_nil_L field_Reader_Err_nil_body TabOk.nil [0, 0, 1] _ rfl) (fun x K => by kernel_rfl)

noncomputable def field_Reader_Err_nil_p1 (N : Nat) (k0 : Int → Option Int) (k1 : Option Int) : Option Int :=
  field_Reader_Err_nil_p2 N
  (fun x11 => cond x11
    (k0 (21 : Int))
    (k1))

noncomputable def field_Reader_Err_nil_g1 (N : Nat) (x : denS [(0, .nilp)]) (K : Ex → List A → Option Int) : Option Int :=
  field_Reader_Err_nil_p1 N (fun a0 => (K .ret (mkS [(2, .v (.int .i64))] 13 (a0, ())))) (K .normal (mkS [(0, .nilp)] 15 ((), ())))

noncomputable def field_Reader_Err_nil_h1 (N : Nat) : Hd Int := fun st K => (unS [(0, .nilp)] 15 (restr [0] 0 st)).bind fun x => field_Reader_Err_nil_g1 N x K

noncomputable def field_Reader_Err_nil_t1 (N : Nat) : Tab Int := [([0, 0, 1], field_Reader_Err_nil_h2 N)]

theorem field_Reader_Err_nil_ok1 {N : Nat} {c : Ctx} (hb : Base Go.Proofs.Try.prog (field_Reader_Err_nil_E N) c) : CodeOk Go.Proofs.Try.prog c (nodeAt field_Reader_Err_nil_body [0, 1]) (field_Reader_Err_nil_h1 N) :=
  piece_ok (s := [(0, .nilp)]) (m := 15) (g := field_Reader_Err_nil_g1 N) [0] (evN_sound hb N (field_Reader_Err_nil_t1 N) field_Reader_Err_nil_L field_Reader_Err_nil_body (TabOk.cons (field_Reader_Err_nil_ok2 hb) TabOk.nil) [0, 1] _ rfl) (fun x K => by kernel_rfl)

noncomputable def field_Reader_Err_nil (N : Nat) : Option Int :=
  field_Reader_Err_nil_p1 N
  (fun x2 => some x2)
  (none)

noncomputable def field_Reader_Err_nil_t (N : Nat) : Tab Int := [([0, 1], field_Reader_Err_nil_h1 N)]

theorem field_Reader_Err_nil_link (N : Nat) (x : denS [(0, .nilp)]) : evFX (field_Reader_Err_nil_E N) N (field_Reader_Err_nil_t N) field_Reader_Err_nil_L Go.Proofs.Try.f52 (mkS [(0, .nilp)] 0 x) (kRes (.v (.int .i64)) 1) = field_Reader_Err_nil N := by kernel_rfl

noncomputable def field_Reader_Err_nil_res (N : Nat) : List A → Res := resOf [(0, .nilp)] (fun x => field_Reader_Err_nil N) (oRes (.v (.int .i64)) 1)

theorem field_Reader_Err_nil_ct (N : Nat) : Contract Go.Proofs.Try.prog noGlob 52 (field_Reader_Err_nil_res N) :=
  Contract.of (E := field_Reader_Err_nil_E N) (H := field_Reader_Err_nil_t N) (L := field_Reader_Err_nil_L) (N := N) (body := field_Reader_Err_nil_body) (K := (kRes (.v (.int .i64)) 1)) (field_Reader_Err_nil_Eok N) Go.Proofs.Try.func52 (by kernel_rfl) (by decide) (fun _ hb => (TabOk.cons (field_Reader_Err_nil_ok1 hb) TabOk.nil)) (fun x y h => by rw [field_Reader_Err_nil_link]; exact h) (kRes_ok (s := (.v (.int .i64))) (m := 1))

noncomputable def field_Reader_Err_nil_all (N : Nat) : List A → Res := resAlt [(0, .nilp)] (fun x => field_Reader_Err_nil N) (oRes (.v (.int .i64)) 1) (field_Reader_Err_res N)

theorem field_Reader_Err_nil_allct (N : Nat) : Contract Go.Proofs.Try.prog noGlob 52 (field_Reader_Err_nil_all N) := Contract.alt (field_Reader_Err_nil_ct N) (field_Reader_Err_ct N)

abbrev field_Reader_End_R : Type := (Int × ((Bool × ((List UInt8) × (Int × Unit))) × Unit))

noncomputable def field_Reader_End_body : Code := (Go.Proofs.Try.f31.body).getD .skip

noncomputable def field_Reader_End_L : List (List Nat × List Nat) := [([0], [0]), ([0, 0, 1], [5, 0]), ([1, 0, 1], [0]), ([0, 1, 0, 1], [0]), ([0, 1, 1], [2, 0]), ([1, 1, 1], [2, 0])]

noncomputable def field_Reader_End_E (N : Nat) : Env := mkEnv tys noGlob [(52, field_Reader_Err_nil_all N), (37, field_Reader_Fail_nil_all N), (51, field_Reader_Left_nil_all N)] [] [] [0] false [] []

theorem field_Reader_End_Eok (N : Nat) : EnvOk Go.Proofs.Try.prog (field_Reader_End_E N) := mkEnv_ok mixed tys_ok (FnsOk.cons (field_Reader_Err_nil_allct N) (FnsOk.cons (field_Reader_Fail_nil_allct N) (FnsOk.cons (field_Reader_Left_nil_allct N) (FnsOk.nil)))) (ItsOk.nil)

noncomputable def field_Reader_End_p1 (N : Nat) (r_ : (Bool × ((List UInt8) × (Int × Unit)))) (k0 : (Bool × ((List UInt8) × (Int × Unit))) → Option (Int × ((Bool × ((List UInt8) × (Int × Unit))) × Unit))) : Option (Int × ((Bool × ((List UInt8) × (Int × Unit))) × Unit)) :=
  cond (decide ((0 : Int) < (((List.length r_.2.1) : Nat) : Int)))
  ((field_Reader_Fail N r_ (2 : Int)).bind fun y =>
    k0 y.2.1)
  (k0 r_)

noncomputable def field_Reader_End_g1 (N : Nat) (x : denS [(0, .box (.pair .bool (.pair .str (.pair (.int .i64) .unit))))]) (K : Ex → List A → Option (Int × ((Bool × ((List UInt8) × (Int × Unit))) × Unit))) : Option (Int × ((Bool × ((List UInt8) × (Int × Unit))) × Unit)) :=
  field_Reader_End_p1 N x.1 (fun a0 => (K .normal (mkS [(0, .box (.pair .bool (.pair .str (.pair (.int .i64) .unit))))] 9 (a0, ()))))

noncomputable def field_Reader_End_h1 (N : Nat) : Hd (Int × ((Bool × ((List UInt8) × (Int × Unit))) × Unit)) := fun st K => (unS [(0, .box (.pair .bool (.pair .str (.pair (.int .i64) .unit))))] 9 (restr [0] 0 st)).bind fun x => field_Reader_End_g1 N x K

noncomputable def field_Reader_End_t1 (N : Nat) : Tab (Int × ((Bool × ((List UInt8) × (Int × Unit))) × Unit)) := []

theorem field_Reader_End_ok1 {N : Nat} {c : Ctx} (hb : Base Go.Proofs.Try.prog (field_Reader_End_E N) c) : CodeOk Go.Proofs.Try.prog c (nodeAt field_Reader_End_body [0, 1]) (field_Reader_End_h1 N) :=
  piece_ok (s := [(0, .box (.pair .bool (.pair .str (.pair (.int .i64) .unit))))]) (m := 9) (g := field_Reader_End_g1 N) [0] (evN_sound hb N (field_Reader_End_t1 N) field_Reader_End_L field_Reader_End_body TabOk.nil [0, 1] _ rfl) (fun x K => by kernel_rfl)

noncomputable def field_Reader_End (N : Nat) (r_ : (Bool × ((List UInt8) × (Int × Unit)))) : Option (Int × ((Bool × ((List UInt8) × (Int × Unit))) × Unit)) :=
  field_Reader_End_p1 N r_
  (fun r_1 => (field_Reader_Err N r_1).bind fun y =>
    some (y.1, (y.2.1, ())))

noncomputable def field_Reader_End_t (N : Nat) : Tab (Int × ((Bool × ((List UInt8) × (Int × Unit))) × Unit)) := [([0, 1], field_Reader_End_h1 N)]

theorem field_Reader_End_link (N : Nat) (x : denS [(0, .box (.pair .bool (.pair .str (.pair (.int .i64) .unit))))]) : evFX (field_Reader_End_E N) N (field_Reader_End_t N) field_Reader_End_L Go.Proofs.Try.f31 (mkS [(0, .box (.pair .bool (.pair .str (.pair (.int .i64) .unit))))] 0 x) (kResB (.v (.int .i64)) [(0, .box (.pair .bool (.pair .str (.pair (.int .i64) .unit))))] 0) = field_Reader_End N x.1 := by kernel_rfl

noncomputable def field_Reader_End_res (N : Nat) : List A → Res := resOf [(0, .box (.pair .bool (.pair .str (.pair (.int .i64) .unit))))] (fun x => field_Reader_End N x.1) (oResB (.v (.int .i64)) [(0, .box (.pair .bool (.pair .str (.pair (.int .i64) .unit))))] 0)

theorem field_Reader_End_ct (N : Nat) : Contract Go.Proofs.Try.prog noGlob 31 (field_Reader_End_res N) :=
  Contract.of (E := field_Reader_End_E N) (H := field_Reader_End_t N) (L := field_Reader_End_L) (N := N) (body := field_Reader_End_body) (K := (kResB (.v (.int .i64)) [(0, .box (.pair .bool (.pair .str (.pair (.int .i64) .unit))))] 0)) (field_Reader_End_Eok N) Go.Proofs.Try.func31 (by kernel_rfl) (by decide) (fun _ hb => (TabOk.cons (field_Reader_End_ok1 hb) TabOk.nil)) (fun x y h => by rw [field_Reader_End_link]; exact h) (kResB_ok (s := (.v (.int .i64))) (os := [(0, .box (.pair .bool (.pair .str (.pair (.int .i64) .unit))))]) (m := 0))

abbrev field_Reader_End_nil_R : Type := Int

noncomputable def field_Reader_End_nil_body : Code := (Go.Proofs.Try.f31.body).getD .skip

noncomputable def field_Reader_End_nil_L : List (List Nat × List Nat) := [([0], [0]), ([0, 0, 1], [5, 0]), ([1, 0, 1], [0]), ([0, 1, 0, 1], [0]), ([0, 1, 1], [2]), ([1, 1, 1], [2])]

noncomputable def field_Reader_End_nil_E (N : Nat) : Env := mkEnv tys noGlob [(52, field_Reader_Err_nil_all N), (37, field_Reader_Fail_nil_all N), (51, field_Reader_Left_nil_all N)] [] [] [] false [] []

theorem field_Reader_End_nil_Eok (N : Nat) : EnvOk Go.Proofs.Try.prog (field_Reader_End_nil_E N) := mkEnv_ok mixed tys_ok (FnsOk.cons (field_Reader_Err_nil_allct N) (FnsOk.cons (field_Reader_Fail_nil_allct N) (FnsOk.cons (field_Reader_Left_nil_allct N) (FnsOk.nil)))) (ItsOk.nil)

noncomputable def field_Reader_End_nil_p1 (N : Nat) (k0 : Option Int) : Option Int :=
  k0

noncomputable def field_Reader_End_nil_g1 (N : Nat) (x : denS [(0, .nilp)]) (K : Ex → List A → Option Int) : Option Int :=
  field_Reader_End_nil_p1 N (K .normal (mkS [(0, .nilp)] 9 ((), ())))

noncomputable def field_Reader_End_nil_h1 (N : Nat) : Hd Int := fun st K => (unS [(0, .nilp)] 9 (restr [0] 0 st)).bind fun x => field_Reader_End_nil_g1 N x K

noncomputable def field_Reader_End_nil_t1 (N : Nat) : Tab Int := []

theorem field_Reader_End_nil_ok1 {N : Nat} {c : Ctx} (hb : Base Go.Proofs.Try.prog (field_Reader_End_nil_E N) c) : CodeOk Go.Proofs.Try.prog c (nodeAt field_Reader_End_nil_body [0, 1]) (field_Reader_End_nil_h1 N) :=
  piece_ok (s := [(0, .nilp)]) (m := 9) (g := field_Reader_End_nil_g1 N) [0] (evN_sound hb N (field_Reader_End_nil_t1 N) field_Reader_End_nil_L field_Reader_End_nil_body TabOk.nil [0, 1] _ rfl) (fun x K => by kernel_rfl)

noncomputable def field_Reader_End_nil (N : Nat) : Option Int :=
  field_Reader_End_nil_p1 N
  (some (21 : Int))

noncomputable def field_Reader_End_nil_t (N : Nat) : Tab Int := [([0, 1], field_Reader_End_nil_h1 N)]

theorem field_Reader_End_nil_link (N : Nat) (x : denS [(0, .nilp)]) : evFX (field_Reader_End_nil_E N) N (field_Reader_End_nil_t N) field_Reader_End_nil_L Go.Proofs.Try.f31 (mkS [(0, .nilp)] 0 x) (kRes (.v (.int .i64)) 1) = field_Reader_End_nil N := by kernel_rfl

noncomputable def field_Reader_End_nil_res (N : Nat) : List A → Res := resOf [(0, .nilp)] (fun x => field_Reader_End_nil N) (oRes (.v (.int .i64)) 1)

theorem field_Reader_End_nil_ct (N : Nat) : Contract Go.Proofs.Try.prog noGlob 31 (field_Reader_End_nil_res N) :=
  Contract.of (E := field_Reader_End_nil_E N) (H := field_Reader_End_nil_t N) (L := field_Reader_End_nil_L) (N := N) (body := field_Reader_End_nil_body) (K := (kRes (.v (.int .i64)) 1)) (field_Reader_End_nil_Eok N) Go.Proofs.Try.func31 (by kernel_rfl) (by decide) (fun _ hb => (TabOk.cons (field_Reader_End_nil_ok1 hb) TabOk.nil)) (fun x y h => by rw [field_Reader_End_nil_link]; exact h) (kRes_ok (s := (.v (.int .i64))) (m := 1))

noncomputable def field_Reader_End_nil_all (N : Nat) : List A → Res := resAlt [(0, .nilp)] (fun x => field_Reader_End_nil N) (oRes (.v (.int .i64)) 1) (field_Reader_End_res N)

theorem field_Reader_End_nil_allct (N : Nat) : Contract Go.Proofs.Try.prog noGlob 31 (field_Reader_End_nil_all N) := Contract.alt (field_Reader_End_nil_ct N) (field_Reader_End_ct N)

abbrev varint_whole_R : Type := (Int × Int × Int × Unit)

noncomputable def varint_whole_body : Code := (Go.Proofs.Try.f61.body).getD .skip

noncomputable def varint_whole_L : List (List Nat × List Nat) := [([0], [1, 2, 0]), ([0, 0, 1], [22, 0, 1]), ([1, 0, 1], [0, 1]), ([0, 0, 1, 0, 1], [6, 7, 8]), ([1, 0, 1, 0, 1], [6, 7, 8]), ([0, 1, 1], [6, 7, 8]), ([1, 1, 1], [6, 7, 8])]

noncomputable def varint_whole_E (N : Nat) : Env := mkEnv tys noGlob [] [] [] [] false [] []

theorem varint_whole_Eok (N : Nat) : EnvOk Go.Proofs.Try.prog (varint_whole_E N) := mkEnv_ok mixed tys_ok (FnsOk.nil) (ItsOk.nil)

noncomputable def varint_whole_p2 (N : Nat) (n : Int) (used : Int) (last : Int) (k0 : Bool → Option (Int × Int × Int × Unit)) : Option (Int × Int × Int × Unit) :=
  cond (decide ((1 : Int) < used))
  (cond (last == (0 : Int))
    (k0 true)
    (cond (used == (10 : Int))
      (k0 (decide ((1 : Int) < last)))
      (k0 false)))
  (cond (used == (10 : Int))
    (k0 (decide ((1 : Int) < last)))
    (k0 false))

noncomputable def varint_whole_g2 (N : Nat) (x : denS [(0, .v (.int .u64)), (0, .v (.int .i64)), (0, .v (.int .u8))]) (K : Ex → List A → Option (Int × Int × Int × Unit)) : Option (Int × Int × Int × Unit) :=
  varint_whole_p2 N x.1 x.2.1 x.2.2.1 (fun a2 => (K .normal (mkS [(0, .v (.int .u64)), (0, .v (.int .i64)), (20, .v .bool)] 2 (x.1, x.2.1, a2, ()))))

noncomputable def varint_whole_h2 (N : Nat) : Hd (Int × Int × Int × Unit) := fun st K => (unS [(0, .v (.int .u64)), (0, .v (.int .i64)), (0, .v (.int .u8))] 22 (restr [1, 2, 0] 0 st)).bind fun x => varint_whole_g2 N x K

noncomputable def varint_whole_t2 (N : Nat) : Tab (Int × Int × Int × Unit) := []

theorem varint_whole_ok2 {N : Nat} {c : Ctx} (hb : Base Go.Proofs.Try.prog (varint_whole_E N) c) : CodeOk Go.Proofs.Try.prog c (nodeAt varint_whole_body [0, 0, 1]) (varint_whole_h2 N) :=
  piece_ok (s := [(0, .v (.int .u64)), (0, .v (.int .i64)), (0, .v (.int .u8))]) (m := 22) (g := varint_whole_g2 N) [1, 2, 0] (evN_sound hb N (varint_whole_t2 N) varint_whole_L varint_whole_body TabOk.nil [0, 0, 1] _ rfl) (fun x K => by kernel_rfl)

noncomputable def varint_whole_p1 (N : Nat) (n : Int) (used : Int) (last : Int) (k0 : Int → Int → Int → Option (Int × Int × Int × Unit)) (k1 : Option (Int × Int × Int × Unit)) : Option (Int × Int × Int × Unit) :=
  varint_whole_p2 N n used last
  (fun x22 => cond x22
    (k0 (0 : Int) (0 : Int) (2 : Int))
    (k1))

noncomputable def varint_whole_g1 (N : Nat) (x : denS [(0, .v (.int .u64)), (0, .v (.int .i64)), (0, .v (.int .u8))]) (K : Ex → List A → Option (Int × Int × Int × Unit)) : Option (Int × Int × Int × Unit) :=
  varint_whole_p1 N x.1 x.2.1 x.2.2.1 (fun a0 a1 a2 => (K .ret (mkS [(6, .v (.int .u64)), (0, .v (.int .i64)), (0, .v (.int .i64))] 16 (a0, a1, a2, ())))) (K .normal (mkS [(0, .v (.int .u64)), (0, .v (.int .i64))] 23 (x.1, x.2.1, ())))

noncomputable def varint_whole_h1 (N : Nat) : Hd (Int × Int × Int × Unit) := fun st K => (unS [(0, .v (.int .u64)), (0, .v (.int .i64)), (0, .v (.int .u8))] 22 (restr [1, 2, 0] 0 st)).bind fun x => varint_whole_g1 N x K

noncomputable def varint_whole_t1 (N : Nat) : Tab (Int × Int × Int × Unit) := [([0, 0, 1], varint_whole_h2 N)]

theorem varint_whole_ok1 {N : Nat} {c : Ctx} (hb : Base Go.Proofs.Try.prog (varint_whole_E N) c) : CodeOk Go.Proofs.Try.prog c (nodeAt varint_whole_body [0, 1]) (varint_whole_h1 N) :=
  piece_ok (s := [(0, .v (.int .u64)), (0, .v (.int .i64)), (0, .v (.int .u8))]) (m := 22) (g := varint_whole_g1 N) [1, 2, 0] (evN_sound hb N (varint_whole_t1 N) varint_whole_L varint_whole_body (TabOk.cons (varint_whole_ok2 hb) TabOk.nil) [0, 1] _ rfl) (fun x K => by kernel_rfl)

noncomputable def varint_whole (N : Nat) (n : Int) (used : Int) (last : Int) : Option (Int × Int × Int × Unit) :=
  varint_whole_p1 N n used last
  (fun x6 x7 x8 => some (x6, (x7, (x8, ()))))
  (some (n, (used, ((0 : Int), ()))))

noncomputable def varint_whole_t (N : Nat) : Tab (Int × Int × Int × Unit) := [([0, 1], varint_whole_h1 N)]

theorem varint_whole_link (N : Nat) (x : denS [(0, .v (.int .u64)), (0, .v (.int .i64)), (0, .v (.int .u8))]) : evFX (varint_whole_E N) N (varint_whole_t N) varint_whole_L Go.Proofs.Try.f61 (mkS [(0, .v (.int .u64)), (0, .v (.int .i64)), (0, .v (.int .u8))] 0 x) (kRes (.tup [(.int .u64), (.int .i64), (.int .i64)]) 3) = varint_whole N x.1 x.2.1 x.2.2.1 := by kernel_rfl

noncomputable def varint_whole_res (N : Nat) : List A → Res := resOf [(0, .v (.int .u64)), (0, .v (.int .i64)), (0, .v (.int .u8))] (fun x => varint_whole N x.1 x.2.1 x.2.2.1) (oRes (.tup [(.int .u64), (.int .i64), (.int .i64)]) 3)

theorem varint_whole_ct (N : Nat) : Contract Go.Proofs.Try.prog noGlob 61 (varint_whole_res N) :=
  Contract.of (E := varint_whole_E N) (H := varint_whole_t N) (L := varint_whole_L) (N := N) (body := varint_whole_body) (K := (kRes (.tup [(.int .u64), (.int .i64), (.int .i64)]) 3)) (varint_whole_Eok N) Go.Proofs.Try.func61 (by kernel_rfl) (by decide) (fun _ hb => (TabOk.cons (varint_whole_ok1 hb) TabOk.nil)) (fun x y h => by rw [varint_whole_link]; exact h) (kRes_ok (s := (.tup [(.int .u64), (.int .i64), (.int .i64)])) (m := 3))

abbrev varint_Take_R : Type := (Int × Int × Int × Unit)

noncomputable def varint_Take_body : Code := (Go.Proofs.Try.f59.body).getD .skip

noncomputable def varint_Take_L : List (List Nat × List Nat) := [([0], [0, 2]), ([0, 0, 1], [9, 8, 2, 0]), ([0, 1, 0, 1], [9, 8, 2, 0]), ([0, 0, 0, 1, 0, 1], [10, 9, 2, 0, 8]), ([0, 1, 0, 0, 1, 0, 1], [9, 2, 0, 8]), ([1, 0, 1, 0, 0, 1, 0, 1], [0]), ([0, 0, 0, 1, 1, 0, 0, 1, 0, 1], [2, 0, 5, 9, 8]), ([0, 1, 0, 0, 1, 1, 0, 0, 1, 0, 1], [0, 5, 2, 9, 8]), ([0, 1, 1, 0, 0, 1, 1, 0, 0, 1, 0, 1], [25, 2, 5, 0, 9, 8]), ([1, 1, 1, 0, 0, 1, 1, 0, 0, 1, 0, 1], [9, 8, 2, 0]), ([0, 0, 1, 1, 1, 0, 0, 1, 1, 0, 0, 1, 0, 1], [2, 3, 4]), ([1, 0, 1, 1, 1, 0, 0, 1, 1, 0, 0, 1, 0, 1], [2, 3, 4]), ([0, 1, 1, 0, 0, 1, 0, 1], [9, 8, 2, 0]), ([1, 1, 1, 0, 0, 1, 0, 1], [9, 8, 2, 0]), ([1, 0, 1], [0]), ([0, 0, 1, 1], [39]), ([1, 0, 1, 1], []), ([0, 0, 1, 0, 1, 1], [2, 3, 4]), ([1, 0, 1, 0, 1, 1], [2, 3, 4]), ([0, 1, 1, 1], [2, 3, 4]), ([1, 1, 1, 1], [2, 3, 4])]

noncomputable def varint_Take_E (N : Nat) : Env := mkEnv tys noGlob [(61, varint_whole_res N)] [] [] [] false [] []

theorem varint_Take_Eok (N : Nat) : EnvOk Go.Proofs.Try.prog (varint_Take_E N) := mkEnv_ok mixed tys_ok (FnsOk.cons (varint_whole_ct N) (FnsOk.nil)) (ItsOk.nil)

noncomputable def varint_Take_s1 (N : Nat) (s : (List UInt8)) (x8 : Int) (n : Int) (x9 : Int) (rec : Int → Int → Option (Int × Int × Int × Unit)) (k0 : Int → Int → Int → Option (Int × Int × Int × Unit)) (k1 : Option (Int × Int × Int × Unit)) : Option (Int × Int × Int × Unit) :=
  cond (decide (x9 < x8))
  (cond (Go.Lift.inR x9 (List.length s))
    (cond (decide ((0 : Int) ≤ (Go.IntKind.wrap Go.IntKind.i64 ((7 : Int) * x9))))
      (cond (Go.Lift.inR x9 (List.length s))
        (cond (decide ((((UInt8.toNat (List.getD s (Int.toNat x9) (0 : UInt8))) : Nat) : Int) < (128 : Int)))
          (cond (Go.Lift.inR x9 (List.length s))
            ((varint_whole N (Go.Lift.bitsOp Go.BinOp.or Go.IntKind.u64 n (Go.Lift.shlI Go.IntKind.u64 (Go.IntKind.wrap Go.IntKind.u64 (Go.Lift.bitsOp Go.BinOp.andNot Go.IntKind.u8 (((UInt8.toNat (List.getD s (Int.toNat x9) (0 : UInt8))) : Nat) : Int) (128 : Int))) (Go.IntKind.wrap Go.IntKind.i64 ((7 : Int) * x9)))) (Go.IntKind.wrap Go.IntKind.i64 (x9 + (1 : Int))) (((UInt8.toNat (List.getD s (Int.toNat x9) (0 : UInt8))) : Nat) : Int)).bind fun y =>
              k0 y.1 y.2.1 y.2.2.1)
            (none))
          (rec (Go.Lift.bitsOp Go.BinOp.or Go.IntKind.u64 n (Go.Lift.shlI Go.IntKind.u64 (Go.IntKind.wrap Go.IntKind.u64 (Go.Lift.bitsOp Go.BinOp.andNot Go.IntKind.u8 (((UInt8.toNat (List.getD s (Int.toNat x9) (0 : UInt8))) : Nat) : Int) (128 : Int))) (Go.IntKind.wrap Go.IntKind.i64 ((7 : Int) * x9)))) (Go.IntKind.wrap Go.IntKind.i64 (x9 + (1 : Int)))))
        (none))
      (none))
    (none))
  (k1)

noncomputable def varint_Take_p1 (N : Nat) (s : (List UInt8)) (n : Int) (x8 : Int) (x9 : Int) (k0 : Int → Int → Int → Option (Int × Int × Int × Unit)) (k1 : Option (Int × Int × Int × Unit)) : Option (Int × Int × Int × Unit) :=
  iter (fun (v : (Int × Int)) r => varint_Take_s1 N s x8 v.1 v.2 (fun n x9 => (r (n, x9))) k0 k1) N (n, x9)

noncomputable def varint_Take_g1 (N : Nat) (i : ((List UInt8) × Int)) (v : (Int × Int)) (r : (Int × Int) → Option (Int × Int × Int × Unit)) (K : Ex → List A → Option (Int × Int × Int × Unit)) : Option (Int × Int × Int × Unit) :=
  varint_Take_s1 N i.1 i.2 v.1 v.2 (fun n x9 => (r (n, x9))) (fun a0 a1 a2 => (K .ret (mkS [(2, .v (.int .u64)), (0, .v (.int .i64)), (0, .v (.int .i64))] 35 (a0, a1, a2, ())))) (K (.exit 0) (mkS [(0, .v .str)] 39 (i.1, ())))

noncomputable def varint_Take_h1 (N : Nat) : Hd (Int × Int × Int × Unit) := fun st K => (unS [(0, .v .str), (1, .v (.int .u64)), (5, .v (.int .i64)), (0, .v (.int .i64))] 30 (restr [9, 8, 2, 0] 0 st)).bind fun x => iter (fun v r => varint_Take_g1 N ((fun x => (x.1, x.2.2.1)) x) v r K) N ((fun x => (x.2.1, x.2.2.2.1)) x)

noncomputable def varint_Take_t1 (N : Nat) : Tab (Int × Int × Int × Unit) := []

theorem varint_Take_ok1 {N : Nat} {c : Ctx} (hb : Base Go.Proofs.Try.prog (varint_Take_E N) c) : CodeOk Go.Proofs.Try.prog c (nodeAt varint_Take_body [0, 1, 0, 1]) (varint_Take_h1 N) :=
  loop_ok (s := [(0, .v .str), (1, .v (.int .u64)), (5, .v (.int .i64)), (0, .v (.int .i64))]) (m := 30) (varint_Take_g1 N) [9, 8, 2, 0] N (fun x => (x.1, x.2.2.1)) (fun x => (x.2.1, x.2.2.2.1)) (fun i v => (i.1, v.1, i.2, v.2, ())) (fun _ => rfl) (evN_sound hb N (varint_Take_t1 N) varint_Take_L varint_Take_body TabOk.nil [0, 0, 1, 0, 1] _ rfl) (fun i v r K => by kernel_rfl)

noncomputable def varint_Take (N : Nat) (s : (List UInt8)) : Option (Int × Int × Int × Unit) :=
  varint_Take_p1 N s (0 : Int) (if ((10 : Int) < (((List.length s) : Nat) : Int)) then (10 : Int) else (((List.length s) : Nat) : Int)) (0 : Int)
  (fun n used e => some (n, (used, (e, ()))))
  (cond (decide ((10 : Int) ≤ (((List.length s) : Nat) : Int)))
    (some ((0 : Int), ((0 : Int), ((2 : Int), ()))))
    (some ((0 : Int), ((0 : Int), ((1 : Int), ())))))

noncomputable def varint_Take_t (N : Nat) : Tab (Int × Int × Int × Unit) := [([0, 1, 0, 1], varint_Take_h1 N)]

theorem varint_Take_link (N : Nat) (x : denS [(0, .v .str)]) : evFX (varint_Take_E N) N (varint_Take_t N) varint_Take_L Go.Proofs.Try.f59 (mkS [(0, .v .str)] 0 x) (kRes (.tup [(.int .u64), (.int .i64), (.int .i64)]) 1) = varint_Take N x.1 := by kernel_rfl

noncomputable def varint_Take_res (N : Nat) : List A → Res := resOf [(0, .v .str)] (fun x => varint_Take N x.1) (oRes (.tup [(.int .u64), (.int .i64), (.int .i64)]) 1)

theorem varint_Take_ct (N : Nat) : Contract Go.Proofs.Try.prog noGlob 59 (varint_Take_res N) :=
  Contract.of (E := varint_Take_E N) (H := varint_Take_t N) (L := varint_Take_L) (N := N) (body := varint_Take_body) (K := (kRes (.tup [(.int .u64), (.int .i64), (.int .i64)]) 1)) (varint_Take_Eok N) Go.Proofs.Try.func59 (by kernel_rfl) (by decide) (fun _ hb => (TabOk.cons (varint_Take_ok1 hb) TabOk.nil)) (fun x y h => by rw [varint_Take_link]; exact h) (kRes_ok (s := (.tup [(.int .u64), (.int .i64), (.int .i64)])) (m := 1))

abbrev RdrT : T := .pair .bool (.pair .str (.pair (.int .i64) .unit))

/-- a reader's block, and what is shared beside it -/
def Rdr (w : World) (S : Hp) (b : Nat) (x : RdrT.den) : Prop := Sub S (hp w) ∧ S b = none ∧ ∃ E fr, w.heap[b]? = some (.cells #[.bool x.1, .string ⟨⟨x.2.1⟩⟩, .int .i64 x.2.2.1] E fr) ∧ Free #[Value.bool x.1, .string ⟨⟨x.2.1⟩⟩, .int .i64 x.2.2.1] fr

/-- a world behind another one, in which the reader has turned -/
def Fine (w : World) (S : Hp) (b : Nat) (x : RdrT.den) (w' : World) : Prop :=
  ∃ S', WF w (fun k => k = b) w' ∧ Sub S S' ∧ (∀ k, S' k ≠ none → S k ≠ none ∨ w.heap.size ≤ k) ∧ Rdr w' S' b x

theorem rdr_open {h S : Hp} {tv : Nat → Value} {x : RdrT.den} {v : Value} {o : List Nat} (hx : ARel h S tv (.box RdrT x) v o) :
    ∃ b E fr, o = [b] ∧ v = .pointer (some ⟨b, 0, none⟩) ∧ h b = some (.cells #[.bool x.1, .string ⟨⟨x.2.1⟩⟩, .int .i64 x.2.2.1] E fr) ∧ Free #[Value.bool x.1, .string ⟨⟨x.2.1⟩⟩, .int .i64 x.2.2.1] fr := by
  obtain ⟨b, cs, E, fr, bs, e, e', hb, hf, hr⟩ := hx
  obtain ⟨e1, c1, c2, hc, h1, c3, c4, hc', h2, c5, c6, hc'', h3, h4⟩ := RdO.rd RdrT x _ _ rfl hr
  have k1 : c1 = [.bool x.1] := h1
  have k2 : c3 = [.string ⟨⟨x.2.1⟩⟩] := h2
  have k3 : c5 = [.int .i64 x.2.2.1] := h3
  have k4 : c6 = [] := h4
  have hcs : cs = #[.bool x.1, .string ⟨⟨x.2.1⟩⟩, .int .i64 x.2.2.1] := by
    apply Array.toList_inj.1
    rw [hc, hc', hc'', k1, k2, k3, k4]
    rfl
  subst hcs
  subst e1
  exact ⟨b, E, fr, e, e', hb, hf⟩

theorem rdr_shut {h S : Hp} {tv : Nat → Value} {x : RdrT.den} {b E : Nat} {fr : Nat × Nat} (hb : h b = some (.cells #[.bool x.1, .string ⟨⟨x.2.1⟩⟩, .int .i64 x.2.2.1] E fr)) (hf : Free #[Value.bool x.1, .string ⟨⟨x.2.1⟩⟩, .int .i64 x.2.2.1] fr) :
    ARel h S tv (.box RdrT x) (.pointer (some ⟨b, 0, none⟩)) [b] := by
  refine ⟨b, _, E, fr, [], rfl, rfl, hb, hf, RdO.of_rd RdrT x _ ?_⟩
  exact ⟨[.bool x.1], _, rfl, rfl, [.string ⟨⟨x.2.1⟩⟩], _, rfl, rfl, [.int .i64 x.2.2.1], [], rfl, rfl, rfl⟩

theorem fine_of {w w' : World} {S : Hp} {b : Nat} {x x' : RdrT.den} {args : List A} {vals : List Value} {ob : Nat → List Nat} {r : A} {outs : List A} {e : Ending}
    (h0 : args[0]? = some (.box RdrT x)) (h1 : vals[0]? = some (.pointer (some ⟨b, 0, none⟩))) (h2 : ∀ i k, k ∈ ob i → k = b) (h3 : outs[0]? = some (.box RdrT x'))
    (h : Lift.Ends w S args vals ob r outs e w') : ∃ v o S', e = .returned v ∧ ARel (hp w') S' (fun _ => undef) r v o ∧ Fine w S b x' w' := by
  obtain ⟨v, S', o, ob', rfl, hwf, hSS, hSw, hnew, ⟨hr, _⟩, _, _, houts, hob, _⟩ := h
  obtain ⟨x1, v1, e1, e2, _, hA⟩ := houts 0 _ h0 rfl
  rw [h3] at e1
  rw [h1] at e2
  cases e1
  cases e2
  obtain ⟨b', E, fr, hb', hv', hcell, hfree⟩ := rdr_open hA
  cases hv'
  have hnone : S' b = none := (hob 0 b (by rw [hb']; exact List.mem_singleton.2 rfl)).2.1
  refine ⟨v, o, S', rfl, hr, S', ⟨hwf.size, fun k hk hn => hwf.same k hk (fun ⟨i, hi⟩ => hn (h2 i k hi)), hwf.tape, hwf.os, hwf.output⟩, hSS, fun k hk => ?_, hSw, hnone, E, fr, hcell, hfree⟩
  rcases hnew k hk with h | ⟨i, hi⟩ | h
  · exact .inl h
  · rw [h2 i k hi] at hk
    exact absurd hnone hk
  · exact .inr h

noncomputable def obR (b : Nat) : Nat → List Nat := fun i => if i = 0 then [b] else []

theorem obR_mem {b : Nat} : ∀ i k, k ∈ obR b i → k = b := by
  intro i k h
  unfold obR at h
  split at h
  · exact List.mem_singleton.1 h
  · cases h

theorem rdr_args {w : World} {S : Hp} {b : Nat} {x : RdrT.den} (h : Rdr w S b x) (l : List (A × Value)) (hl : ∀ p ∈ l, ARel (hp w) S (fun _ => undef) p.1 p.2 [] ∧ p.1.refs = []) :
    ArgsRel (hp w) S (.box RdrT x :: l.map (·.1)) (.pointer (some ⟨b, 0, none⟩) :: l.map (·.2)) (obR b) := by
  obtain ⟨hS, hn, E, fr, hc, hf⟩ := h
  refine ⟨by simp, fun i y hy => ?_, fun i hi => ?_, fun i j k hi hj => ?_, fun i => ?_, fun i k hk => ?_⟩
  · match i with
    | 0 =>
      simp at hy
      subst hy
      exact ⟨⟨_, rfl, rdr_shut hc hf⟩, rfl⟩
    | i + 1 =>
      simp only [List.getElem?_cons_succ, List.getElem?_map] at hy ⊢
      cases hp : l[i]? with
      | none => rw [hp] at hy; cases hy
      | some p =>
        rw [hp] at hy
        cases hy
        have := hl p (List.mem_of_getElem? hp)
        exact ⟨⟨p.2, rfl, this.1⟩, this.2⟩
  · have : i ≠ 0 := by
      intro h0
      subst h0
      simp at hi
    unfold obR
    rw [if_neg this]
  · unfold obR at hi hj
    split at hi
    · split at hj
      · omega
      · cases hj
    · cases hi
  · unfold obR
    split
    · exact List.nodup_cons.2 ⟨by simp, List.nodup_nil⟩
    · exact List.nodup_nil
  · rw [obR_mem i k hk]
    exact hn

theorem glob_none (S : Hp) : GlobOk noGlob S := fun g d h => by cases h

theorem reads_call (N : Nat) {w : World} {S : Hp} {b : Nat} {x : RdrT.den} (h : Rdr w S b x) :
    Calls Try.prog 47 #[.pointer (some ⟨b, 0, none⟩)] w fun r w' => r = .returned (.bool (x.1 && (x.2.2.1 == 0))) ∧ Fine w S b x w' := by
  have hy : field_Reader_reads N x = some (x.1 && (x.2.2.1 == 0), (x, ())) := by
    unfold field_Reader_reads
    cases x.1 <;> rfl
  have hc := (field_Reader_reads_ct N).2 w S _ _ _ (rdr_args h [] (fun _ hp => by cases hp)) h.1 (glob_none S) _ hy
  refine hc.mono ?_
  intro e w' he
  obtain ⟨v, o, S', rfl, hr, hf⟩ := fine_of rfl rfl obR_mem rfl he
  exact ⟨by rw [VR.bool_inv hr.1], hf⟩

noncomputable def failS (x : RdrT.den) (e : Int) : RdrT.den := cond (x.1 && (x.2.2.1 == 0) && (e != 0)) (x.1, [], e, ()) x

theorem fail_call (N : Nat) {w : World} {S : Hp} {b : Nat} {x : RdrT.den} (h : Rdr w S b x) (e : Int) :
    Calls Try.prog 37 #[.pointer (some ⟨b, 0, none⟩), .int .i64 e] w fun r w' => (∃ v, r = .returned v) ∧ Fine w S b (failS x e) w' := by
  have hy : field_Reader_Fail N x e = some ((), (failS x e, ())) := by
    have hr : field_Reader_reads N x = some (x.1 && (x.2.2.1 == 0), (x, ())) := by
      unfold field_Reader_reads
      cases x.1 <;> rfl
    unfold field_Reader_Fail field_Reader_Fail_p1 failS
    rw [hr, Option.bind_some]
    cases (x.1 && (x.2.2.1 == 0)) <;> cases (e != 0) <;> rfl
  have hc := (field_Reader_Fail_ct N).2 w S _ _ _ (rdr_args h [(.v (.int .i64) e, .int .i64 e)] (fun p hp => by
    rw [List.mem_singleton.1 hp]; exact ⟨⟨VR.int, rfl⟩, rfl⟩)) h.1 (glob_none S) _ hy
  refine hc.mono ?_
  intro r w' he
  obtain ⟨v, o, S', rfl, hr, hf⟩ := fine_of rfl rfl obR_mem rfl he
  exact ⟨⟨v, rfl⟩, hf⟩

theorem tup_inv {S : Hp} {d : Dat} {l : List Dat} {vs : List Value} (h : TupRel S (d :: l) vs) : ∃ v w, vs = v :: w ∧ VR S d.1 d.2 v ∧ TupRel S l w := by
  cases h with
  | cons a b => exact ⟨_, _, rfl, a, b⟩

theorem take_call (N : Nat) {w : World} {S : Hp} (hS : Sub S (hp w)) {s : List UInt8} {y : Int × Int × Int × Unit} (hy : varint_Take N s = some y) :
    Calls Try.prog 59 #[.string ⟨⟨s⟩⟩] w fun r w' => r = .returned (.tuple #[.int .u64 y.1, .int .i64 y.2.1, .int .i64 y.2.2.1]) ∧
      ∃ S', WF w (fun _ => False) w' ∧ Sub S S' ∧ Sub S' (hp w') ∧ ∀ k, S' k ≠ none → S k ≠ none ∨ w.heap.size ≤ k := by
  have h := (varint_Take_ct N).2 w S (mkS [(0, .v .str)] 0 (s, ())) [.string ⟨⟨s⟩⟩] (fun _ => []) ⟨rfl, fun i x hx => ?_, fun _ _ => rfl, (fun i j b hb => by cases hb), fun _ => .nil, (fun i b hb => by cases hb)⟩ hS (glob_none S) y hy
  · refine h.mono ?_
    rintro r w' ⟨v, S', o, ob', rfl, hwf, h3, h4, h5, ⟨⟨_, ⟨vs⟩, rfl, ht⟩, _⟩, _⟩
    refine ⟨?_, S', ⟨hwf.size, fun k hk _ => hwf.same k hk (by rintro ⟨i, hi⟩; cases hi), hwf.tape, hwf.os, hwf.output⟩, h3, h4, fun b hb => ?_⟩
    · obtain ⟨n, u, e, _⟩ := y
      have ht : TupRel S' [⟨.int .u64, n⟩, ⟨.int .i64, u⟩, ⟨.int .i64, e⟩] vs := ht
      obtain ⟨v1, w1, rfl, q1, ht⟩ := tup_inv ht
      obtain ⟨v2, w2, rfl, q2, ht⟩ := tup_inv ht
      obtain ⟨v3, w3, rfl, q3, ht⟩ := tup_inv ht
      have e0 : w3 = [] := by cases ht; rfl
      subst e0
      rw [VR.int_inv q1, VR.int_inv q2, VR.int_inv q3]
    · rcases h5 b hb with h | ⟨i, hi⟩ | h
      · exact .inl h
      · cases hi
      · exact .inr h
  · match i with
    | 0 => simp [mkS, deads, AS.mk] at hx; subst hx; exact ⟨⟨_, rfl, VR.str, rfl⟩, rfl⟩
    | i + 1 => simp [mkS, deads] at hx

theorem str_cut (s : List UInt8) (i j : Nat) : (⟨⟨s⟩⟩ : ByteArray).extract i j = ⟨⟨(s.drop i).take (j - i)⟩⟩ := by
  apply ByteArray.ext
  rw [ByteArray.data_extract]
  apply Array.toList_inj.1
  rw [Array.toList_extract]

theorem take_walk {w : World} {b : Nat} {s : List UInt8} {n : Int} (c1 : w.cell? ⟨b, 1, none⟩ = some (.string ⟨⟨s⟩⟩)) (z1 : w.frozen? ⟨b, 1, none⟩ = false) (hn : 0 ≤ n) (hle : n ≤ Go.IntKind.wrap .u64 s.length) (hl : n ≤ s.length) :
    Calls Try.prog 48 #[.pointer (some ⟨b, 0, none⟩), .int .u64 n] w fun r w' => r = .returned (.string ⟨⟨s.take n.toNat⟩⟩) ∧ w' = w.setCell ⟨b, 1, none⟩ (.string ⟨⟨s.drop n.toNat⟩⟩) := by
  go_enter Try.func48, Try.ntmps48
  go_wp2
  go_ret
  rw [str_cut, str_cut]
  refine ⟨?_, ?_⟩
  · simp
  · rw [List.take_of_length_le (by rw [List.length_drop]; omega)]

theorem take_stop {w : World} {b : Nat} {s : List UInt8} {n : Int} (c1 : w.cell? ⟨b, 1, none⟩ = some (.string ⟨⟨s⟩⟩)) (z1 : w.frozen? ⟨b, 1, none⟩ = false) (hle : ¬ n ≤ Go.IntKind.wrap .u64 s.length) :
    Calls Try.prog 48 #[.pointer (some ⟨b, 0, none⟩), .int .u64 n] w fun r w' => r = .panicked [{ v := .iface 24 (.int .i64 1), recovered := false }] ∧ w' = w := by
  go_enter Try.func48, Try.ntmps48
  go_wp2
  exact ⟨rfl, rfl, rfl⟩

theorem number_walk {w : World} {b : Nat} {s : List UInt8} {most n u e : Int} {R : World → Prop} (c1 : w.cell? ⟨b, 1, none⟩ = some (.string ⟨⟨s⟩⟩))
    (hc : Calls Try.prog 59 #[.string ⟨⟨s⟩⟩] w fun r w1 => r = .returned (.tuple #[.int .u64 n, .int .i64 u, .int .i64 e]) ∧ R w1)
    (hR : ∀ w1, R w1 → w1.cell? ⟨b, 1, none⟩ = some (.string ⟨⟨s⟩⟩) ∧ w1.frozen? ⟨b, 1, none⟩ = false)
    (he : e = 0) (hm : n ≤ most) (hu : 0 ≤ u) (hl : u ≤ s.length) :
    Calls Try.prog 50 #[.pointer (some ⟨b, 0, none⟩), .int .u64 most] w fun r w' => r = .returned (.int .u64 n) ∧ ∃ w1, R w1 ∧ w' = w1.setCell ⟨b, 1, none⟩ (.string ⟨⟨s.drop u.toNat⟩⟩) := by
  subst he
  go_enter Try.func50, Try.ntmps50
  go_wp2_with (go_at_call 59; refine hc.mono ?_; rintro r w1 ⟨rfl, hr1⟩; obtain ⟨d1, z1⟩ := hR w1 hr1; clear hc hR)
  go_ret
  rw [str_cut]
  refine ⟨rfl, w1, hr1, ?_⟩
  rw [List.take_of_length_le (by rw [List.length_drop]; omega)]

theorem number_stop {w : World} {b : Nat} {s : List UInt8} {most n u e : Int} {R : World → Prop} (c1 : w.cell? ⟨b, 1, none⟩ = some (.string ⟨⟨s⟩⟩))
    (hc : Calls Try.prog 59 #[.string ⟨⟨s⟩⟩] w fun r w1 => r = .returned (.tuple #[.int .u64 n, .int .i64 u, .int .i64 e]) ∧ R w1) (he : e ≠ 0) :
    Calls Try.prog 50 #[.pointer (some ⟨b, 0, none⟩), .int .u64 most] w fun r w' => r = .panicked [{ v := .iface 24 (.int .i64 e), recovered := false }] ∧ R w' := by
  go_enter Try.func50, Try.ntmps50
  go_wp2_with (go_at_call 59; refine hc.mono ?_; rintro r w1 ⟨rfl, hr1⟩; clear hc)
  exact ⟨rfl, rfl, hr1⟩

theorem number_over {w : World} {b : Nat} {s : List UInt8} {most n u e : Int} {R : World → Prop} (c1 : w.cell? ⟨b, 1, none⟩ = some (.string ⟨⟨s⟩⟩))
    (hc : Calls Try.prog 59 #[.string ⟨⟨s⟩⟩] w fun r w1 => r = .returned (.tuple #[.int .u64 n, .int .i64 u, .int .i64 e]) ∧ R w1) (he : e = 0) (hm : ¬ n ≤ most) :
    Calls Try.prog 50 #[.pointer (some ⟨b, 0, none⟩), .int .u64 most] w fun r w' => r = .panicked [{ v := .iface 24 (.int .i64 3), recovered := false }] ∧ R w' := by
  subst he
  go_enter Try.func50, Try.ntmps50
  go_wp2_with (go_at_call 59; refine hc.mono ?_; rintro r w1 ⟨rfl, hr1⟩; clear hc)
  exact ⟨rfl, rfl, hr1⟩

theorem caught_idle {w : World} {p : Value} :
    Calls Try.prog 46 #[p, .nilIface] w fun r w' => (∃ v, r = .returned v) ∧ w' = w := by
  have ha : ∀ W : World, (Instr.typeAssert .nilIface 20 24 true).run Try.prog W = .ok (.tuple #[.int .i64 0, .bool false]) W := fun W => by kernel_rfl
  go_enter Try.func46, Try.ntmps46
  go_wp2
  go_end0
  exact ⟨⟨_, rfl⟩, rfl⟩

theorem caught_err {w : World} {p : Value} {e : Int} {R : World → Prop}
    (hc : Calls Try.prog 37 #[p, .int .i64 e] w fun r w1 => (∃ v, r = .returned v) ∧ R w1) :
    Calls Try.prog 46 #[p, .iface 24 (.int .i64 e)] w fun r w' => (∃ v, r = .returned v) ∧ R w' := by
  have ha : ∀ W : World, (Instr.typeAssert (.iface 24 (.int .i64 e)) 20 24 true).run Try.prog W = .ok (.tuple #[.int .i64 e, .bool true]) W := fun W => by kernel_rfl
  go_enter Try.func46, Try.ntmps46
  go_wp2_with (go_at_call 37; refine hc.mono ?_; rintro r w1 ⟨⟨v, rfl⟩, hr1⟩; clear hc)
  go_end0
  exact ⟨⟨_, rfl⟩, hr1⟩

theorem wpS_region_draw {P : Program} {Q : Exit → Act → List Frame → World → Prop} {a : Act} {cs : List Frame} {w : World} {id : Nat} {ops : Array Oper}
    (h : ∀ t, wpOpsS P ops Q (Region.schedule (P.follows .mixedOrders) ops t) a cs { w with drawn := w.drawn + 1 }) : (Code.region id ops true).wpS P Q a cs w :=
  fun b k hb hr => let ⟨e, a', cs', w', q, r⟩ := wp_opsS _ a cs _ (h _) b k hb hr; ⟨e, a', cs', w', q, .of_steps (.one step_region_draw) r⟩

noncomputable def rdB_ops : Array Oper := match Try.f45.body with
  | some (.region _ ops _) => ops
  | _ => #[]

theorem rdB_sched (t : Nat) : Region.schedule true rdB_ops t = [0, 1, 2] ∨ Region.schedule true rdB_ops t = [1, 0, 2] := by
  have h0 : Region.schedule true rdB_ops t = (match ([0, 1] : List Nat)[t % 2]? with | some i => Region.linearise.go .any rdB_ops 2 (t / 2) ((Array.replicate 3 false).setIfInBounds i true) [i] | none => []) := by kernel_rfl
  have h1 : ∀ u, Region.linearise.go .any rdB_ops 2 u #[true, false, false] [0] = (match ([1] : List Nat)[u % 1]? with | some i => Region.linearise.go .any rdB_ops 1 (u / 1) (#[true, false, false].setIfInBounds i true) [i, 0] | none => [0]) := fun u => by kernel_rfl
  have h2 : ∀ u, Region.linearise.go .any rdB_ops 1 u #[true, true, false] [1, 0] = (match ([2] : List Nat)[u % 1]? with | some i => [0, 1, i] | none => [0, 1]) := fun u => by kernel_rfl
  have h3 : ∀ u, Region.linearise.go .any rdB_ops 2 u #[false, true, false] [1] = (match ([0] : List Nat)[u % 1]? with | some i => Region.linearise.go .any rdB_ops 1 (u / 1) (#[false, true, false].setIfInBounds i true) [i, 1] | none => [1]) := fun u => by kernel_rfl
  have h4 : ∀ u, Region.linearise.go .any rdB_ops 1 u #[true, true, false] [0, 1] = (match ([2] : List Nat)[u % 1]? with | some i => [1, 0, i] | none => [1, 0]) := fun u => by kernel_rfl
  rcases Nat.mod_two_eq_zero_or_one t with h | h
  · left
    rw [h0, h]
    have e1 := h1 (t / 2)
    rw [Nat.mod_one] at e1
    have e2 := h2 (t / 2 / 1)
    rw [Nat.mod_one] at e2
    exact e1.trans e2
  · right
    rw [h0, h]
    have e1 := h3 (t / 2)
    rw [Nat.mod_one] at e1
    have e2 := h4 (t / 2 / 1)
    rw [Nat.mod_one] at e2
    exact e1.trans e2

theorem rdB_idle {w : World} {n : Nat} {p : Value} (hc : w.cell? ⟨n, 0, none⟩ = some p) :
    CallsD Try.prog 45 #[.pointer (some ⟨n, 0, none⟩)] .returning w fun e u w' => (∃ v, e = .returned v) ∧ u = .returning ∧ w' = w.drew := by
  refine callsD_of_wpS Try.func45 rfl fun c₀ cs hu => ?_
  apply wpS_region_draw
  intro t
  have hm : Try.prog.follows .mixedOrders = true := mixed
  rw [hm]
  generalize hl : Region.schedule true _ t = l
  have hl2 : l = [0, 1, 2] ∨ l = [1, 0, 2] := by rw [← hl]; exact rdB_sched t
  clear hl
  simp only [Try.ntmps45, List.size_toArray, List.length_cons, List.length_nil, Nat.reduceAdd, Nat.reduceSub, Array.replicate_succ,
     Array.replicate_zero, List.push_toArray, List.append_toArray, List.nil_append, List.cons_append]
  rcases hl2 with rfl | rfl
  · simp [wpOpsS, go_sem, recoverD, hu, hc, Exit.thenS]
    refine caught_idle.mono ?_
    rintro r w' ⟨⟨v, rfl⟩, rfl⟩
    cases c₀
    simp_all [bodyPostS, results, Try.results45]
  · simp [wpOpsS, go_sem, recoverD, hu, hc, Exit.thenS]
    refine caught_idle.mono ?_
    rintro r w' ⟨⟨v, rfl⟩, rfl⟩
    cases c₀
    simp_all [bodyPostS, results, Try.results45]

theorem rdB_caught {w : World} {n : Nat} {p : Value} {e : Int} {R : World → Prop} (hc : w.cell? ⟨n, 0, none⟩ = some p)
    (hf : Calls Try.prog 37 #[p, .int .i64 e] w.drew fun r w1 => (∃ v, r = .returned v) ∧ R w1) :
    CallsD Try.prog 45 #[.pointer (some ⟨n, 0, none⟩)] (.panicking [{ v := .iface 24 (.int .i64 e), recovered := false }]) w fun r u w' =>
      (∃ v, r = .returned v) ∧ u = .panicking [{ v := .iface 24 (.int .i64 e), recovered := true }] ∧ R w' := by
  refine callsD_of_wpS Try.func45 rfl fun c₀ cs hu => ?_
  apply wpS_region_draw
  intro t
  have hm : Try.prog.follows .mixedOrders = true := mixed
  rw [hm]
  generalize hl : Region.schedule true _ t = l
  have hl2 : l = [0, 1, 2] ∨ l = [1, 0, 2] := by rw [← hl]; exact rdB_sched t
  clear hl
  simp only [Try.ntmps45, List.size_toArray, List.length_cons, List.length_nil, Nat.reduceAdd, Nat.reduceSub, Array.replicate_succ,
     Array.replicate_zero, List.push_toArray, List.append_toArray, List.nil_append, List.cons_append]
  have hk := caught_err hf
  rcases hl2 with rfl | rfl
  · simp [wpOpsS, go_sem, recoverD, hu, hc, Exit.thenS]
    refine hk.mono ?_
    rintro r w' ⟨⟨v, rfl⟩, hr⟩
    cases c₀
    simp_all [bodyPostS, results, Try.results45]
  · simp [wpOpsS, go_sem, recoverD, hu, hc, Exit.thenS]
    refine hk.mono ?_
    rintro r w' ⟨⟨v, rfl⟩, hr⟩
    cases c₀
    simp_all [bodyPostS, results, Try.results45]

noncomputable def rdN_ops : Array Oper := match Try.f54.body with
  | some (.region _ ops _) => ops
  | _ => #[]

theorem rdN_sched (t : Nat) : Region.schedule true rdN_ops t = [0, 1, 2] ∨ Region.schedule true rdN_ops t = [1, 0, 2] := by
  have h0 : Region.schedule true rdN_ops t = (match ([0, 1] : List Nat)[t % 2]? with | some i => Region.linearise.go .any rdN_ops 2 (t / 2) ((Array.replicate 3 false).setIfInBounds i true) [i] | none => []) := by kernel_rfl
  have h1 : ∀ u, Region.linearise.go .any rdN_ops 2 u #[true, false, false] [0] = (match ([1] : List Nat)[u % 1]? with | some i => Region.linearise.go .any rdN_ops 1 (u / 1) (#[true, false, false].setIfInBounds i true) [i, 0] | none => [0]) := fun u => by kernel_rfl
  have h2 : ∀ u, Region.linearise.go .any rdN_ops 1 u #[true, true, false] [1, 0] = (match ([2] : List Nat)[u % 1]? with | some i => [0, 1, i] | none => [0, 1]) := fun u => by kernel_rfl
  have h3 : ∀ u, Region.linearise.go .any rdN_ops 2 u #[false, true, false] [1] = (match ([0] : List Nat)[u % 1]? with | some i => Region.linearise.go .any rdN_ops 1 (u / 1) (#[false, true, false].setIfInBounds i true) [i, 1] | none => [1]) := fun u => by kernel_rfl
  have h4 : ∀ u, Region.linearise.go .any rdN_ops 1 u #[true, true, false] [0, 1] = (match ([2] : List Nat)[u % 1]? with | some i => [1, 0, i] | none => [1, 0]) := fun u => by kernel_rfl
  rcases Nat.mod_two_eq_zero_or_one t with h | h
  · left
    rw [h0, h]
    have e1 := h1 (t / 2)
    rw [Nat.mod_one] at e1
    have e2 := h2 (t / 2 / 1)
    rw [Nat.mod_one] at e2
    exact e1.trans e2
  · right
    rw [h0, h]
    have e1 := h3 (t / 2)
    rw [Nat.mod_one] at e1
    have e2 := h4 (t / 2 / 1)
    rw [Nat.mod_one] at e2
    exact e1.trans e2

theorem rdN_idle {w : World} {n : Nat} {p : Value} (hc : w.cell? ⟨n, 0, none⟩ = some p) :
    CallsD Try.prog 54 #[.pointer (some ⟨n, 0, none⟩)] .returning w fun e u w' => (∃ v, e = .returned v) ∧ u = .returning ∧ w' = w.drew := by
  refine callsD_of_wpS Try.func54 rfl fun c₀ cs hu => ?_
  apply wpS_region_draw
  intro t
  have hm : Try.prog.follows .mixedOrders = true := mixed
  rw [hm]
  generalize hl : Region.schedule true _ t = l
  have hl2 : l = [0, 1, 2] ∨ l = [1, 0, 2] := by rw [← hl]; exact rdN_sched t
  clear hl
  simp only [Try.ntmps54, List.size_toArray, List.length_cons, List.length_nil, Nat.reduceAdd, Nat.reduceSub, Array.replicate_succ,
     Array.replicate_zero, List.push_toArray, List.append_toArray, List.nil_append, List.cons_append]
  rcases hl2 with rfl | rfl
  · simp [wpOpsS, go_sem, recoverD, hu, hc, Exit.thenS]
    refine caught_idle.mono ?_
    rintro r w' ⟨⟨v, rfl⟩, rfl⟩
    cases c₀
    simp_all [bodyPostS, results, Try.results54]
  · simp [wpOpsS, go_sem, recoverD, hu, hc, Exit.thenS]
    refine caught_idle.mono ?_
    rintro r w' ⟨⟨v, rfl⟩, rfl⟩
    cases c₀
    simp_all [bodyPostS, results, Try.results54]

theorem rdN_caught {w : World} {n : Nat} {p : Value} {e : Int} {R : World → Prop} (hc : w.cell? ⟨n, 0, none⟩ = some p)
    (hf : Calls Try.prog 37 #[p, .int .i64 e] w.drew fun r w1 => (∃ v, r = .returned v) ∧ R w1) :
    CallsD Try.prog 54 #[.pointer (some ⟨n, 0, none⟩)] (.panicking [{ v := .iface 24 (.int .i64 e), recovered := false }]) w fun r u w' =>
      (∃ v, r = .returned v) ∧ u = .panicking [{ v := .iface 24 (.int .i64 e), recovered := true }] ∧ R w' := by
  refine callsD_of_wpS Try.func54 rfl fun c₀ cs hu => ?_
  apply wpS_region_draw
  intro t
  have hm : Try.prog.follows .mixedOrders = true := mixed
  rw [hm]
  generalize hl : Region.schedule true _ t = l
  have hl2 : l = [0, 1, 2] ∨ l = [1, 0, 2] := by rw [← hl]; exact rdN_sched t
  clear hl
  simp only [Try.ntmps54, List.size_toArray, List.length_cons, List.length_nil, Nat.reduceAdd, Nat.reduceSub, Array.replicate_succ,
     Array.replicate_zero, List.push_toArray, List.append_toArray, List.nil_append, List.cons_append]
  have hk := caught_err hf
  rcases hl2 with rfl | rfl
  · simp [wpOpsS, go_sem, recoverD, hu, hc, Exit.thenS]
    refine hk.mono ?_
    rintro r w' ⟨⟨v, rfl⟩, hr⟩
    cases c₀
    simp_all [bodyPostS, results, Try.results54]
  · simp [wpOpsS, go_sem, recoverD, hu, hc, Exit.thenS]
    refine hk.mono ?_
    rintro r w' ⟨⟨v, rfl⟩, hr⟩
    cases c₀
    simp_all [bodyPostS, results, Try.results54]

noncomputable def rdT_ops : Array Oper := match Try.f49.body with
  | some (.region _ ops _) => ops
  | _ => #[]

theorem rdT_sched (t : Nat) : Region.schedule true rdT_ops t = [0, 1, 2] ∨ Region.schedule true rdT_ops t = [1, 0, 2] := by
  have h0 : Region.schedule true rdT_ops t = (match ([0, 1] : List Nat)[t % 2]? with | some i => Region.linearise.go .any rdT_ops 2 (t / 2) ((Array.replicate 3 false).setIfInBounds i true) [i] | none => []) := by kernel_rfl
  have h1 : ∀ u, Region.linearise.go .any rdT_ops 2 u #[true, false, false] [0] = (match ([1] : List Nat)[u % 1]? with | some i => Region.linearise.go .any rdT_ops 1 (u / 1) (#[true, false, false].setIfInBounds i true) [i, 0] | none => [0]) := fun u => by kernel_rfl
  have h2 : ∀ u, Region.linearise.go .any rdT_ops 1 u #[true, true, false] [1, 0] = (match ([2] : List Nat)[u % 1]? with | some i => [0, 1, i] | none => [0, 1]) := fun u => by kernel_rfl
  have h3 : ∀ u, Region.linearise.go .any rdT_ops 2 u #[false, true, false] [1] = (match ([0] : List Nat)[u % 1]? with | some i => Region.linearise.go .any rdT_ops 1 (u / 1) (#[false, true, false].setIfInBounds i true) [i, 1] | none => [1]) := fun u => by kernel_rfl
  have h4 : ∀ u, Region.linearise.go .any rdT_ops 1 u #[true, true, false] [0, 1] = (match ([2] : List Nat)[u % 1]? with | some i => [1, 0, i] | none => [1, 0]) := fun u => by kernel_rfl
  rcases Nat.mod_two_eq_zero_or_one t with h | h
  · left
    rw [h0, h]
    have e1 := h1 (t / 2)
    rw [Nat.mod_one] at e1
    have e2 := h2 (t / 2 / 1)
    rw [Nat.mod_one] at e2
    exact e1.trans e2
  · right
    rw [h0, h]
    have e1 := h3 (t / 2)
    rw [Nat.mod_one] at e1
    have e2 := h4 (t / 2 / 1)
    rw [Nat.mod_one] at e2
    exact e1.trans e2

theorem rdT_idle {w : World} {n : Nat} {p : Value} (hc : w.cell? ⟨n, 0, none⟩ = some p) :
    CallsD Try.prog 49 #[.pointer (some ⟨n, 0, none⟩)] .returning w fun e u w' => (∃ v, e = .returned v) ∧ u = .returning ∧ w' = w.drew := by
  refine callsD_of_wpS Try.func49 rfl fun c₀ cs hu => ?_
  apply wpS_region_draw
  intro t
  have hm : Try.prog.follows .mixedOrders = true := mixed
  rw [hm]
  generalize hl : Region.schedule true _ t = l
  have hl2 : l = [0, 1, 2] ∨ l = [1, 0, 2] := by rw [← hl]; exact rdT_sched t
  clear hl
  simp only [Try.ntmps49, List.size_toArray, List.length_cons, List.length_nil, Nat.reduceAdd, Nat.reduceSub, Array.replicate_succ,
     Array.replicate_zero, List.push_toArray, List.append_toArray, List.nil_append, List.cons_append]
  rcases hl2 with rfl | rfl
  · simp [wpOpsS, go_sem, recoverD, hu, hc, Exit.thenS]
    refine caught_idle.mono ?_
    rintro r w' ⟨⟨v, rfl⟩, rfl⟩
    cases c₀
    simp_all [bodyPostS, results, Try.results49]
  · simp [wpOpsS, go_sem, recoverD, hu, hc, Exit.thenS]
    refine caught_idle.mono ?_
    rintro r w' ⟨⟨v, rfl⟩, rfl⟩
    cases c₀
    simp_all [bodyPostS, results, Try.results49]

theorem rdT_caught {w : World} {n : Nat} {p : Value} {e : Int} {R : World → Prop} (hc : w.cell? ⟨n, 0, none⟩ = some p)
    (hf : Calls Try.prog 37 #[p, .int .i64 e] w.drew fun r w1 => (∃ v, r = .returned v) ∧ R w1) :
    CallsD Try.prog 49 #[.pointer (some ⟨n, 0, none⟩)] (.panicking [{ v := .iface 24 (.int .i64 e), recovered := false }]) w fun r u w' =>
      (∃ v, r = .returned v) ∧ u = .panicking [{ v := .iface 24 (.int .i64 e), recovered := true }] ∧ R w' := by
  refine callsD_of_wpS Try.func49 rfl fun c₀ cs hu => ?_
  apply wpS_region_draw
  intro t
  have hm : Try.prog.follows .mixedOrders = true := mixed
  rw [hm]
  generalize hl : Region.schedule true _ t = l
  have hl2 : l = [0, 1, 2] ∨ l = [1, 0, 2] := by rw [← hl]; exact rdT_sched t
  clear hl
  simp only [Try.ntmps49, List.size_toArray, List.length_cons, List.length_nil, Nat.reduceAdd, Nat.reduceSub, Array.replicate_succ,
     Array.replicate_zero, List.push_toArray, List.append_toArray, List.nil_append, List.cons_append]
  have hk := caught_err hf
  rcases hl2 with rfl | rfl
  · simp [wpOpsS, go_sem, recoverD, hu, hc, Exit.thenS]
    refine hk.mono ?_
    rintro r w' ⟨⟨v, rfl⟩, hr⟩
    cases c₀
    simp_all [bodyPostS, results, Try.results49]
  · simp [wpOpsS, go_sem, recoverD, hu, hc, Exit.thenS]
    refine hk.mono ?_
    rintro r w' ⟨⟨v, rfl⟩, hr⟩
    cases c₀
    simp_all [bodyPostS, results, Try.results49]

theorem rdr_cells {w : World} {S : Hp} {b : Nat} {x : RdrT.den} (h : Rdr w S b x) : w.cell? ⟨b, 1, none⟩ = some (.string ⟨⟨x.2.1⟩⟩) ∧ w.frozen? ⟨b, 1, none⟩ = false := by
  obtain ⟨_, _, E, fr, hc, hf⟩ := h
  refine ⟨by simp [World.cell?, hc], ?_⟩
  have := hf 1 (by simp)
  simp [World.frozen?, hc]
  omega

theorem Fine.trans {w w1 w2 : World} {S S1 : Hp} {b : Nat} {x : RdrT.den} (h1 : WF w (fun k => k = b) w1) (h2 : Lift.Sub S S1) (h3 : ∀ k, S1 k ≠ none → S k ≠ none ∨ w.heap.size ≤ k) (h : Fine w1 S1 b x w2) : Fine w S b x w2 := by
  obtain ⟨S2, k1, k2, k3, k4⟩ := h
  refine ⟨S2, h1.trans k1 (fun k hk => .inl hk), h2.trans k2, fun k hk => ?_, k4⟩
  rcases k3 k hk with h | h
  · exact h3 k h
  · exact .inr (Nat.le_trans h1.size h)

theorem fine_refl {w : World} {S : Hp} {b : Nat} {x : RdrT.den} (h : Rdr w S b x) : Fine w S b x w :=
  ⟨S, WF.refl _ _, Lift.Sub.refl S, fun _ h => .inl h, h⟩

theorem rdr_lt {w : World} {S : Hp} {b : Nat} {x : RdrT.den} (h : Rdr w S b x) : b < w.heap.size := by
  obtain ⟨_, _, E, fr, hc, _⟩ := h
  exact (Array.getElem?_eq_some_iff.1 hc).1

theorem fine_drew {w : World} {S : Hp} {b : Nat} {x : RdrT.den} (h : Rdr w S b x) : Fine w S b x w.drew :=
  ⟨S, ⟨Nat.le_refl _, fun _ _ _ => rfl, rfl, rfl, rfl⟩, Lift.Sub.refl S, fun _ h => .inl h, h⟩

theorem fine_alloc {w : World} {S : Hp} {b : Nat} {x : RdrT.den} (h : Rdr w S b x) (cs : Array Value) (E : Nat) : Fine w S b x (w.alloc (.cells cs E)) := by
  have hlt := rdr_lt h
  obtain ⟨hS, hn, E', fr, hc, hf⟩ := h
  have hh : (w.alloc (.cells cs E)).heap = w.heap.push (.cells cs E (0, 0)) := rfl
  have hk : ∀ k, k < w.heap.size → (w.alloc (.cells cs E)).heap[k]? = w.heap[k]? := fun k hk => by
    rw [hh, Array.getElem?_push, if_neg (by omega)]
  refine ⟨S, ⟨?_, fun k h1 _ => hk k h1, rfl, rfl, rfl⟩, Lift.Sub.refl S, fun _ h => .inl h, fun k o ho => ?_, hn, E', fr, ?_, hf⟩
  · rw [hh, Array.size_push]; omega
  · have := hS k o ho
    simp only [hp] at this ⊢
    rw [hk k (Array.getElem?_eq_some_iff.1 this).1]
    exact this
  · rw [hk b hlt]; exact hc

theorem fine_set {w : World} {S : Hp} {b : Nat} {x : RdrT.den} (h : Rdr w S b x) (s : List UInt8) : Fine w S b (x.1, s, x.2.2.1, ()) (w.setCell ⟨b, 1, none⟩ (.string ⟨⟨s⟩⟩)) := by
  have hlt := rdr_lt h
  obtain ⟨hS, hn, E, fr, hc, hf⟩ := h
  have e := setCell_eq (w := w) (b := b) (off := 1) (.string ⟨⟨s⟩⟩) hc
  refine ⟨S, ⟨?_, fun k h1 h2 => ?_, ?_, ?_, ?_⟩, Lift.Sub.refl S, fun _ h => .inl h, fun k o ho => ?_, hn, E, fr, ?_, hf⟩
  · rw [e]; simp [setObj']
  · have := hp_setObj_ne (w := w) (o := .cells (#[.bool x.1, .string ⟨⟨x.2.1⟩⟩, .int .i64 x.2.2.1].setIfInBounds 1 (.string ⟨⟨s⟩⟩)) E fr) h2
    rw [e]
    exact this
  · rw [e]; rfl
  · rw [e]; rfl
  · rw [e]; rfl
  · have hne : k ≠ b := fun h => by rw [h, hn] at ho; cases ho
    have := hp_setObj_ne (w := w) (o := .cells (#[.bool x.1, .string ⟨⟨x.2.1⟩⟩, .int .i64 x.2.2.1].setIfInBounds 1 (.string ⟨⟨s⟩⟩)) E fr) hne
    rw [e, this]
    exact hS k o ho
  · rw [e]
    exact hp_setObj hc

theorem keep_cell {w w' : World} {b n : Nat} {p : Value} (h : WF w (fun k => k = b) w') (hn : n ≠ b) (hc : w.cell? ⟨n, 0, none⟩ = some p) : w'.cell? ⟨n, 0, none⟩ = some p := by
  have hlt : n < w.heap.size := by
    cases hh : w.heap[n]? with
    | none => simp [World.cell?, hh] at hc
    | some o => exact (Array.getElem?_eq_some_iff.1 hh).1
  have := h.same n hlt hn
  simp only [World.cell?] at hc ⊢
  rw [this]
  exact hc

noncomputable def field_Reader_Byte (N : Nat) (x : RdrT.den) : Option (Int × (RdrT.den × Unit)) :=
  cond (x.1 && (x.2.2.1 == 0))
  (cond (decide (1 ≤ Go.IntKind.wrap .u64 (x.2.1.length : Int)))
    (some (((x.2.1.getD 0 0).toNat : Int), ((x.1, x.2.1.drop 1, x.2.2.1, ()), ())))
    (some (0, ((x.1, [], 1, ()), ()))))
  (some (0, (x, ())))

theorem alloc_cell (w : World) (v : Value) (E : Nat) : (w.alloc (.cells #[v] E)).cell? ⟨w.heap.size, 0, none⟩ = some v := by
  have hh : (w.alloc (.cells #[v] E)).heap = w.heap.push (.cells #[v] E (0, 0)) := rfl
  simp [World.cell?, hh]

theorem byte_off (N : Nat) {w : World} {S : Hp} {b : Nat} {x : RdrT.den} (h : Rdr w S b x) (hr : (x.1 && (x.2.2.1 == 0)) = false) :
    Calls Try.prog 28 #[.pointer (some ⟨b, 0, none⟩)] w fun r w' => r = .returned (.int .u8 0) ∧ Fine w S b x w' := by
  have hmf : ∀ (fn : Fn) (first cap : Array Value) (w : World), (Instr.makeFunc fn first cap).run Try.prog w = .ok (.func fn first cap) w := fun _ _ _ _ => rfl
  have hlt := rdr_lt h
  have hA := alloc_cell w (.pointer (some ⟨b, 0, none⟩)) 58
  obtain ⟨S1, f1, f2, f3, hR1⟩ := fine_alloc h #[.pointer (some ⟨b, 0, none⟩)] 58
  have hcr := reads_call N hR1
  rw [hr] at hcr
  go_enter_defers Try.func28, Try.ntmps28
  go_wp2_with (go_at_call 47; refine hcr.mono ?_; rintro r w2 ⟨rfl, hF2⟩; have HM := Go.Lib.hid hF2; clear hcr hF2)
  obtain ⟨S2, g1, g2, g3, hR2⟩ := HM.out
  have hc2 := keep_cell g1 (Nat.ne_of_gt hlt) hA
  refine leaves_cons (f := 45) (args := #[.pointer (some ⟨w.heap.size, 0, none⟩)]) (by simp) (by simp [go_sem]) ?_
  refine (rdB_idle hc2).mono ?_
  rintro r u w3 ⟨⟨v, rfl⟩, rfl, rfl⟩
  refine ⟨_, ?_, rfl, Fine.trans f1 f2 f3 (Fine.trans g1 g2 g3 (fine_drew hR2))⟩
  simp [results, Try.results28, go_sem]

theorem byte_on (N : Nat) {w : World} {S : Hp} {b : Nat} {m : Bool} {a : UInt8} {l : List UInt8} {e : Int} (h : Rdr w S b (m, a :: l, e, ())) (hr : (m && (e == 0)) = true) (hle : 1 ≤ Go.IntKind.wrap .u64 ((a :: l).length : Int)) :
    Calls Try.prog 28 #[.pointer (some ⟨b, 0, none⟩)] w fun r w' => r = .returned (.int .u8 (a.toNat : Int)) ∧ Fine w S b (m, l, e, ()) w' := by
  have hmf : ∀ (fn : Fn) (first cap : Array Value) (w : World), (Instr.makeFunc fn first cap).run Try.prog w = .ok (.func fn first cap) w := fun _ _ _ _ => rfl
  have hlt := rdr_lt h
  have hA := alloc_cell w (.pointer (some ⟨b, 0, none⟩)) 58
  obtain ⟨S1, f1, f2, f3, hR1⟩ := fine_alloc h #[.pointer (some ⟨b, 0, none⟩)] 58
  have hcr := reads_call N hR1
  simp only [] at hcr
  rw [hr] at hcr
  have hT : ∀ w2 : World, Fine (w.alloc (.cells #[.pointer (some ⟨b, 0, none⟩)] 58)) S1 b (m, a :: l, e, ()) w2 →
      Calls Try.prog 48 #[.pointer (some ⟨b, 0, none⟩), .int .u64 1] w2 fun r w' => r = .returned (.string ⟨⟨[a]⟩⟩) ∧ w' = w2.setCell ⟨b, 1, none⟩ (.string ⟨⟨l⟩⟩) := fun w2 hF => by
    obtain ⟨S2, g1, g2, g3, hR2⟩ := hF
    obtain ⟨c1, z1⟩ := rdr_cells hR2
    exact take_walk c1 z1 (n := 1) (by omega) hle (by simp only [List.length_cons]; omega)
  have hC : ∀ w2 : World, Fine (w.alloc (.cells #[.pointer (some ⟨b, 0, none⟩)] 58)) S1 b (m, a :: l, e, ()) w2 → w2.cell? ⟨w.heap.size, 0, none⟩ = some (.pointer (some ⟨b, 0, none⟩)) := fun w2 hF => by
    obtain ⟨S2, g1, g2, g3, hR2⟩ := hF
    exact keep_cell g1 (Nat.ne_of_gt hlt) hA
  go_enter_defers Try.func28, Try.ntmps28
  go_wp2_with (first
    | (go_at_call 47; refine hcr.mono ?_; rintro r w2 ⟨rfl, hF2⟩; have ht := hT w2 hF2; have hc2 := hC w2 hF2; have HM := Go.Lib.hid hF2; clear hcr hF2 hT hC)
    | (go_at_call 48; refine ht.mono ?_; rintro r w3 ⟨rfl, hw3⟩; clear ht))
  obtain ⟨S2, g1, g2, g3, hR2⟩ := HM.out
  obtain ⟨S3, k1, k2, k3, hR3⟩ := fine_set hR2 l
  have hc3 := keep_cell k1 (Nat.ne_of_gt hlt) hc2
  refine leaves_cons (f := 45) (args := #[.pointer (some ⟨w.heap.size, 0, none⟩)]) (by simp) (by simp [go_sem]) ?_
  refine (rdB_idle hc3).mono ?_
  rintro r u w4 ⟨⟨v, rfl⟩, rfl, rfl⟩
  refine ⟨_, ?_, rfl, Fine.trans f1 f2 f3 (Fine.trans g1 g2 g3 (Fine.trans k1 k2 k3 (fine_drew hR3)))⟩
  simp [results, Try.results28, go_sem]
  rfl

theorem byte_end (N : Nat) {w : World} {S : Hp} {b : Nat} {x : RdrT.den} (h : Rdr w S b x) (hr : (x.1 && (x.2.2.1 == 0)) = true) (hle : ¬ 1 ≤ Go.IntKind.wrap .u64 (x.2.1.length : Int)) :
    Calls Try.prog 28 #[.pointer (some ⟨b, 0, none⟩)] w fun r w' => r = .returned (.int .u8 0) ∧ Fine w S b (failS x 1) w' := by
  have hmf : ∀ (fn : Fn) (first cap : Array Value) (w : World), (Instr.makeFunc fn first cap).run Try.prog w = .ok (.func fn first cap) w := fun _ _ _ _ => rfl
  have hlt := rdr_lt h
  have hA := alloc_cell w (.pointer (some ⟨b, 0, none⟩)) 58
  obtain ⟨S1, f1, f2, f3, hR1⟩ := fine_alloc h #[.pointer (some ⟨b, 0, none⟩)] 58
  have hcr := reads_call N hR1
  rw [hr] at hcr
  have hT : ∀ w2 : World, Fine (w.alloc (.cells #[.pointer (some ⟨b, 0, none⟩)] 58)) S1 b x w2 →
      Calls Try.prog 48 #[.pointer (some ⟨b, 0, none⟩), .int .u64 1] w2 fun r w' => r = .panicked [{ v := .iface 24 (.int .i64 1), recovered := false }] ∧ w' = w2 := fun w2 hF => by
    obtain ⟨S2, g1, g2, g3, hR2⟩ := hF
    obtain ⟨c1, z1⟩ := rdr_cells hR2
    exact take_stop c1 z1 (n := 1) hle
  have hC : ∀ w2 : World, Fine (w.alloc (.cells #[.pointer (some ⟨b, 0, none⟩)] 58)) S1 b x w2 → w2.cell? ⟨w.heap.size, 0, none⟩ = some (.pointer (some ⟨b, 0, none⟩)) := fun w2 hF => by
    obtain ⟨S2, g1, g2, g3, hR2⟩ := hF
    exact keep_cell g1 (Nat.ne_of_gt hlt) hA
  go_enter_defers Try.func28, Try.ntmps28
  go_wp2_with (first
    | (go_at_call 47; refine hcr.mono ?_; rintro r w2 ⟨rfl, hF2⟩; have ht := hT w2 hF2; have hc2 := hC w2 hF2; have HM := Go.Lib.hid hF2; clear hcr hF2 hT hC)
    | (go_at_call 48; refine ht.mono ?_; rintro r w3 ⟨rfl, rfl⟩; clear ht))
  obtain ⟨S2, g1, g2, g3, hR2⟩ := HM.out
  obtain ⟨S3, k1, k2, k3, hR3⟩ := fine_drew hR2
  refine leaves_cons (f := 45) (args := #[.pointer (some ⟨w.heap.size, 0, none⟩)]) (by simp) (by simp [go_sem]) ?_
  refine (rdB_caught hc2 (fail_call N hR3 1)).mono ?_
  rintro r u w4 ⟨⟨v, rfl⟩, rfl, hF4⟩
  simp [Leaves, settle, results, Try.results28, go_sem]
  exact Fine.trans f1 f2 f3 (Fine.trans g1 g2 g3 (Fine.trans k1 k2 k3 hF4))

theorem fine_calm {w w1 : World} {S S1 : Hp} {b : Nat} {x : RdrT.den} (h : Rdr w S b x) (h1 : WF w (fun _ => False) w1) (h2 : Lift.Sub S S1) (h3 : Lift.Sub S1 (hp w1)) (h4 : ∀ k, S1 k ≠ none → S k ≠ none ∨ w.heap.size ≤ k) : Fine w S b x w1 := by
  have hlt := rdr_lt h
  obtain ⟨hS, hn, E, fr, hc, hf⟩ := h
  refine ⟨S1, ⟨h1.size, fun k hk _ => h1.same k hk (fun h => h), h1.tape, h1.os, h1.output⟩, h2, h4, h3, ?_, E, fr, ?_, hf⟩
  · cases hs : S1 b with
    | none => rfl
    | some o =>
      rcases h4 b (by rw [hs]; simp) with h | h
      · exact absurd hn h
      · omega
  · rw [h1.same b hlt (fun h => h)]; exact hc

theorem number_fine (N : Nat) {w : World} {S : Hp} {b : Nat} {x : RdrT.den} (h : Rdr w S b x) {most : Int} {y : Int × Int × Int × Unit} (hy : varint_Take N x.2.1 = some y)
    (he : y.2.2.1 = 0) (hm : y.1 ≤ most) (hu : 0 ≤ y.2.1) (hl : y.2.1 ≤ x.2.1.length) :
    Calls Try.prog 50 #[.pointer (some ⟨b, 0, none⟩), .int .u64 most] w fun r w' => r = .returned (.int .u64 y.1) ∧ Fine w S b (x.1, x.2.1.drop y.2.1.toNat, x.2.2.1, ()) w' := by
  obtain ⟨c1, z1⟩ := rdr_cells h
  have hF : ∀ w1, (∃ S', WF w (fun _ => False) w1 ∧ Lift.Sub S S' ∧ Lift.Sub S' (hp w1) ∧ ∀ k, S' k ≠ none → S k ≠ none ∨ w.heap.size ≤ k) → Fine w S b x w1 := fun w1 ⟨S', k1, k2, k3, k4⟩ => fine_calm h k1 k2 k3 k4
  refine (number_walk c1 (take_call N h.1 hy) (fun w1 hw1 => ?_) he hm hu hl).mono ?_
  · obtain ⟨S2, _, _, _, hR2⟩ := hF w1 hw1
    exact rdr_cells hR2
  · rintro r w' ⟨rfl, w1, hw1, rfl⟩
    obtain ⟨S2, g1, g2, g3, hR2⟩ := hF w1 hw1
    exact ⟨rfl, Fine.trans g1 g2 g3 (fine_set hR2 _)⟩

theorem number_bad (N : Nat) {w : World} {S : Hp} {b : Nat} {x : RdrT.den} (h : Rdr w S b x) {most : Int} {y : Int × Int × Int × Unit} (hy : varint_Take N x.2.1 = some y) (he : y.2.2.1 ≠ 0) :
    Calls Try.prog 50 #[.pointer (some ⟨b, 0, none⟩), .int .u64 most] w fun r w' => r = .panicked [{ v := .iface 24 (.int .i64 y.2.2.1), recovered := false }] ∧ Fine w S b x w' := by
  obtain ⟨c1, z1⟩ := rdr_cells h
  refine (number_stop c1 (take_call N h.1 hy) he).mono ?_
  rintro r w' ⟨rfl, S', k1, k2, k3, k4⟩
  exact ⟨rfl, fine_calm h k1 k2 k3 k4⟩

theorem number_much (N : Nat) {w : World} {S : Hp} {b : Nat} {x : RdrT.den} (h : Rdr w S b x) {most : Int} {y : Int × Int × Int × Unit} (hy : varint_Take N x.2.1 = some y) (he : y.2.2.1 = 0) (hm : ¬ y.1 ≤ most) :
    Calls Try.prog 50 #[.pointer (some ⟨b, 0, none⟩), .int .u64 most] w fun r w' => r = .panicked [{ v := .iface 24 (.int .i64 3), recovered := false }] ∧ Fine w S b x w' := by
  obtain ⟨c1, z1⟩ := rdr_cells h
  refine (number_over c1 (take_call N h.1 hy) he hm).mono ?_
  rintro r w' ⟨rfl, S', k1, k2, k3, k4⟩
  exact ⟨rfl, fine_calm h k1 k2 k3 k4⟩

theorem fine_cell {w w2 : World} {S S1 : Hp} {b : Nat} {x : RdrT.den} (hlt : b < w.heap.size) {E : Nat} (hF : Fine (w.alloc (.cells #[.pointer (some ⟨b, 0, none⟩)] E)) S1 b x w2) : w2.cell? ⟨w.heap.size, 0, none⟩ = some (.pointer (some ⟨b, 0, none⟩)) := by
  obtain ⟨S2, g1, g2, g3, hR2⟩ := hF
  exact keep_cell g1 (Nat.ne_of_gt hlt) (alloc_cell w _ _)

theorem num_off (N : Nat) {w : World} {S : Hp} {b : Nat} {x : RdrT.den} {most : Int} (h : Rdr w S b x) (hr : (x.1 && (x.2.2.1 == 0)) = false) :
    Calls Try.prog 36 #[.pointer (some ⟨b, 0, none⟩), .int .u64 most] w fun r w' => r = .returned (.int .u64 0) ∧ Fine w S b x w' := by
  have hmf : ∀ (fn : Fn) (first cap : Array Value) (w : World), (Instr.makeFunc fn first cap).run Try.prog w = .ok (.func fn first cap) w := fun _ _ _ _ => rfl
  have hlt := rdr_lt h
  have hA := alloc_cell w (.pointer (some ⟨b, 0, none⟩)) 58
  obtain ⟨S1, f1, f2, f3, hR1⟩ := fine_alloc h #[.pointer (some ⟨b, 0, none⟩)] 58
  have hcr := reads_call N hR1
  rw [hr] at hcr
  go_enter_defers Try.func36, Try.ntmps36
  go_wp2_with (go_at_call 47; refine hcr.mono ?_; rintro r w2 ⟨rfl, hF2⟩; have HM := Go.Lib.hid hF2; clear hcr hF2)
  obtain ⟨S2, g1, g2, g3, hR2⟩ := HM.out
  have hc2 := keep_cell g1 (Nat.ne_of_gt hlt) hA
  refine leaves_cons (f := 54) (args := #[.pointer (some ⟨w.heap.size, 0, none⟩)]) (by simp) (by simp [go_sem]) ?_
  refine (rdN_idle hc2).mono ?_
  rintro r u w3 ⟨⟨v, rfl⟩, rfl, rfl⟩
  refine ⟨_, ?_, rfl, Fine.trans f1 f2 f3 (Fine.trans g1 g2 g3 (fine_drew hR2))⟩
  simp [results, Try.results36, go_sem]

theorem num_on (N : Nat) {w : World} {S : Hp} {b : Nat} {x x' : RdrT.den} {most n : Int} (h : Rdr w S b x) (hr : (x.1 && (x.2.2.1 == 0)) = true)
    (hT : ∀ (w1 : World) (S1 : Hp), Rdr w1 S1 b x → Calls Try.prog 50 #[.pointer (some ⟨b, 0, none⟩), .int .u64 most] w1 fun r w' => r = .returned (.int .u64 n) ∧ Fine w1 S1 b x' w') :
    Calls Try.prog 36 #[.pointer (some ⟨b, 0, none⟩), .int .u64 most] w fun r w' => r = .returned (.int .u64 n) ∧ Fine w S b x' w' := by
  have hmf : ∀ (fn : Fn) (first cap : Array Value) (w : World), (Instr.makeFunc fn first cap).run Try.prog w = .ok (.func fn first cap) w := fun _ _ _ _ => rfl
  have hlt := rdr_lt h
  have hA := alloc_cell w (.pointer (some ⟨b, 0, none⟩)) 58
  obtain ⟨S1, f1, f2, f3, hR1⟩ := fine_alloc h #[.pointer (some ⟨b, 0, none⟩)] 58
  have hcr := reads_call N hR1
  rw [hr] at hcr
  have hT2 : ∀ w2 : World, Fine (w.alloc (.cells #[.pointer (some ⟨b, 0, none⟩)] 58)) S1 b x w2 →
      Calls Try.prog 50 #[.pointer (some ⟨b, 0, none⟩), .int .u64 most] w2 fun r w' => r = .returned (.int .u64 n) ∧ Fine (w.alloc (.cells #[.pointer (some ⟨b, 0, none⟩)] 58)) S1 b x' w' := fun w2 hF => by
    obtain ⟨S2, g1, g2, g3, hR2⟩ := hF
    exact (hT w2 S2 hR2).mono (by rintro r w' ⟨rfl, hF⟩; exact ⟨rfl, Fine.trans g1 g2 g3 hF⟩)
  have hC : ∀ w2 : World, Fine (w.alloc (.cells #[.pointer (some ⟨b, 0, none⟩)] 58)) S1 b x w2 → w2.cell? ⟨w.heap.size, 0, none⟩ = some (.pointer (some ⟨b, 0, none⟩)) := fun w2 hF => fine_cell (S := S1) hlt hF
  clear hT
  go_enter_defers Try.func36, Try.ntmps36
  go_wp2_with (first
    | (go_at_call 47; refine hcr.mono ?_; rintro r w2 ⟨rfl, hF2⟩; have ht := hT2 w2 hF2; have hc2 := hC w2 hF2; clear hcr hF2 hT2 hC)
    | (go_at_call 50; refine ht.mono ?_; rintro r w3 ⟨rfl, hF3⟩; have HM := Go.Lib.hid hF3; clear ht hF3))
  have hc3 := fine_cell (S := S1) hlt HM.out
  obtain ⟨S3, k1, k2, k3, hR3⟩ := HM.out
  refine leaves_cons (f := 54) (args := #[.pointer (some ⟨w.heap.size, 0, none⟩)]) (by simp) (by simp [go_sem]) ?_
  refine (rdN_idle hc3).mono ?_
  rintro r u w4 ⟨⟨v, rfl⟩, rfl, rfl⟩
  refine ⟨_, ?_, rfl, Fine.trans f1 f2 f3 (Fine.trans k1 k2 k3 (fine_drew hR3))⟩
  simp [results, Try.results36, go_sem]

theorem num_stop (N : Nat) {w : World} {S : Hp} {b : Nat} {x : RdrT.den} {most e : Int} (h : Rdr w S b x) (hr : (x.1 && (x.2.2.1 == 0)) = true)
    (hT : ∀ (w1 : World) (S1 : Hp), Rdr w1 S1 b x → Calls Try.prog 50 #[.pointer (some ⟨b, 0, none⟩), .int .u64 most] w1 fun r w' => r = .panicked [{ v := .iface 24 (.int .i64 e), recovered := false }] ∧ Fine w1 S1 b x w') :
    Calls Try.prog 36 #[.pointer (some ⟨b, 0, none⟩), .int .u64 most] w fun r w' => r = .returned (.int .u64 0) ∧ Fine w S b (failS x e) w' := by
  have hmf : ∀ (fn : Fn) (first cap : Array Value) (w : World), (Instr.makeFunc fn first cap).run Try.prog w = .ok (.func fn first cap) w := fun _ _ _ _ => rfl
  have hlt := rdr_lt h
  have hA := alloc_cell w (.pointer (some ⟨b, 0, none⟩)) 58
  obtain ⟨S1, f1, f2, f3, hR1⟩ := fine_alloc h #[.pointer (some ⟨b, 0, none⟩)] 58
  have hcr := reads_call N hR1
  rw [hr] at hcr
  have hT2 : ∀ w2 : World, Fine (w.alloc (.cells #[.pointer (some ⟨b, 0, none⟩)] 58)) S1 b x w2 →
      Calls Try.prog 50 #[.pointer (some ⟨b, 0, none⟩), .int .u64 most] w2 fun r w' => r = .panicked [{ v := .iface 24 (.int .i64 e), recovered := false }] ∧ Fine (w.alloc (.cells #[.pointer (some ⟨b, 0, none⟩)] 58)) S1 b x w' := fun w2 hF => by
    obtain ⟨S2, g1, g2, g3, hR2⟩ := hF
    exact (hT w2 S2 hR2).mono (by rintro r w' ⟨rfl, hF⟩; exact ⟨rfl, Fine.trans g1 g2 g3 hF⟩)
  have hC : ∀ w2 : World, Fine (w.alloc (.cells #[.pointer (some ⟨b, 0, none⟩)] 58)) S1 b x w2 → w2.cell? ⟨w.heap.size, 0, none⟩ = some (.pointer (some ⟨b, 0, none⟩)) := fun w2 hF => fine_cell (S := S1) hlt hF
  clear hT
  go_enter_defers Try.func36, Try.ntmps36
  go_wp2_with (first
    | (go_at_call 47; refine hcr.mono ?_; rintro r w2 ⟨rfl, hF2⟩; have ht := hT2 w2 hF2; have hc2 := hC w2 hF2; clear hcr hF2 hT2 hC)
    | (go_at_call 50; refine ht.mono ?_; rintro r w3 ⟨rfl, hF3⟩; have HM := Go.Lib.hid hF3; clear ht hF3))
  have hc3 := fine_cell (S := S1) hlt HM.out
  obtain ⟨S3, k1, k2, k3, hR3⟩ := HM.out
  obtain ⟨S4, l1, l2, l3, hR4⟩ := fine_drew hR3
  refine leaves_cons (f := 54) (args := #[.pointer (some ⟨w.heap.size, 0, none⟩)]) (by simp) (by simp [go_sem]) ?_
  refine (rdN_caught hc3 (fail_call N hR4 e)).mono ?_
  rintro r u w4 ⟨⟨v, rfl⟩, rfl, hF4⟩
  simp [Leaves, settle, results, Try.results36, go_sem]
  exact Fine.trans f1 f2 f3 (Fine.trans k1 k2 k3 (Fine.trans l1 l2 l3 hF4))

noncomputable def ordersOf (ops : Array Oper) : Nat → Array Bool → List (List Nat)
  | 0, _ => [[]]
  | n + 1, listed => if (Region.ready .any ops listed).isEmpty then [[]] else (Region.ready .any ops listed).flatMap fun i => (ordersOf ops n (listed.setIfInBounds i true)).map (i :: ·)

theorem ordersOf_go (ops : Array Oper) : ∀ (fuel t : Nat) (listed : Array Bool), Region.linearise.go .any ops fuel t listed [] ∈ ordersOf ops fuel listed
  | 0, t, listed => by simp [Region.linearise.go, ordersOf]
  | fuel + 1, t, listed => by
    simp only [Region.linearise.go, ordersOf]
    change (match (Region.ready .any ops listed)[t % (Region.ready .any ops listed).length]? with
      | some i => Region.linearise.go .any ops fuel (t / (Region.ready .any ops listed).length) (listed.setIfInBounds i true) [i]
      | none => [].reverse) ∈ _
    cases hi : (Region.ready .any ops listed)[t % (Region.ready .any ops listed).length]? with
    | none =>
      have hnil : Region.ready .any ops listed = [] := by
        cases hr : Region.ready .any ops listed with
        | nil => rfl
        | cons x xs =>
          rw [hr] at hi
          have hlt : t % (x :: xs).length < (x :: xs).length := Nat.mod_lt _ (by simp)
          simp at hi
          simp at hlt
          omega
      rw [hnil]
      simp
    | some i =>
      have hm := List.mem_of_getElem? hi
      have hne : (Region.ready .any ops listed).isEmpty = false := by
        cases hr : Region.ready .any ops listed with
        | nil => rw [hr] at hm; cases hm
        | cons x xs => rfl
      simp only [hne]
      rw [linearise_go_acc]
      simp only [List.reverse_singleton, List.singleton_append]
      exact List.mem_flatMap.2 ⟨i, hm, List.mem_map.2 ⟨_, ordersOf_go ops fuel _ _, rfl⟩⟩

theorem ordersOf_mem (ops : Array Oper) (t : Nat) : Region.schedule true ops t ∈ ordersOf ops ops.size (Array.replicate ops.size false) := by
  simp only [Region.schedule, Bool.true_or, if_true]
  exact ordersOf_go ops ops.size t _

noncomputable def regionsOf : Code → List (Array Oper)
  | .region _ ops true => [ops]
  | .seq a b => regionsOf a ++ regionsOf b
  | .cond _ a b => regionsOf a ++ regionsOf b
  | _ => []

noncomputable def rdT_drawn : Array Oper := (regionsOf ((Try.f29.body).getD .skip)).getLast?.getD #[]

noncomputable def rdT_orders : List (List Nat) := [[0, 1, 2, 3, 4, 5, 6, 7], [0, 2, 1, 3, 4, 5, 6, 7], [0, 2, 3, 1, 4, 5, 6, 7], [0, 2, 3, 4, 1, 5, 6, 7], [1, 0, 2, 3, 4, 5, 6, 7], [1, 2, 0, 3, 4, 5, 6, 7], [1, 2, 3, 0, 4, 5, 6, 7], [1, 2, 3, 4, 0, 5, 6, 7], [1, 2, 3, 4, 5, 0, 6, 7], [2, 0, 1, 3, 4, 5, 6, 7], [2, 0, 3, 1, 4, 5, 6, 7], [2, 0, 3, 4, 1, 5, 6, 7], [2, 1, 0, 3, 4, 5, 6, 7], [2, 1, 3, 0, 4, 5, 6, 7], [2, 1, 3, 4, 0, 5, 6, 7], [2, 1, 3, 4, 5, 0, 6, 7], [2, 3, 0, 1, 4, 5, 6, 7], [2, 3, 0, 4, 1, 5, 6, 7], [2, 3, 1, 0, 4, 5, 6, 7], [2, 3, 1, 4, 0, 5, 6, 7], [2, 3, 1, 4, 5, 0, 6, 7], [2, 3, 4, 0, 1, 5, 6, 7], [2, 3, 4, 1, 0, 5, 6, 7], [2, 3, 4, 1, 5, 0, 6, 7]]

theorem rdT_orders_eq : ordersOf rdT_drawn 8 (Array.replicate 8 false) = rdT_orders := by kernel_rfl

theorem rdT_size : rdT_drawn.size = 8 := by kernel_rfl

inductive Picks (ops : Array Oper) : List Nat → List Oper → Prop
  | nil : Picks ops [] []
  | cons {i : Nat} {o : Oper} {l : List Nat} {os : List Oper} (h : ops[i]? = some o) (hs : Picks ops l os) : Picks ops (i :: l) (o :: os)

theorem wpOps_list {P : Program} {ops : Array Oper} {Q : Exit → Act → World → Prop} {l : List Nat} {os : List Oper} (h : Picks ops l os) : ∀ {a : Act} {w : World}, wpList P ops Q os a w → wpOps P ops Q l a w := by
  have e : wpOps P ops Q l = wpList P ops Q os := by
    induction h with
    | nil => funext a w; simp only [wpOps, wpList]
    | cons h _ ih => funext a w; simp only [wpOps, h, wpList, ih]
  intro a w hw
  rw [e]; exact hw

theorem text_off (N : Nat) {w : World} {S : Hp} {b : Nat} {x : RdrT.den} {most : Int} (h : Rdr w S b x) (hr : (x.1 && (x.2.2.1 == 0)) = false) :
    Calls Try.prog 29 #[.pointer (some ⟨b, 0, none⟩), .int .i64 most] w fun r w' => r = .returned (.string ⟨⟨[]⟩⟩) ∧ Fine w S b x w' := by
  have hmf : ∀ (fn : Fn) (first cap : Array Value) (w : World), (Instr.makeFunc fn first cap).run Try.prog w = .ok (.func fn first cap) w := fun _ _ _ _ => rfl
  have hlt := rdr_lt h
  have hA := alloc_cell w (.pointer (some ⟨b, 0, none⟩)) 58
  obtain ⟨S1, f1, f2, f3, hR1⟩ := fine_alloc h #[.pointer (some ⟨b, 0, none⟩)] 58
  have hcr := reads_call N hR1
  rw [hr] at hcr
  go_enter_defers Try.func29, Try.ntmps29
  go_wp2_with (go_at_call 47; refine hcr.mono ?_; rintro r w2 ⟨rfl, hF2⟩; have HM := Go.Lib.hid hF2; clear hcr hF2)
  obtain ⟨S2, g1, g2, g3, hR2⟩ := HM.out
  have hc2 := keep_cell g1 (Nat.ne_of_gt hlt) hA
  refine leaves_cons (f := 49) (args := #[.pointer (some ⟨w.heap.size, 0, none⟩)]) (by simp) (by simp [go_sem]) ?_
  refine (rdT_idle hc2).mono ?_
  rintro r u w3 ⟨⟨v, rfl⟩, rfl, rfl⟩
  refine ⟨_, ?_, rfl, Fine.trans f1 f2 f3 (Fine.trans g1 g2 g3 (fine_drew hR2))⟩
  simp [results, Try.results29, go_sem]

end Go.Proofs.YtdgmejgepcodnaaLg
