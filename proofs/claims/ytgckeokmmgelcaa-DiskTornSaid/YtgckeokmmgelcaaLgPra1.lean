/- The plain functions that the law reaches, what their calls do, and what they give (own work, in one text). -/
import Derived.Test.YtgckeokmmgelcaaLgW
import Derived.Test.YtgckeokmmgelcaaChecked
import Derived.KernelRfl
/- The functions of the seat, as plain functions, and what their calls do. Printed by a program of mine; checked here. -/
set_option linter.all false
set_option maxRecDepth 100000
namespace Go.Proofs.YtgckeokmmgelcaaLg
open Go Go.Lift

noncomputable def ty3 : TyI := ⟨(Go.TypeDesc.int Go.IntKind.i64), 1, 8, (.int .i64), (0 : Int), false⟩

theorem ty3_ok : TyOk Go.Proofs.Try.prog 3 ty3 := TyOk.of (by kernel_rfl) (by kernel_rfl) (by kernel_rfl) (by kernel_rfl)

noncomputable def ty4 : TyI := ⟨Go.TypeDesc.bool, 1, 1, .bool, false, false⟩

theorem ty4_ok : TyOk Go.Proofs.Try.prog 4 ty4 := TyOk.of (by kernel_rfl) (by kernel_rfl) (by kernel_rfl) (by kernel_rfl)

noncomputable def ty5 : TyI := ⟨(Go.TypeDesc.int Go.IntKind.u8), 1, 1, (.int .u8), (0 : Int), false⟩

theorem ty5_ok : TyOk Go.Proofs.Try.prog 5 ty5 := TyOk.of (by kernel_rfl) (by kernel_rfl) (by kernel_rfl) (by kernel_rfl)

noncomputable def ty9 : TyI := ⟨Go.TypeDesc.string, 1, 16, .str, ([] : List UInt8), false⟩

theorem ty9_ok : TyOk Go.Proofs.Try.prog 9 ty9 := TyOk.of (by kernel_rfl) (by kernel_rfl) (by kernel_rfl) (by kernel_rfl)

noncomputable def ty20 : TyI := ⟨(Go.TypeDesc.interface (List.toArray ([] : List (String × Nat)))), 1, 16, .opq, Go.Value.nilIface, false⟩

theorem ty20_ok : TyOk Go.Proofs.Try.prog 20 ty20 := TyOk.of (by kernel_rfl) (by kernel_rfl) (by kernel_rfl) (by kernel_rfl)

noncomputable def ty22 : TyI := ⟨(Go.TypeDesc.slice 45), 1, 24, (.sl (.pair (.int .i64) (.pair (.int .i64) .unit))), ([] : List (Int × (Int × Unit))), false⟩

theorem ty22_ok : TyOk Go.Proofs.Try.prog 22 ty22 := TyOk.of (by kernel_rfl) (by kernel_rfl) (by kernel_rfl) (by kernel_rfl)

noncomputable def ty25 : TyI := ⟨(Go.TypeDesc.pointer 49), 1, 8, .opq, (Go.Value.pointer none), false⟩

theorem ty25_ok : TyOk Go.Proofs.Try.prog 25 ty25 := TyOk.of (by kernel_rfl) (by kernel_rfl) (by kernel_rfl) (by kernel_rfl)

noncomputable def ty26 : TyI := ⟨(Go.TypeDesc.int Go.IntKind.i64), 1, 8, (.int .i64), (0 : Int), false⟩

theorem ty26_ok : TyOk Go.Proofs.Try.prog 26 ty26 := TyOk.of (by kernel_rfl) (by kernel_rfl) (by kernel_rfl) (by kernel_rfl)

noncomputable def ty45 : TyI := ⟨(Go.TypeDesc.struct (List.toArray ([(Go.Field.mk "At" 3 0 false "" "" 0), (Go.Field.mk "Keep" 3 1 false "" "" 8)] : List Go.Field))), 2, 16, (.pair (.int .i64) (.pair (.int .i64) .unit)), ((0 : Int), (0 : Int), ()), true⟩

theorem ty45_ok : TyOk Go.Proofs.Try.prog 45 ty45 := TyOk.of (by kernel_rfl) (by kernel_rfl) (by kernel_rfl) (by kernel_rfl)

noncomputable def ty46 : TyI := ⟨(Go.TypeDesc.slice 54), 1, 24, (.sl (.arr 128 (.int .u8))), ([] : List (List Int)), false⟩

theorem ty46_ok : TyOk Go.Proofs.Try.prog 46 ty46 := TyOk.of (by kernel_rfl) (by kernel_rfl) (by kernel_rfl) (by kernel_rfl)

noncomputable def ty47 : TyI := ⟨(Go.TypeDesc.map 3 3), 1, 8, .opq, (Go.Value.map none), false⟩

theorem ty47_ok : TyOk Go.Proofs.Try.prog 47 ty47 := TyOk.of (by kernel_rfl) (by kernel_rfl) (by kernel_rfl) (by kernel_rfl)

noncomputable def ty49 : TyI := ⟨(Go.TypeDesc.struct (List.toArray ([(Go.Field.mk "blocks" 46 0 false "" "porter/disk" 0), (Go.Field.mk "crashes" 47 1 false "" "porter/disk" 24), (Go.Field.mk "down" 4 2 false "" "porter/disk" 32), (Go.Field.mk "writes" 3 3 false "" "porter/disk" 40)] : List Go.Field))), 4, 48, (.pair (.sl (.arr 128 (.int .u8))) (.pair .opq (.pair .bool (.pair (.int .i64) .unit)))), (([] : List (List Int)), (Go.Value.map none), false, (0 : Int), ()), true⟩

theorem ty49_ok : TyOk Go.Proofs.Try.prog 49 ty49 := TyOk.of (by kernel_rfl) (by kernel_rfl) (by kernel_rfl) (by kernel_rfl)

noncomputable def ty51 : TyI := ⟨(Go.TypeDesc.slice 5), 1, 24, (.sl (.int .u8)), ([] : List Int), false⟩

theorem ty51_ok : TyOk Go.Proofs.Try.prog 51 ty51 := TyOk.of (by kernel_rfl) (by kernel_rfl) (by kernel_rfl) (by kernel_rfl)

noncomputable def ty54 : TyI := ⟨(Go.TypeDesc.array 128 5), 128, 128, (.arr 128 (.int .u8)), ((0 : Int) :: (0 : Int) :: (0 : Int) :: (0 : Int) :: (0 : Int) :: (0 : Int) :: (0 : Int) :: (0 : Int) :: (0 : Int) :: (0 : Int) :: (0 : Int) :: (0 : Int) :: (0 : Int) :: (0 : Int) :: (0 : Int) :: (0 : Int) :: (0 : Int) :: (0 : Int) :: (0 : Int) :: (0 : Int) :: (0 : Int) :: (0 : Int) :: (0 : Int) :: (0 : Int) :: (0 : Int) :: (0 : Int) :: (0 : Int) :: (0 : Int) :: (0 : Int) :: (0 : Int) :: (0 : Int) :: (0 : Int) :: (0 : Int) :: (0 : Int) :: (0 : Int) :: (0 : Int) :: (0 : Int) :: (0 : Int) :: (0 : Int) :: (0 : Int) :: (0 : Int) :: (0 : Int) :: (0 : Int) :: (0 : Int) :: (0 : Int) :: (0 : Int) :: (0 : Int) :: (0 : Int) :: (0 : Int) :: (0 : Int) :: (0 : Int) :: (0 : Int) :: (0 : Int) :: (0 : Int) :: (0 : Int) :: (0 : Int) :: (0 : Int) :: (0 : Int) :: (0 : Int) :: (0 : Int) :: (0 : Int) :: (0 : Int) :: (0 : Int) :: (0 : Int) :: (0 : Int) :: (0 : Int) :: (0 : Int) :: (0 : Int) :: (0 : Int) :: (0 : Int) :: (0 : Int) :: (0 : Int) :: (0 : Int) :: (0 : Int) :: (0 : Int) :: (0 : Int) :: (0 : Int) :: (0 : Int) :: (0 : Int) :: (0 : Int) :: (0 : Int) :: (0 : Int) :: (0 : Int) :: (0 : Int) :: (0 : Int) :: (0 : Int) :: (0 : Int) :: (0 : Int) :: (0 : Int) :: (0 : Int) :: (0 : Int) :: (0 : Int) :: (0 : Int) :: (0 : Int) :: (0 : Int) :: (0 : Int) :: (0 : Int) :: (0 : Int) :: (0 : Int) :: (0 : Int) :: (0 : Int) :: (0 : Int) :: (0 : Int) :: (0 : Int) :: (0 : Int) :: (0 : Int) :: (0 : Int) :: (0 : Int) :: (0 : Int) :: (0 : Int) :: (0 : Int) :: (0 : Int) :: (0 : Int) :: (0 : Int) :: (0 : Int) :: (0 : Int) :: (0 : Int) :: (0 : Int) :: (0 : Int) :: (0 : Int) :: (0 : Int) :: (0 : Int) :: (0 : Int) :: (0 : Int) :: (0 : Int) :: (0 : Int) :: (0 : Int) :: (0 : Int) :: ([] : List Int)), true⟩

theorem ty54_ok : TyOk Go.Proofs.Try.prog 54 ty54 := TyOk.of (by kernel_rfl) (by kernel_rfl) (by kernel_rfl) (by kernel_rfl)

noncomputable def tys : List (Nat × TyI) := [(3, ty3), (4, ty4), (5, ty5), (9, ty9), (20, ty20), (22, ty22), (25, ty25), (26, ty26), (45, ty45), (46, ty46), (47, ty47), (49, ty49), (51, ty51), (54, ty54)]

theorem tys_ok : TysOk Go.Proofs.Try.prog tys := TysOk.cons ty3_ok (TysOk.cons ty4_ok (TysOk.cons ty5_ok (TysOk.cons ty9_ok (TysOk.cons ty20_ok (TysOk.cons ty22_ok (TysOk.cons ty25_ok (TysOk.cons ty26_ok (TysOk.cons ty45_ok (TysOk.cons ty46_ok (TysOk.cons ty47_ok (TysOk.cons ty49_ok (TysOk.cons ty51_ok (TysOk.cons ty54_ok (TysOk.nil))))))))))))))

theorem mixed : Go.Proofs.Try.prog.follows .mixedOrders = true := by kernel_rfl

noncomputable def disk_New_body : Code := (Go.Proofs.Try.f6.body).getD .skip

noncomputable def disk_New_L : List (List Nat × List Nat) := [([0], [0, 1]), ([0, 0, 1], [16, 0, 1]), ([1, 0, 1], [0, 1]), ([0, 0, 1, 0, 1], [4, 5]), ([1, 0, 1, 0, 1], [4, 5]), ([0, 1, 1], [1, 6]), ([0, 0, 1, 1, 1], [24, 23, 22, 6]), ([0, 1, 0, 1, 1, 1], [24, 23, 22, 6]), ([0, 0, 0, 1, 0, 1, 1, 1], [25, 22, 24, 6, 23]), ([0, 1, 0, 0, 1, 0, 1, 1, 1], [22, 24, 6, 23]), ([1, 0, 1, 0, 0, 1, 0, 1, 1, 1], [6]), ([0, 0, 0, 1, 1, 0, 0, 1, 0, 1, 1, 1], [6, 8, 24, 23, 22]), ([0, 1, 0, 0, 1, 1, 0, 0, 1, 0, 1, 1, 1], [10, 6, 8, 24, 23, 22]), ([0, 1, 1, 0, 0, 1, 1, 0, 0, 1, 0, 1, 1, 1], [39, 6, 8, 24, 23, 22]), ([1, 1, 1, 0, 0, 1, 1, 0, 0, 1, 0, 1, 1, 1], [24, 23, 22, 6]), ([0, 1, 1, 1, 0, 0, 1, 1, 0, 0, 1, 0, 1, 1, 1], [24, 23, 22, 6]), ([0, 1, 1, 0, 0, 1, 0, 1, 1, 1], [24, 23, 22, 6]), ([1, 1, 1, 0, 0, 1, 0, 1, 1, 1], [24, 23, 22, 6]), ([1, 0, 1, 1, 1], [6]), ([0, 1, 1, 1, 1], [4, 5]), ([1, 1, 1, 1, 1], [4, 5])]

noncomputable def disk_New_E (N : Nat) : Env := mkEnv tys noGlob [] [] [] [] false [(4, (.pair (.own (.arr 128 (.int .u8))) (.pair (.mp (.int .i64) (.int .i64)) (.pair .bool (.pair (.int .i64) .unit))))), (20, (.pair (.own (.arr 128 (.int .u8))) (.pair (.mp (.int .i64) (.int .i64)) (.pair .bool (.pair (.int .i64) .unit))))), (21, (.pair (.own (.arr 128 (.int .u8))) (.pair (.mp (.int .i64) (.int .i64)) (.pair .bool (.pair (.int .i64) .unit)))))] [] [(.nb (.pair (.own (.arr 128 (.int .u8))) (.pair (.mp (.int .i64) (.int .i64)) (.pair .bool (.pair (.int .i64) .unit))))), (.int .i64)]

theorem disk_New_Eok (N : Nat) : EnvOk Go.Proofs.Try.prog (disk_New_E N) := mkEnv_ok mixed tys_ok (FnsOk.nil) (ItsOk.nil)

noncomputable def disk_New_p2 (N : Nat) (blocks : Int) (crashes : (List (Int × (Int × Unit)))) (k0 : Bool → Option ((Option ((List (List Int)) × ((Option (List (Int × Int))) × (Bool × (Int × Unit))))) × Int × Unit)) : Option ((Option ((List (List Int)) × ((Option (List (Int × Int))) × (Bool × (Int × Unit))))) × Int × Unit) :=
  cond (decide (blocks < (1 : Int)))
  (k0 true)
  (k0 (decide ((4096 : Int) < blocks)))

noncomputable def disk_New_g2 (N : Nat) (x : denS [(0, .v (.int .i64)), (0, .v (.sl (.pair (.int .i64) (.pair (.int .i64) .unit))))]) (K : Ex → List A → Option ((Option ((List (List Int)) × ((Option (List (Int × Int))) × (Bool × (Int × Unit))))) × Int × Unit)) : Option ((Option ((List (List Int)) × ((Option (List (Int × Int))) × (Bool × (Int × Unit))))) × Int × Unit) :=
  disk_New_p2 N x.1 x.2.1 (fun a2 => (K .normal (mkS [(0, .v (.int .i64)), (0, .v (.sl (.pair (.int .i64) (.pair (.int .i64) .unit)))), (14, .v .bool)] 35 (x.1, x.2.1, a2, ()))))

noncomputable def disk_New_h2 (N : Nat) : Hd ((Option ((List (List Int)) × ((Option (List (Int × Int))) × (Bool × (Int × Unit))))) × Int × Unit) := fun st K => (unS [(0, .v (.int .i64)), (0, .v (.sl (.pair (.int .i64) (.pair (.int .i64) .unit))))] 50 (restr [0, 1] 0 st)).bind fun x => disk_New_g2 N x K

noncomputable def disk_New_t2 (N : Nat) : Tab ((Option ((List (List Int)) × ((Option (List (Int × Int))) × (Bool × (Int × Unit))))) × Int × Unit) := []

theorem disk_New_ok2 {N : Nat} {c : Ctx} (hb : Base Go.Proofs.Try.prog (disk_New_E N) c) : CodeOk Go.Proofs.Try.prog c (nodeAt disk_New_body [0, 0, 1]) (disk_New_h2 N) :=
  piece_ok (s := [(0, .v (.int .i64)), (0, .v (.sl (.pair (.int .i64) (.pair (.int .i64) .unit))))]) (m := 50) (g := disk_New_g2 N) [0, 1] (evN_sound hb N (disk_New_t2 N) disk_New_L disk_New_body TabOk.nil [0, 0, 1] _ rfl) (fun x K => by kernel_rfl)

noncomputable def disk_New_p1 (N : Nat) (blocks : Int) (crashes : (List (Int × (Int × Unit)))) (k0 : Int → Option ((Option ((List (List Int)) × ((Option (List (Int × Int))) × (Bool × (Int × Unit))))) × Int × Unit)) (k1 : Option ((Option ((List (List Int)) × ((Option (List (Int × Int))) × (Bool × (Int × Unit))))) × Int × Unit)) : Option ((Option ((List (List Int)) × ((Option (List (Int × Int))) × (Bool × (Int × Unit))))) × Int × Unit) :=
  disk_New_p2 N blocks crashes
  (fun x16 => cond x16
    (k0 (7 : Int))
    (k1))

noncomputable def disk_New_g1 (N : Nat) (x : denS [(0, .v (.int .i64)), (0, .v (.sl (.pair (.int .i64) (.pair (.int .i64) .unit))))]) (K : Ex → List A → Option ((Option ((List (List Int)) × ((Option (List (Int × Int))) × (Bool × (Int × Unit))))) × Int × Unit)) : Option ((Option ((List (List Int)) × ((Option (List (Int × Int))) × (Bool × (Int × Unit))))) × Int × Unit) :=
  disk_New_p1 N x.1 x.2.1 (fun a0 => (K .ret (mkS [(4, .nilp), (0, .v (.int .i64))] 46 ((), a0, ())))) (K .normal (mkS [(0, .v (.int .i64)), (0, .v (.sl (.pair (.int .i64) (.pair (.int .i64) .unit))))] 50 (x.1, x.2.1, ())))

noncomputable def disk_New_h1 (N : Nat) : Hd ((Option ((List (List Int)) × ((Option (List (Int × Int))) × (Bool × (Int × Unit))))) × Int × Unit) := fun st K => (unS [(0, .v (.int .i64)), (0, .v (.sl (.pair (.int .i64) (.pair (.int .i64) .unit))))] 50 (restr [0, 1] 0 st)).bind fun x => disk_New_g1 N x K

noncomputable def disk_New_t1 (N : Nat) : Tab ((Option ((List (List Int)) × ((Option (List (Int × Int))) × (Bool × (Int × Unit))))) × Int × Unit) := [([0, 0, 1], disk_New_h2 N)]

theorem disk_New_ok1 {N : Nat} {c : Ctx} (hb : Base Go.Proofs.Try.prog (disk_New_E N) c) : CodeOk Go.Proofs.Try.prog c (nodeAt disk_New_body [0, 1]) (disk_New_h1 N) :=
  piece_ok (s := [(0, .v (.int .i64)), (0, .v (.sl (.pair (.int .i64) (.pair (.int .i64) .unit))))]) (m := 50) (g := disk_New_g1 N) [0, 1] (evN_sound hb N (disk_New_t1 N) disk_New_L disk_New_body (TabOk.cons (disk_New_ok2 hb) TabOk.nil) [0, 1] _ rfl) (fun x K => by kernel_rfl)

noncomputable def disk_New_s3 (N : Nat) (x22 : (List (Int × (Int × Unit)))) (x23 : Int) (d : ((List (List Int)) × ((Option (List (Int × Int))) × (Bool × (Int × Unit))))) (x24 : Int) (rec : ((List (List Int)) × ((Option (List (Int × Int))) × (Bool × (Int × Unit)))) → Int → Option ((Option ((List (List Int)) × ((Option (List (Int × Int))) × (Bool × (Int × Unit))))) × Int × Unit)) (k0 : ((List (List Int)) × ((Option (List (Int × Int))) × (Bool × (Int × Unit)))) → Option ((Option ((List (List Int)) × ((Option (List (Int × Int))) × (Bool × (Int × Unit))))) × Int × Unit)) : Option ((Option ((List (List Int)) × ((Option (List (Int × Int))) × (Bool × (Int × Unit))))) × Int × Unit) :=
  cond (decide (x24 < x23))
  (cond (Go.Lift.inR x24 (List.length x22))
    (cond (!(Option.isSome (Go.Lift.lookM (Go.Lift.eqD (Go.Lift.T.int Go.IntKind.i64)) (List.getD x22 (Int.toNat x24) ((0 : Int), ((0 : Int), ()))).1 (Option.getD d.2.1 ([] : List (Int × Int))))))
      (cond (Option.isSome d.2.1)
        (rec (d.1, ((Option.some (Go.Lift.setM (Go.Lift.eqD (Go.Lift.T.int Go.IntKind.i64)) (List.getD x22 (Int.toNat x24) ((0 : Int), ((0 : Int), ()))).1 (if ((128 : Int) < (if ((0 : Int) > (List.getD x22 (Int.toNat x24) ((0 : Int), ((0 : Int), ()))).2.1) then (0 : Int) else (List.getD x22 (Int.toNat x24) ((0 : Int), ((0 : Int), ()))).2.1)) then (128 : Int) else (if ((0 : Int) > (List.getD x22 (Int.toNat x24) ((0 : Int), ((0 : Int), ()))).2.1) then (0 : Int) else (List.getD x22 (Int.toNat x24) ((0 : Int), ((0 : Int), ()))).2.1)) (Option.getD d.2.1 ([] : List (Int × Int))))), d.2.2)) (Go.IntKind.wrap Go.IntKind.i64 (x24 + (1 : Int))))
        (none))
      (rec d (Go.IntKind.wrap Go.IntKind.i64 (x24 + (1 : Int)))))
    (none))
  (k0 d)

noncomputable def disk_New_p3 (N : Nat) (d : ((List (List Int)) × ((Option (List (Int × Int))) × (Bool × (Int × Unit))))) (x22 : (List (Int × (Int × Unit)))) (x23 : Int) (x24 : Int) (k0 : ((List (List Int)) × ((Option (List (Int × Int))) × (Bool × (Int × Unit)))) → Option ((Option ((List (List Int)) × ((Option (List (Int × Int))) × (Bool × (Int × Unit))))) × Int × Unit)) : Option ((Option ((List (List Int)) × ((Option (List (Int × Int))) × (Bool × (Int × Unit))))) × Int × Unit) :=
  iter (fun (v : (((List (List Int)) × ((Option (List (Int × Int))) × (Bool × (Int × Unit)))) × Int)) r => disk_New_s3 N x22 x23 v.1 v.2 (fun d x24 => (r (d, x24))) k0) N (d, x24)

noncomputable def disk_New_g3 (N : Nat) (i : ((List (Int × (Int × Unit))) × Int)) (v : (((List (List Int)) × ((Option (List (Int × Int))) × (Bool × (Int × Unit)))) × Int)) (r : (((List (List Int)) × ((Option (List (Int × Int))) × (Bool × (Int × Unit)))) × Int) → Option ((Option ((List (List Int)) × ((Option (List (Int × Int))) × (Bool × (Int × Unit))))) × Int × Unit)) (K : Ex → List A → Option ((Option ((List (List Int)) × ((Option (List (Int × Int))) × (Bool × (Int × Unit))))) × Int × Unit)) : Option ((Option ((List (List Int)) × ((Option (List (Int × Int))) × (Bool × (Int × Unit))))) × Int × Unit) :=
  disk_New_s3 N i.1 i.2 v.1 v.2 (fun d x24 => (r (d, x24))) (fun a0 => (K (.exit 0) (mkS [(6, .box (.pair (.own (.arr 128 (.int .u8))) (.pair (.mp (.int .i64) (.int .i64)) (.pair .bool (.pair (.int .i64) .unit)))))] 45 (a0, ()))))

noncomputable def disk_New_h3 (N : Nat) : Hd ((Option ((List (List Int)) × ((Option (List (Int × Int))) × (Bool × (Int × Unit))))) × Int × Unit) := fun st K => (unS [(6, .box (.pair (.own (.arr 128 (.int .u8))) (.pair (.mp (.int .i64) (.int .i64)) (.pair .bool (.pair (.int .i64) .unit))))), (15, .v (.sl (.pair (.int .i64) (.pair (.int .i64) .unit)))), (0, .v (.int .i64)), (0, .v (.int .i64))] 27 (restr [24, 23, 22, 6] 0 st)).bind fun x => iter (fun v r => disk_New_g3 N ((fun x => (x.2.1, x.2.2.1)) x) v r K) N ((fun x => (x.1, x.2.2.2.1)) x)

noncomputable def disk_New_t3 (N : Nat) : Tab ((Option ((List (List Int)) × ((Option (List (Int × Int))) × (Bool × (Int × Unit))))) × Int × Unit) := []

theorem disk_New_ok3 {N : Nat} {c : Ctx} (hb : Base Go.Proofs.Try.prog (disk_New_E N) c) : CodeOk Go.Proofs.Try.prog c (nodeAt disk_New_body [0, 1, 0, 1, 1, 1]) (disk_New_h3 N) :=
  loop_ok (s := [(6, .box (.pair (.own (.arr 128 (.int .u8))) (.pair (.mp (.int .i64) (.int .i64)) (.pair .bool (.pair (.int .i64) .unit))))), (15, .v (.sl (.pair (.int .i64) (.pair (.int .i64) .unit)))), (0, .v (.int .i64)), (0, .v (.int .i64))]) (m := 27) (disk_New_g3 N) [24, 23, 22, 6] N (fun x => (x.2.1, x.2.2.1)) (fun x => (x.1, x.2.2.2.1)) (fun i v => (v.1, i.1, i.2, v.2, ())) (fun _ => rfl) (evN_sound hb N (disk_New_t3 N) disk_New_L disk_New_body TabOk.nil [0, 0, 1, 0, 1, 1, 1] _ rfl) (fun i v r K => by kernel_rfl)

noncomputable def disk_New (N : Nat) (blocks : Int) (crashes : (List (Int × (Int × Unit)))) : Option ((Option ((List (List Int)) × ((Option (List (Int × Int))) × (Bool × (Int × Unit))))) × Int × Unit) :=
  disk_New_p1 N blocks crashes
  (fun x5 => some ((Option.none), (x5, ())))
  (cond (decide (((0 : Int) ≤ blocks) ∧ ((blocks ≤ blocks) ∧ (((blocks * (128 : Int)) ≤ (281474976710656 : Int)) ∧ (blocks ≤ (9223372036854775807 : Int))))))
    (disk_New_p3 N ((List.replicate (Int.toNat blocks) ((0 : Int) :: (0 : Int) :: (0 : Int) :: (0 : Int) :: (0 : Int) :: (0 : Int) :: (0 : Int) :: (0 : Int) :: (0 : Int) :: (0 : Int) :: (0 : Int) :: (0 : Int) :: (0 : Int) :: (0 : Int) :: (0 : Int) :: (0 : Int) :: (0 : Int) :: (0 : Int) :: (0 : Int) :: (0 : Int) :: (0 : Int) :: (0 : Int) :: (0 : Int) :: (0 : Int) :: (0 : Int) :: (0 : Int) :: (0 : Int) :: (0 : Int) :: (0 : Int) :: (0 : Int) :: (0 : Int) :: (0 : Int) :: (0 : Int) :: (0 : Int) :: (0 : Int) :: (0 : Int) :: (0 : Int) :: (0 : Int) :: (0 : Int) :: (0 : Int) :: (0 : Int) :: (0 : Int) :: (0 : Int) :: (0 : Int) :: (0 : Int) :: (0 : Int) :: (0 : Int) :: (0 : Int) :: (0 : Int) :: (0 : Int) :: (0 : Int) :: (0 : Int) :: (0 : Int) :: (0 : Int) :: (0 : Int) :: (0 : Int) :: (0 : Int) :: (0 : Int) :: (0 : Int) :: (0 : Int) :: (0 : Int) :: (0 : Int) :: (0 : Int) :: (0 : Int) :: (0 : Int) :: (0 : Int) :: (0 : Int) :: (0 : Int) :: (0 : Int) :: (0 : Int) :: (0 : Int) :: (0 : Int) :: (0 : Int) :: (0 : Int) :: (0 : Int) :: (0 : Int) :: (0 : Int) :: (0 : Int) :: (0 : Int) :: (0 : Int) :: (0 : Int) :: (0 : Int) :: (0 : Int) :: (0 : Int) :: (0 : Int) :: (0 : Int) :: (0 : Int) :: (0 : Int) :: (0 : Int) :: (0 : Int) :: (0 : Int) :: (0 : Int) :: (0 : Int) :: (0 : Int) :: (0 : Int) :: (0 : Int) :: (0 : Int) :: (0 : Int) :: (0 : Int) :: (0 : Int) :: (0 : Int) :: (0 : Int) :: (0 : Int) :: (0 : Int) :: (0 : Int) :: (0 : Int) :: (0 : Int) :: (0 : Int) :: (0 : Int) :: (0 : Int) :: (0 : Int) :: (0 : Int) :: (0 : Int) :: (0 : Int) :: (0 : Int) :: (0 : Int) :: (0 : Int) :: (0 : Int) :: (0 : Int) :: (0 : Int) :: (0 : Int) :: (0 : Int) :: (0 : Int) :: (0 : Int) :: (0 : Int) :: (0 : Int) :: (0 : Int) :: (0 : Int) :: ([] : List Int))), ((Option.some ([] : List (Int × Int))), (false, ((0 : Int), ())))) crashes (((List.length crashes) : Nat) : Int) (0 : Int)
      (fun d => some ((Option.some d), ((0 : Int), ()))))
    (none))

noncomputable def disk_New_t (N : Nat) : Tab ((Option ((List (List Int)) × ((Option (List (Int × Int))) × (Bool × (Int × Unit))))) × Int × Unit) := [([0, 1], disk_New_h1 N), ([0, 1, 0, 1, 1, 1], disk_New_h3 N)]

theorem disk_New_link (N : Nat) (x : denS [(0, .v (.int .i64)), (0, .v (.sl (.pair (.int .i64) (.pair (.int .i64) .unit))))]) : evFX (disk_New_E N) N (disk_New_t N) disk_New_L Go.Proofs.Try.f6 (mkS [(0, .v (.int .i64)), (0, .v (.sl (.pair (.int .i64) (.pair (.int .i64) .unit))))] 0 x) (kRes (.otup [(.nb (.pair (.own (.arr 128 (.int .u8))) (.pair (.mp (.int .i64) (.int .i64)) (.pair .bool (.pair (.int .i64) .unit))))), (.int .i64)]) 2) = disk_New N x.1 x.2.1 := by kernel_rfl

noncomputable def disk_New_res (N : Nat) : List A → Res := resOf [(0, .v (.int .i64)), (0, .v (.sl (.pair (.int .i64) (.pair (.int .i64) .unit))))] (fun x => disk_New N x.1 x.2.1) (oRes (.otup [(.nb (.pair (.own (.arr 128 (.int .u8))) (.pair (.mp (.int .i64) (.int .i64)) (.pair .bool (.pair (.int .i64) .unit))))), (.int .i64)]) 2)

theorem disk_New_ct (N : Nat) : Contract Go.Proofs.Try.prog noGlob 6 (disk_New_res N) :=
  Contract.of (E := disk_New_E N) (H := disk_New_t N) (L := disk_New_L) (N := N) (body := disk_New_body) (K := (kRes (.otup [(.nb (.pair (.own (.arr 128 (.int .u8))) (.pair (.mp (.int .i64) (.int .i64)) (.pair .bool (.pair (.int .i64) .unit))))), (.int .i64)]) 2)) (disk_New_Eok N) Go.Proofs.Try.func6 (by kernel_rfl) (by decide) (fun _ hb => (TabOk.cons (disk_New_ok1 hb) (TabOk.cons (disk_New_ok3 hb) TabOk.nil))) (fun x y h => by rw [disk_New_link]; exact h) (kRes_ok (s := (.otup [(.nb (.pair (.own (.arr 128 (.int .u8))) (.pair (.mp (.int .i64) (.int .i64)) (.pair .bool (.pair (.int .i64) .unit))))), (.int .i64)])) (m := 2))

noncomputable def disk_Disk_Blocks_body : Code := (Go.Proofs.Try.f17.body).getD .skip

noncomputable def disk_Disk_Blocks_L : List (List Nat × List Nat) := [([0], [0]), ([0, 0, 1], [4, 0]), ([1, 0, 1], [0]), ([0, 0, 1, 0, 1], [2, 0]), ([1, 0, 1, 0, 1], [2, 0]), ([0, 1, 1], [2, 0]), ([1, 1, 1], [2, 0])]

noncomputable def disk_Disk_Blocks_E (N : Nat) : Env := mkEnv tys noGlob [] [] [] [0] false [] []

theorem disk_Disk_Blocks_Eok (N : Nat) : EnvOk Go.Proofs.Try.prog (disk_Disk_Blocks_E N) := mkEnv_ok mixed tys_ok (FnsOk.nil) (ItsOk.nil)

noncomputable def disk_Disk_Blocks (N : Nat) (d : ((List (List Int)) × ((Option (List (Int × Int))) × (Bool × (Int × Unit))))) : Option (Int × (((List (List Int)) × ((Option (List (Int × Int))) × (Bool × (Int × Unit)))) × Unit)) :=
  some ((((List.length d.1) : Nat) : Int), (d, ()))

noncomputable def disk_Disk_Blocks_t (N : Nat) : Tab (Int × (((List (List Int)) × ((Option (List (Int × Int))) × (Bool × (Int × Unit)))) × Unit)) := []

theorem disk_Disk_Blocks_link (N : Nat) (x : denS [(0, .box (.pair (.own (.arr 128 (.int .u8))) (.pair (.mp (.int .i64) (.int .i64)) (.pair .bool (.pair (.int .i64) .unit)))))]) : evFX (disk_Disk_Blocks_E N) N (disk_Disk_Blocks_t N) disk_Disk_Blocks_L Go.Proofs.Try.f17 (mkS [(0, .box (.pair (.own (.arr 128 (.int .u8))) (.pair (.mp (.int .i64) (.int .i64)) (.pair .bool (.pair (.int .i64) .unit)))))] 0 x) (kResB (.v (.int .i64)) [(0, .box (.pair (.own (.arr 128 (.int .u8))) (.pair (.mp (.int .i64) (.int .i64)) (.pair .bool (.pair (.int .i64) .unit)))))] 0) = disk_Disk_Blocks N x.1 := by kernel_rfl

noncomputable def disk_Disk_Blocks_res (N : Nat) : List A → Res := resOf [(0, .box (.pair (.own (.arr 128 (.int .u8))) (.pair (.mp (.int .i64) (.int .i64)) (.pair .bool (.pair (.int .i64) .unit)))))] (fun x => disk_Disk_Blocks N x.1) (oResB (.v (.int .i64)) [(0, .box (.pair (.own (.arr 128 (.int .u8))) (.pair (.mp (.int .i64) (.int .i64)) (.pair .bool (.pair (.int .i64) .unit)))))] 0)

theorem disk_Disk_Blocks_ct (N : Nat) : Contract Go.Proofs.Try.prog noGlob 17 (disk_Disk_Blocks_res N) :=
  Contract.of (E := disk_Disk_Blocks_E N) (H := disk_Disk_Blocks_t N) (L := disk_Disk_Blocks_L) (N := N) (body := disk_Disk_Blocks_body) (K := (kResB (.v (.int .i64)) [(0, .box (.pair (.own (.arr 128 (.int .u8))) (.pair (.mp (.int .i64) (.int .i64)) (.pair .bool (.pair (.int .i64) .unit)))))] 0)) (disk_Disk_Blocks_Eok N) Go.Proofs.Try.func17 (by kernel_rfl) (by decide) (fun _ hb => TabOk.nil) (fun x y h => by rw [disk_Disk_Blocks_link]; exact h) (kResB_ok (s := (.v (.int .i64))) (os := [(0, .box (.pair (.own (.arr 128 (.int .u8))) (.pair (.mp (.int .i64) (.int .i64)) (.pair .bool (.pair (.int .i64) .unit)))))]) (m := 0))

noncomputable def disk_Disk_Blocks_nil_body : Code := (Go.Proofs.Try.f17.body).getD .skip

noncomputable def disk_Disk_Blocks_nil_L : List (List Nat × List Nat) := [([0], [0]), ([0, 0, 1], [4, 0]), ([1, 0, 1], [0]), ([0, 0, 1, 0, 1], [2]), ([1, 0, 1, 0, 1], [2]), ([0, 1, 1], [2]), ([1, 1, 1], [2])]

noncomputable def disk_Disk_Blocks_nil_E (N : Nat) : Env := mkEnv tys noGlob [] [] [] [] false [] []

theorem disk_Disk_Blocks_nil_Eok (N : Nat) : EnvOk Go.Proofs.Try.prog (disk_Disk_Blocks_nil_E N) := mkEnv_ok mixed tys_ok (FnsOk.nil) (ItsOk.nil)

noncomputable def disk_Disk_Blocks_nil (N : Nat) : Option Int :=
  some (0 : Int)

noncomputable def disk_Disk_Blocks_nil_t (N : Nat) : Tab Int := []

theorem disk_Disk_Blocks_nil_link (N : Nat) (x : denS [(0, .nilp)]) : evFX (disk_Disk_Blocks_nil_E N) N (disk_Disk_Blocks_nil_t N) disk_Disk_Blocks_nil_L Go.Proofs.Try.f17 (mkS [(0, .nilp)] 0 x) (kRes (.v (.int .i64)) 1) = disk_Disk_Blocks_nil N := by kernel_rfl

noncomputable def disk_Disk_Blocks_nil_res (N : Nat) : List A → Res := resOf [(0, .nilp)] (fun x => disk_Disk_Blocks_nil N) (oRes (.v (.int .i64)) 1)

theorem disk_Disk_Blocks_nil_ct (N : Nat) : Contract Go.Proofs.Try.prog noGlob 17 (disk_Disk_Blocks_nil_res N) :=
  Contract.of (E := disk_Disk_Blocks_nil_E N) (H := disk_Disk_Blocks_nil_t N) (L := disk_Disk_Blocks_nil_L) (N := N) (body := disk_Disk_Blocks_nil_body) (K := (kRes (.v (.int .i64)) 1)) (disk_Disk_Blocks_nil_Eok N) Go.Proofs.Try.func17 (by kernel_rfl) (by decide) (fun _ hb => TabOk.nil) (fun x y h => by rw [disk_Disk_Blocks_nil_link]; exact h) (kRes_ok (s := (.v (.int .i64))) (m := 1))

noncomputable def disk_Disk_Blocks_nil_all (N : Nat) : List A → Res := resAlt [(0, .nilp)] (fun x => disk_Disk_Blocks_nil N) (oRes (.v (.int .i64)) 1) (disk_Disk_Blocks_res N)

theorem disk_Disk_Blocks_nil_allct (N : Nat) : Contract Go.Proofs.Try.prog noGlob 17 (disk_Disk_Blocks_nil_all N) := Contract.alt (disk_Disk_Blocks_nil_ct N) (disk_Disk_Blocks_ct N)

noncomputable def disk_Disk_check_body : Code := (Go.Proofs.Try.f18.body).getD .skip

noncomputable def disk_Disk_check_L : List (List Nat × List Nat) := [([0], [0, 1]), ([0, 0, 0, 1], [5, 0, 1]), ([1, 0, 0, 1], [0]), ([0, 1, 1, 0, 0, 1], [9, 0, 1]), ([1, 1, 1, 0, 0, 1], [0]), ([0, 1, 1, 1, 1, 0, 0, 1], [14, 0]), ([1, 1, 1, 1, 1, 0, 0, 1], [0]), ([0, 0, 1, 1, 1, 1, 1, 0, 0, 1], [4, 0]), ([1, 0, 1, 1, 1, 1, 1, 0, 0, 1], [4, 0]), ([0, 0, 1, 1, 1, 0, 0, 1], [4, 0]), ([1, 0, 1, 1, 1, 0, 0, 1], [4, 0]), ([0, 0, 1, 0, 0, 1], [4, 0]), ([1, 0, 1, 0, 0, 1], [4, 0]), ([0, 1], [0]), ([0, 1, 1], [4, 0]), ([1, 1, 1], [4, 0])]

noncomputable def disk_Disk_check_E (N : Nat) : Env := mkEnv tys noGlob [(17, disk_Disk_Blocks_nil_all N)] [] [] [0] false [] []

theorem disk_Disk_check_Eok (N : Nat) : EnvOk Go.Proofs.Try.prog (disk_Disk_check_E N) := mkEnv_ok mixed tys_ok (FnsOk.cons (disk_Disk_Blocks_nil_allct N) (FnsOk.nil)) (ItsOk.nil)

noncomputable def disk_Disk_check_p1 (N : Nat) (d : ((List (List Int)) × ((Option (List (Int × Int))) × (Bool × (Int × Unit))))) (at_ : Int) (k0 : Bool → Option (Int × (((List (List Int)) × ((Option (List (Int × Int))) × (Bool × (Int × Unit)))) × Unit))) : Option (Int × (((List (List Int)) × ((Option (List (Int × Int))) × (Bool × (Int × Unit)))) × Unit)) :=
  cond (decide (at_ < (0 : Int)))
  (k0 true)
  (k0 (decide ((((List.length d.1) : Nat) : Int) ≤ at_)))

noncomputable def disk_Disk_check_g1 (N : Nat) (x : denS [(0, .box (.pair (.own (.arr 128 (.int .u8))) (.pair (.mp (.int .i64) (.int .i64)) (.pair .bool (.pair (.int .i64) .unit))))), (0, .v (.int .i64))]) (K : Ex → List A → Option (Int × (((List (List Int)) × ((Option (List (Int × Int))) × (Bool × (Int × Unit)))) × Unit))) : Option (Int × (((List (List Int)) × ((Option (List (Int × Int))) × (Bool × (Int × Unit)))) × Unit)) :=
  disk_Disk_check_p1 N x.1 x.2.1 (fun a1 => (K .normal (mkS [(0, .box (.pair (.own (.arr 128 (.int .u8))) (.pair (.mp (.int .i64) (.int .i64)) (.pair .bool (.pair (.int .i64) .unit))))), (13, .v .bool)] 11 (x.1, a1, ()))))

noncomputable def disk_Disk_check_h1 (N : Nat) : Hd (Int × (((List (List Int)) × ((Option (List (Int × Int))) × (Bool × (Int × Unit)))) × Unit)) := fun st K => (unS [(0, .box (.pair (.own (.arr 128 (.int .u8))) (.pair (.mp (.int .i64) (.int .i64)) (.pair .bool (.pair (.int .i64) .unit))))), (0, .v (.int .i64))] 24 (restr [1, 0] 0 st)).bind fun x => disk_Disk_check_g1 N x K

noncomputable def disk_Disk_check_t1 (N : Nat) : Tab (Int × (((List (List Int)) × ((Option (List (Int × Int))) × (Bool × (Int × Unit)))) × Unit)) := []

theorem disk_Disk_check_ok1 {N : Nat} {c : Ctx} (hb : Base Go.Proofs.Try.prog (disk_Disk_check_E N) c) : CodeOk Go.Proofs.Try.prog c (nodeAt disk_Disk_check_body [0, 1, 1, 1, 1, 0, 0, 1]) (disk_Disk_check_h1 N) :=
  piece_ok (s := [(0, .box (.pair (.own (.arr 128 (.int .u8))) (.pair (.mp (.int .i64) (.int .i64)) (.pair .bool (.pair (.int .i64) .unit))))), (0, .v (.int .i64))]) (m := 24) (g := disk_Disk_check_g1 N) [1, 0] (evN_sound hb N (disk_Disk_check_t1 N) disk_Disk_check_L disk_Disk_check_body TabOk.nil [0, 1, 1, 1, 1, 0, 0, 1] _ rfl) (fun x K => by kernel_rfl)

noncomputable def disk_Disk_check (N : Nat) (d : ((List (List Int)) × ((Option (List (Int × Int))) × (Bool × (Int × Unit))))) (at_ : Int) : Option (Int × (((List (List Int)) × ((Option (List (Int × Int))) × (Bool × (Int × Unit)))) × Unit)) :=
  cond ((((List.length d.1) : Nat) : Int) == (0 : Int))
  (some ((21 : Int), (d, ())))
  (cond d.2.2.1
    (some ((20 : Int), (d, ())))
    (disk_Disk_check_p1 N d at_
      (fun x14 => cond x14
        (some ((7 : Int), (d, ())))
        (some ((0 : Int), (d, ()))))))

noncomputable def disk_Disk_check_t (N : Nat) : Tab (Int × (((List (List Int)) × ((Option (List (Int × Int))) × (Bool × (Int × Unit)))) × Unit)) := [([0, 1, 1, 1, 1, 0, 0, 1], disk_Disk_check_h1 N)]

theorem disk_Disk_check_link (N : Nat) (x : denS [(0, .box (.pair (.own (.arr 128 (.int .u8))) (.pair (.mp (.int .i64) (.int .i64)) (.pair .bool (.pair (.int .i64) .unit))))), (0, .v (.int .i64))]) : evFX (disk_Disk_check_E N) N (disk_Disk_check_t N) disk_Disk_check_L Go.Proofs.Try.f18 (mkS [(0, .box (.pair (.own (.arr 128 (.int .u8))) (.pair (.mp (.int .i64) (.int .i64)) (.pair .bool (.pair (.int .i64) .unit))))), (0, .v (.int .i64))] 0 x) (kResB (.v (.int .i64)) [(0, .box (.pair (.own (.arr 128 (.int .u8))) (.pair (.mp (.int .i64) (.int .i64)) (.pair .bool (.pair (.int .i64) .unit)))))] 1) = disk_Disk_check N x.1 x.2.1 := by kernel_rfl

noncomputable def disk_Disk_check_res (N : Nat) : List A → Res := resOf [(0, .box (.pair (.own (.arr 128 (.int .u8))) (.pair (.mp (.int .i64) (.int .i64)) (.pair .bool (.pair (.int .i64) .unit))))), (0, .v (.int .i64))] (fun x => disk_Disk_check N x.1 x.2.1) (oResB (.v (.int .i64)) [(0, .box (.pair (.own (.arr 128 (.int .u8))) (.pair (.mp (.int .i64) (.int .i64)) (.pair .bool (.pair (.int .i64) .unit)))))] 1)

theorem disk_Disk_check_ct (N : Nat) : Contract Go.Proofs.Try.prog noGlob 18 (disk_Disk_check_res N) :=
  Contract.of (E := disk_Disk_check_E N) (H := disk_Disk_check_t N) (L := disk_Disk_check_L) (N := N) (body := disk_Disk_check_body) (K := (kResB (.v (.int .i64)) [(0, .box (.pair (.own (.arr 128 (.int .u8))) (.pair (.mp (.int .i64) (.int .i64)) (.pair .bool (.pair (.int .i64) .unit)))))] 1)) (disk_Disk_check_Eok N) Go.Proofs.Try.func18 (by kernel_rfl) (by decide) (fun _ hb => (TabOk.cons (disk_Disk_check_ok1 hb) TabOk.nil)) (fun x y h => by rw [disk_Disk_check_link]; exact h) (kResB_ok (s := (.v (.int .i64))) (os := [(0, .box (.pair (.own (.arr 128 (.int .u8))) (.pair (.mp (.int .i64) (.int .i64)) (.pair .bool (.pair (.int .i64) .unit)))))]) (m := 1))

noncomputable def disk_Disk_check_nil_body : Code := (Go.Proofs.Try.f18.body).getD .skip

noncomputable def disk_Disk_check_nil_L : List (List Nat × List Nat) := [([0], [0, 1]), ([0, 0, 0, 1], [5, 0, 1]), ([1, 0, 0, 1], []), ([0, 1, 1, 0, 0, 1], [9, 1, 0]), ([1, 1, 1, 0, 0, 1], []), ([0, 1, 1, 1, 1, 0, 0, 1], [14]), ([1, 1, 1, 1, 1, 0, 0, 1], []), ([0, 0, 1, 1, 1, 1, 1, 0, 0, 1], [4]), ([1, 0, 1, 1, 1, 1, 1, 0, 0, 1], [4]), ([0, 0, 1, 1, 1, 0, 0, 1], [4]), ([1, 0, 1, 1, 1, 0, 0, 1], [4]), ([0, 0, 1, 0, 0, 1], [4]), ([1, 0, 1, 0, 0, 1], [4]), ([0, 1], []), ([0, 1, 1], [4]), ([1, 1, 1], [4])]

noncomputable def disk_Disk_check_nil_E (N : Nat) : Env := mkEnv tys noGlob [(17, disk_Disk_Blocks_nil_all N)] [] [] [] false [] []

theorem disk_Disk_check_nil_Eok (N : Nat) : EnvOk Go.Proofs.Try.prog (disk_Disk_check_nil_E N) := mkEnv_ok mixed tys_ok (FnsOk.cons (disk_Disk_Blocks_nil_allct N) (FnsOk.nil)) (ItsOk.nil)

noncomputable def disk_Disk_check_nil (N : Nat) (at_ : Int) : Option Int :=
  some (21 : Int)

noncomputable def disk_Disk_check_nil_t (N : Nat) : Tab Int := []

theorem disk_Disk_check_nil_link (N : Nat) (x : denS [(0, .nilp), (0, .v (.int .i64))]) : evFX (disk_Disk_check_nil_E N) N (disk_Disk_check_nil_t N) disk_Disk_check_nil_L Go.Proofs.Try.f18 (mkS [(0, .nilp), (0, .v (.int .i64))] 0 x) (kRes (.v (.int .i64)) 2) = disk_Disk_check_nil N x.2.1 := by kernel_rfl

noncomputable def disk_Disk_check_nil_res (N : Nat) : List A → Res := resOf [(0, .nilp), (0, .v (.int .i64))] (fun x => disk_Disk_check_nil N x.2.1) (oRes (.v (.int .i64)) 2)

theorem disk_Disk_check_nil_ct (N : Nat) : Contract Go.Proofs.Try.prog noGlob 18 (disk_Disk_check_nil_res N) :=
  Contract.of (E := disk_Disk_check_nil_E N) (H := disk_Disk_check_nil_t N) (L := disk_Disk_check_nil_L) (N := N) (body := disk_Disk_check_nil_body) (K := (kRes (.v (.int .i64)) 2)) (disk_Disk_check_nil_Eok N) Go.Proofs.Try.func18 (by kernel_rfl) (by decide) (fun _ hb => TabOk.nil) (fun x y h => by rw [disk_Disk_check_nil_link]; exact h) (kRes_ok (s := (.v (.int .i64))) (m := 2))

noncomputable def disk_Disk_check_nil_all (N : Nat) : List A → Res := resAlt [(0, .nilp), (0, .v (.int .i64))] (fun x => disk_Disk_check_nil N x.2.1) (oRes (.v (.int .i64)) 2) (disk_Disk_check_res N)

theorem disk_Disk_check_nil_allct (N : Nat) : Contract Go.Proofs.Try.prog noGlob 18 (disk_Disk_check_nil_all N) := Contract.alt (disk_Disk_check_nil_ct N) (disk_Disk_check_ct N)

noncomputable def disk_Disk_Write_body : Code := (Go.Proofs.Try.f10.body).getD .skip

noncomputable def disk_Disk_Write_L : List (List Nat × List Nat) := [([0], [0, 1, 2]), ([0, 0, 1], [7, 0, 2, 1]), ([0, 1, 0, 1], [14, 7, 0, 2, 1]), ([1, 1, 0, 1], [2, 0, 1]), ([0, 0, 1, 1, 0, 1], [6, 0]), ([1, 0, 1, 1, 0, 1], [6, 0]), ([0, 0, 1, 1], [18, 0, 1, 2]), ([1, 0, 1, 1], [0, 1, 2]), ([0, 0, 1, 0, 1, 1], [6, 0]), ([1, 0, 1, 0, 1, 1], [6, 0]), ([0, 1, 1, 1], [0, 9, 1, 8, 2]), ([0, 1, 1, 1, 1], [9, 0, 1, 8, 2]), ([0, 0, 1, 1, 1, 1, 1], [38, 0, 1, 8, 2]), ([1, 0, 1, 1, 1, 1, 1], [0, 1, 2]), ([0, 0, 1, 0, 1, 1, 1, 1, 1], [0]), ([0, 1, 0, 1, 0, 1, 1, 1, 1, 1], [0]), ([0, 1, 1, 0, 1, 0, 1, 1, 1, 1, 1], [6, 0]), ([1, 1, 1, 0, 1, 0, 1, 1, 1, 1, 1], [6, 0]), ([0, 1, 1, 1, 1, 1, 1], [0]), ([0, 1, 1, 1, 1, 1, 1, 1], [6, 0]), ([1, 1, 1, 1, 1, 1, 1, 1], [6, 0])]

noncomputable def disk_Disk_Write_E (N : Nat) : Env := mkEnv tys noGlob [(18, disk_Disk_check_nil_all N)] [] [] [0] false [] []

theorem disk_Disk_Write_Eok (N : Nat) : EnvOk Go.Proofs.Try.prog (disk_Disk_Write_E N) := mkEnv_ok mixed tys_ok (FnsOk.cons (disk_Disk_check_nil_allct N) (FnsOk.nil)) (ItsOk.nil)

noncomputable def disk_Disk_Write (N : Nat) (d : ((List (List Int)) × ((Option (List (Int × Int))) × (Bool × (Int × Unit))))) (at_ : Int) (block : (List UInt8)) : Option (Int × (((List (List Int)) × ((Option (List (Int × Int))) × (Bool × (Int × Unit)))) × Unit)) :=
  (disk_Disk_check N d at_).bind fun y =>
  cond (y.1 != (0 : Int))
  (some (y.1, (y.2.1, ())))
  (cond ((((List.length block) : Nat) : Int) != (128 : Int))
    (some ((7 : Int), (y.2.1, ())))
    (cond (Option.isSome (Go.Lift.lookM (Go.Lift.eqD (Go.Lift.T.int Go.IntKind.i64)) y.2.1.2.2.2.1 (Option.getD y.2.1.2.1 ([] : List (Int × Int)))))
      (cond (Go.Lift.inR at_ (List.length y.2.1.1))
        (cond (decide (((0 : Int) ≤ (Option.getD (Go.Lift.lookM (Go.Lift.eqD (Go.Lift.T.int Go.IntKind.i64)) y.2.1.2.2.2.1 (Option.getD y.2.1.2.1 ([] : List (Int × Int)))) (0 : Int))) ∧ ((Option.getD (Go.Lift.lookM (Go.Lift.eqD (Go.Lift.T.int Go.IntKind.i64)) y.2.1.2.2.2.1 (Option.getD y.2.1.2.1 ([] : List (Int × Int)))) (0 : Int)) ≤ (128 : Int))))
          (cond (decide ((Int.toNat at_) < (List.length y.2.1.1)))
            (some ((20 : Int), (((List.set y.2.1.1 (Int.toNat at_) (Go.Lift.over (List.getD y.2.1.1 (Int.toNat at_) ([] : List Int)) 0 (Int.toNat (Option.getD (Go.Lift.lookM (Go.Lift.eqD (Go.Lift.T.int Go.IntKind.i64)) y.2.1.2.2.2.1 (Option.getD y.2.1.2.1 ([] : List (Int × Int)))) (0 : Int))) (Go.Lift.ofStr block))), (y.2.1.2.1, (true, ((Go.IntKind.wrap Go.IntKind.i64 (y.2.1.2.2.2.1 + (1 : Int))), y.2.1.2.2.2.2)))), ())))
            (none))
          (none))
        (none))
      (cond (Go.Lift.inR at_ (List.length y.2.1.1))
        (cond (decide ((Int.toNat at_) < (List.length y.2.1.1)))
          (some ((0 : Int), (((List.set y.2.1.1 (Int.toNat at_) (Go.Lift.over (List.getD y.2.1.1 (Int.toNat at_) ([] : List Int)) 0 128 (Go.Lift.ofStr block))), (y.2.1.2.1, (y.2.1.2.2.1, ((Go.IntKind.wrap Go.IntKind.i64 (y.2.1.2.2.2.1 + (1 : Int))), y.2.1.2.2.2.2)))), ())))
          (none))
        (none))))

noncomputable def disk_Disk_Write_t (N : Nat) : Tab (Int × (((List (List Int)) × ((Option (List (Int × Int))) × (Bool × (Int × Unit)))) × Unit)) := []

theorem disk_Disk_Write_link (N : Nat) (x : denS [(0, .box (.pair (.own (.arr 128 (.int .u8))) (.pair (.mp (.int .i64) (.int .i64)) (.pair .bool (.pair (.int .i64) .unit))))), (0, .v (.int .i64)), (0, .v .str)]) : evFX (disk_Disk_Write_E N) N (disk_Disk_Write_t N) disk_Disk_Write_L Go.Proofs.Try.f10 (mkS [(0, .box (.pair (.own (.arr 128 (.int .u8))) (.pair (.mp (.int .i64) (.int .i64)) (.pair .bool (.pair (.int .i64) .unit))))), (0, .v (.int .i64)), (0, .v .str)] 0 x) (kResB (.v (.int .i64)) [(0, .box (.pair (.own (.arr 128 (.int .u8))) (.pair (.mp (.int .i64) (.int .i64)) (.pair .bool (.pair (.int .i64) .unit)))))] 2) = disk_Disk_Write N x.1 x.2.1 x.2.2.1 := by kernel_rfl

noncomputable def disk_Disk_Write_res (N : Nat) : List A → Res := resOf [(0, .box (.pair (.own (.arr 128 (.int .u8))) (.pair (.mp (.int .i64) (.int .i64)) (.pair .bool (.pair (.int .i64) .unit))))), (0, .v (.int .i64)), (0, .v .str)] (fun x => disk_Disk_Write N x.1 x.2.1 x.2.2.1) (oResB (.v (.int .i64)) [(0, .box (.pair (.own (.arr 128 (.int .u8))) (.pair (.mp (.int .i64) (.int .i64)) (.pair .bool (.pair (.int .i64) .unit)))))] 2)

theorem disk_Disk_Write_ct (N : Nat) : Contract Go.Proofs.Try.prog noGlob 10 (disk_Disk_Write_res N) :=
  Contract.of (E := disk_Disk_Write_E N) (H := disk_Disk_Write_t N) (L := disk_Disk_Write_L) (N := N) (body := disk_Disk_Write_body) (K := (kResB (.v (.int .i64)) [(0, .box (.pair (.own (.arr 128 (.int .u8))) (.pair (.mp (.int .i64) (.int .i64)) (.pair .bool (.pair (.int .i64) .unit)))))] 2)) (disk_Disk_Write_Eok N) Go.Proofs.Try.func10 (by kernel_rfl) (by decide) (fun _ hb => TabOk.nil) (fun x y h => by rw [disk_Disk_Write_link]; exact h) (kResB_ok (s := (.v (.int .i64))) (os := [(0, .box (.pair (.own (.arr 128 (.int .u8))) (.pair (.mp (.int .i64) (.int .i64)) (.pair .bool (.pair (.int .i64) .unit)))))]) (m := 2))

noncomputable def disk_Disk_Write_nil_body : Code := (Go.Proofs.Try.f10.body).getD .skip

noncomputable def disk_Disk_Write_nil_L : List (List Nat × List Nat) := [([0], [0, 1, 2]), ([0, 0, 1], [7, 2, 0, 1]), ([0, 1, 0, 1], [14, 7, 2, 0, 1]), ([1, 1, 0, 1], [2, 0, 1]), ([0, 0, 1, 1, 0, 1], [6]), ([1, 0, 1, 1, 0, 1], [6]), ([0, 0, 1, 1], [18, 0, 1, 2]), ([1, 0, 1, 1], [0, 1, 2]), ([0, 0, 1, 0, 1, 1], [6]), ([1, 0, 1, 0, 1, 1], [6]), ([0, 1, 1, 1], [0, 9, 1, 8, 2]), ([0, 1, 1, 1, 1], [9, 0, 1, 8, 2]), ([0, 0, 1, 1, 1, 1, 1], [38, 0, 1, 8, 2]), ([1, 0, 1, 1, 1, 1, 1], [0, 1, 2]), ([0, 0, 1, 0, 1, 1, 1, 1, 1], [0]), ([0, 1, 0, 1, 0, 1, 1, 1, 1, 1], []), ([0, 1, 1, 0, 1, 0, 1, 1, 1, 1, 1], [6]), ([1, 1, 1, 0, 1, 0, 1, 1, 1, 1, 1], [6]), ([0, 1, 1, 1, 1, 1, 1], []), ([0, 1, 1, 1, 1, 1, 1, 1], [6]), ([1, 1, 1, 1, 1, 1, 1, 1], [6])]

noncomputable def disk_Disk_Write_nil_E (N : Nat) : Env := mkEnv tys noGlob [(18, disk_Disk_check_nil_all N)] [] [] [] false [] []

theorem disk_Disk_Write_nil_Eok (N : Nat) : EnvOk Go.Proofs.Try.prog (disk_Disk_Write_nil_E N) := mkEnv_ok mixed tys_ok (FnsOk.cons (disk_Disk_check_nil_allct N) (FnsOk.nil)) (ItsOk.nil)

noncomputable def disk_Disk_Write_nil (N : Nat) (at_ : Int) (block : (List UInt8)) : Option Int :=
  some (21 : Int)

noncomputable def disk_Disk_Write_nil_t (N : Nat) : Tab Int := []

theorem disk_Disk_Write_nil_link (N : Nat) (x : denS [(0, .nilp), (0, .v (.int .i64)), (0, .v .str)]) : evFX (disk_Disk_Write_nil_E N) N (disk_Disk_Write_nil_t N) disk_Disk_Write_nil_L Go.Proofs.Try.f10 (mkS [(0, .nilp), (0, .v (.int .i64)), (0, .v .str)] 0 x) (kRes (.v (.int .i64)) 3) = disk_Disk_Write_nil N x.2.1 x.2.2.1 := by kernel_rfl

noncomputable def disk_Disk_Write_nil_res (N : Nat) : List A → Res := resOf [(0, .nilp), (0, .v (.int .i64)), (0, .v .str)] (fun x => disk_Disk_Write_nil N x.2.1 x.2.2.1) (oRes (.v (.int .i64)) 3)

theorem disk_Disk_Write_nil_ct (N : Nat) : Contract Go.Proofs.Try.prog noGlob 10 (disk_Disk_Write_nil_res N) :=
  Contract.of (E := disk_Disk_Write_nil_E N) (H := disk_Disk_Write_nil_t N) (L := disk_Disk_Write_nil_L) (N := N) (body := disk_Disk_Write_nil_body) (K := (kRes (.v (.int .i64)) 3)) (disk_Disk_Write_nil_Eok N) Go.Proofs.Try.func10 (by kernel_rfl) (by decide) (fun _ hb => TabOk.nil) (fun x y h => by rw [disk_Disk_Write_nil_link]; exact h) (kRes_ok (s := (.v (.int .i64))) (m := 3))

noncomputable def disk_Disk_Write_nil_all (N : Nat) : List A → Res := resAlt [(0, .nilp), (0, .v (.int .i64)), (0, .v .str)] (fun x => disk_Disk_Write_nil N x.2.1 x.2.2.1) (oRes (.v (.int .i64)) 3) (disk_Disk_Write_res N)

theorem disk_Disk_Write_nil_allct (N : Nat) : Contract Go.Proofs.Try.prog noGlob 10 (disk_Disk_Write_nil_all N) := Contract.alt (disk_Disk_Write_nil_ct N) (disk_Disk_Write_ct N)

noncomputable def disk_Disk_Read_body : Code := (Go.Proofs.Try.f11.body).getD .skip

noncomputable def disk_Disk_Read_L : List (List Nat × List Nat) := [([0], [0, 1]), ([0, 0, 1], [6, 0, 1]), ([0, 1, 0, 1], [11, 6, 0, 1]), ([1, 1, 0, 1], [0, 1]), ([0, 0, 1, 1, 0, 1], [4, 5, 0]), ([1, 0, 1, 1, 0, 1], [4, 5, 0]), ([0, 1, 1], [4, 5, 0]), ([1, 1, 1], [4, 5, 0])]

noncomputable def disk_Disk_Read_E (N : Nat) : Env := mkEnv tys noGlob [(18, disk_Disk_check_nil_all N)] [] [] [0] false [] []

theorem disk_Disk_Read_Eok (N : Nat) : EnvOk Go.Proofs.Try.prog (disk_Disk_Read_E N) := mkEnv_ok mixed tys_ok (FnsOk.cons (disk_Disk_check_nil_allct N) (FnsOk.nil)) (ItsOk.nil)

noncomputable def disk_Disk_Read (N : Nat) (d : ((List (List Int)) × ((Option (List (Int × Int))) × (Bool × (Int × Unit))))) (at_ : Int) : Option (((List UInt8) × Int × Unit) × (((List (List Int)) × ((Option (List (Int × Int))) × (Bool × (Int × Unit)))) × Unit)) :=
  (disk_Disk_check N d at_).bind fun y =>
  cond (y.1 != (0 : Int))
  (some ((([] : List UInt8), (y.1, ())), (y.2.1, ())))
  (cond (Go.Lift.inR at_ (List.length y.2.1.1))
    (cond (decide ((Int.toNat at_) < (List.length y.2.1.1)))
      (some (((Go.Lift.toStr (Go.Lift.cut (List.getD y.2.1.1 (Int.toNat at_) ([] : List Int)) 0 128)), ((0 : Int), ())), (y.2.1, ())))
      (none))
    (none))

noncomputable def disk_Disk_Read_t (N : Nat) : Tab (((List UInt8) × Int × Unit) × (((List (List Int)) × ((Option (List (Int × Int))) × (Bool × (Int × Unit)))) × Unit)) := []

theorem disk_Disk_Read_link (N : Nat) (x : denS [(0, .box (.pair (.own (.arr 128 (.int .u8))) (.pair (.mp (.int .i64) (.int .i64)) (.pair .bool (.pair (.int .i64) .unit))))), (0, .v (.int .i64))]) : evFX (disk_Disk_Read_E N) N (disk_Disk_Read_t N) disk_Disk_Read_L Go.Proofs.Try.f11 (mkS [(0, .box (.pair (.own (.arr 128 (.int .u8))) (.pair (.mp (.int .i64) (.int .i64)) (.pair .bool (.pair (.int .i64) .unit))))), (0, .v (.int .i64))] 0 x) (kResB (.tup [.str, (.int .i64)]) [(0, .box (.pair (.own (.arr 128 (.int .u8))) (.pair (.mp (.int .i64) (.int .i64)) (.pair .bool (.pair (.int .i64) .unit)))))] 1) = disk_Disk_Read N x.1 x.2.1 := by kernel_rfl

noncomputable def disk_Disk_Read_res (N : Nat) : List A → Res := resOf [(0, .box (.pair (.own (.arr 128 (.int .u8))) (.pair (.mp (.int .i64) (.int .i64)) (.pair .bool (.pair (.int .i64) .unit))))), (0, .v (.int .i64))] (fun x => disk_Disk_Read N x.1 x.2.1) (oResB (.tup [.str, (.int .i64)]) [(0, .box (.pair (.own (.arr 128 (.int .u8))) (.pair (.mp (.int .i64) (.int .i64)) (.pair .bool (.pair (.int .i64) .unit)))))] 1)

theorem disk_Disk_Read_ct (N : Nat) : Contract Go.Proofs.Try.prog noGlob 11 (disk_Disk_Read_res N) :=
  Contract.of (E := disk_Disk_Read_E N) (H := disk_Disk_Read_t N) (L := disk_Disk_Read_L) (N := N) (body := disk_Disk_Read_body) (K := (kResB (.tup [.str, (.int .i64)]) [(0, .box (.pair (.own (.arr 128 (.int .u8))) (.pair (.mp (.int .i64) (.int .i64)) (.pair .bool (.pair (.int .i64) .unit)))))] 1)) (disk_Disk_Read_Eok N) Go.Proofs.Try.func11 (by kernel_rfl) (by decide) (fun _ hb => TabOk.nil) (fun x y h => by rw [disk_Disk_Read_link]; exact h) (kResB_ok (s := (.tup [.str, (.int .i64)])) (os := [(0, .box (.pair (.own (.arr 128 (.int .u8))) (.pair (.mp (.int .i64) (.int .i64)) (.pair .bool (.pair (.int .i64) .unit)))))]) (m := 1))

noncomputable def disk_Disk_Read_nil_body : Code := (Go.Proofs.Try.f11.body).getD .skip

noncomputable def disk_Disk_Read_nil_L : List (List Nat × List Nat) := [([0], [0, 1]), ([0, 0, 1], [6, 0, 1]), ([0, 1, 0, 1], [11, 6, 0, 1]), ([1, 1, 0, 1], [0, 1]), ([0, 0, 1, 1, 0, 1], [4, 5]), ([1, 0, 1, 1, 0, 1], [4, 5]), ([0, 1, 1], [4, 5]), ([1, 1, 1], [4, 5])]

noncomputable def disk_Disk_Read_nil_E (N : Nat) : Env := mkEnv tys noGlob [(18, disk_Disk_check_nil_all N)] [] [] [] false [] []

theorem disk_Disk_Read_nil_Eok (N : Nat) : EnvOk Go.Proofs.Try.prog (disk_Disk_Read_nil_E N) := mkEnv_ok mixed tys_ok (FnsOk.cons (disk_Disk_check_nil_allct N) (FnsOk.nil)) (ItsOk.nil)

noncomputable def disk_Disk_Read_nil (N : Nat) (at_ : Int) : Option ((List UInt8) × Int × Unit) :=
  some (([] : List UInt8), ((21 : Int), ()))

noncomputable def disk_Disk_Read_nil_t (N : Nat) : Tab ((List UInt8) × Int × Unit) := []

theorem disk_Disk_Read_nil_link (N : Nat) (x : denS [(0, .nilp), (0, .v (.int .i64))]) : evFX (disk_Disk_Read_nil_E N) N (disk_Disk_Read_nil_t N) disk_Disk_Read_nil_L Go.Proofs.Try.f11 (mkS [(0, .nilp), (0, .v (.int .i64))] 0 x) (kRes (.tup [.str, (.int .i64)]) 2) = disk_Disk_Read_nil N x.2.1 := by kernel_rfl

noncomputable def disk_Disk_Read_nil_res (N : Nat) : List A → Res := resOf [(0, .nilp), (0, .v (.int .i64))] (fun x => disk_Disk_Read_nil N x.2.1) (oRes (.tup [.str, (.int .i64)]) 2)

theorem disk_Disk_Read_nil_ct (N : Nat) : Contract Go.Proofs.Try.prog noGlob 11 (disk_Disk_Read_nil_res N) :=
  Contract.of (E := disk_Disk_Read_nil_E N) (H := disk_Disk_Read_nil_t N) (L := disk_Disk_Read_nil_L) (N := N) (body := disk_Disk_Read_nil_body) (K := (kRes (.tup [.str, (.int .i64)]) 2)) (disk_Disk_Read_nil_Eok N) Go.Proofs.Try.func11 (by kernel_rfl) (by decide) (fun _ hb => TabOk.nil) (fun x y h => by rw [disk_Disk_Read_nil_link]; exact h) (kRes_ok (s := (.tup [.str, (.int .i64)])) (m := 2))

noncomputable def disk_Disk_Read_nil_all (N : Nat) : List A → Res := resAlt [(0, .nilp), (0, .v (.int .i64))] (fun x => disk_Disk_Read_nil N x.2.1) (oRes (.tup [.str, (.int .i64)]) 2) (disk_Disk_Read_res N)

theorem disk_Disk_Read_nil_allct (N : Nat) : Contract Go.Proofs.Try.prog noGlob 11 (disk_Disk_Read_nil_all N) := Contract.alt (disk_Disk_Read_nil_ct N) (disk_Disk_Read_ct N)

noncomputable def disk_Disk_Power_body : Code := (Go.Proofs.Try.f13.body).getD .skip

noncomputable def disk_Disk_Power_L : List (List Nat × List Nat) := [([0], [3, 0]), ([1], [0]), ([0, 1], [0])]

noncomputable def disk_Disk_Power_E (N : Nat) : Env := mkEnv tys noGlob [] [] [] [0] false [] []

theorem disk_Disk_Power_Eok (N : Nat) : EnvOk Go.Proofs.Try.prog (disk_Disk_Power_E N) := mkEnv_ok mixed tys_ok (FnsOk.nil) (ItsOk.nil)

noncomputable def disk_Disk_Power (N : Nat) (d : ((List (List Int)) × ((Option (List (Int × Int))) × (Bool × (Int × Unit))))) : Option ((Unit) × (((List (List Int)) × ((Option (List (Int × Int))) × (Bool × (Int × Unit)))) × Unit)) :=
  some ((), ((d.1, (d.2.1, (false, d.2.2.2))), ()))

noncomputable def disk_Disk_Power_t (N : Nat) : Tab ((Unit) × (((List (List Int)) × ((Option (List (Int × Int))) × (Bool × (Int × Unit)))) × Unit)) := []

theorem disk_Disk_Power_link (N : Nat) (x : denS [(0, .box (.pair (.own (.arr 128 (.int .u8))) (.pair (.mp (.int .i64) (.int .i64)) (.pair .bool (.pair (.int .i64) .unit)))))]) : evFX (disk_Disk_Power_E N) N (disk_Disk_Power_t N) disk_Disk_Power_L Go.Proofs.Try.f13 (mkS [(0, .box (.pair (.own (.arr 128 (.int .u8))) (.pair (.mp (.int .i64) (.int .i64)) (.pair .bool (.pair (.int .i64) .unit)))))] 0 x) (kResB (.tup []) [(0, .box (.pair (.own (.arr 128 (.int .u8))) (.pair (.mp (.int .i64) (.int .i64)) (.pair .bool (.pair (.int .i64) .unit)))))] 0) = disk_Disk_Power N x.1 := by kernel_rfl

noncomputable def disk_Disk_Power_res (N : Nat) : List A → Res := resOf [(0, .box (.pair (.own (.arr 128 (.int .u8))) (.pair (.mp (.int .i64) (.int .i64)) (.pair .bool (.pair (.int .i64) .unit)))))] (fun x => disk_Disk_Power N x.1) (oResB (.tup []) [(0, .box (.pair (.own (.arr 128 (.int .u8))) (.pair (.mp (.int .i64) (.int .i64)) (.pair .bool (.pair (.int .i64) .unit)))))] 0)

theorem disk_Disk_Power_ct (N : Nat) : Contract Go.Proofs.Try.prog noGlob 13 (disk_Disk_Power_res N) :=
  Contract.of (E := disk_Disk_Power_E N) (H := disk_Disk_Power_t N) (L := disk_Disk_Power_L) (N := N) (body := disk_Disk_Power_body) (K := (kResB (.tup []) [(0, .box (.pair (.own (.arr 128 (.int .u8))) (.pair (.mp (.int .i64) (.int .i64)) (.pair .bool (.pair (.int .i64) .unit)))))] 0)) (disk_Disk_Power_Eok N) Go.Proofs.Try.func13 (by kernel_rfl) (by decide) (fun _ hb => TabOk.nil) (fun x y h => by rw [disk_Disk_Power_link]; exact h) (kResB_ok (s := (.tup [])) (os := [(0, .box (.pair (.own (.arr 128 (.int .u8))) (.pair (.mp (.int .i64) (.int .i64)) (.pair .bool (.pair (.int .i64) .unit)))))]) (m := 0))

noncomputable def disk_Disk_Power_nil_body : Code := (Go.Proofs.Try.f13.body).getD .skip

noncomputable def disk_Disk_Power_nil_L : List (List Nat × List Nat) := [([0], [3, 0]), ([1], []), ([0, 1], [])]

noncomputable def disk_Disk_Power_nil_E (N : Nat) : Env := mkEnv tys noGlob [] [] [] [] false [] []

theorem disk_Disk_Power_nil_Eok (N : Nat) : EnvOk Go.Proofs.Try.prog (disk_Disk_Power_nil_E N) := mkEnv_ok mixed tys_ok (FnsOk.nil) (ItsOk.nil)

noncomputable def disk_Disk_Power_nil (N : Nat) : Option (Unit) :=
  some ()

noncomputable def disk_Disk_Power_nil_t (N : Nat) : Tab (Unit) := []

theorem disk_Disk_Power_nil_link (N : Nat) (x : denS [(0, .nilp)]) : evFX (disk_Disk_Power_nil_E N) N (disk_Disk_Power_nil_t N) disk_Disk_Power_nil_L Go.Proofs.Try.f13 (mkS [(0, .nilp)] 0 x) (kRes (.tup []) 1) = disk_Disk_Power_nil N := by kernel_rfl

noncomputable def disk_Disk_Power_nil_res (N : Nat) : List A → Res := resOf [(0, .nilp)] (fun x => disk_Disk_Power_nil N) (oRes (.tup []) 1)

theorem disk_Disk_Power_nil_ct (N : Nat) : Contract Go.Proofs.Try.prog noGlob 13 (disk_Disk_Power_nil_res N) :=
  Contract.of (E := disk_Disk_Power_nil_E N) (H := disk_Disk_Power_nil_t N) (L := disk_Disk_Power_nil_L) (N := N) (body := disk_Disk_Power_nil_body) (K := (kRes (.tup []) 1)) (disk_Disk_Power_nil_Eok N) Go.Proofs.Try.func13 (by kernel_rfl) (by decide) (fun _ hb => TabOk.nil) (fun x y h => by rw [disk_Disk_Power_nil_link]; exact h) (kRes_ok (s := (.tup [])) (m := 1))

noncomputable def disk_Disk_Power_nil_all (N : Nat) : List A → Res := resAlt [(0, .nilp)] (fun x => disk_Disk_Power_nil N) (oRes (.tup []) 1) (disk_Disk_Power_res N)

theorem disk_Disk_Power_nil_allct (N : Nat) : Contract Go.Proofs.Try.prog noGlob 13 (disk_Disk_Power_nil_all N) := Contract.alt (disk_Disk_Power_nil_ct N) (disk_Disk_Power_ct N)

noncomputable def disk_Disk_Writes_body : Code := (Go.Proofs.Try.f16.body).getD .skip

noncomputable def disk_Disk_Writes_L : List (List Nat × List Nat) := [([0], [0]), ([0, 0, 1], [4, 0]), ([1, 0, 1], [0]), ([0, 0, 1, 0, 1], [2, 0]), ([1, 0, 1, 0, 1], [2, 0]), ([0, 1, 1], [2, 0]), ([1, 1, 1], [2, 0])]

noncomputable def disk_Disk_Writes_E (N : Nat) : Env := mkEnv tys noGlob [] [] [] [0] false [] []

theorem disk_Disk_Writes_Eok (N : Nat) : EnvOk Go.Proofs.Try.prog (disk_Disk_Writes_E N) := mkEnv_ok mixed tys_ok (FnsOk.nil) (ItsOk.nil)

noncomputable def disk_Disk_Writes (N : Nat) (d : ((List (List Int)) × ((Option (List (Int × Int))) × (Bool × (Int × Unit))))) : Option (Int × (((List (List Int)) × ((Option (List (Int × Int))) × (Bool × (Int × Unit)))) × Unit)) :=
  some (d.2.2.2.1, (d, ()))

noncomputable def disk_Disk_Writes_t (N : Nat) : Tab (Int × (((List (List Int)) × ((Option (List (Int × Int))) × (Bool × (Int × Unit)))) × Unit)) := []

theorem disk_Disk_Writes_link (N : Nat) (x : denS [(0, .box (.pair (.own (.arr 128 (.int .u8))) (.pair (.mp (.int .i64) (.int .i64)) (.pair .bool (.pair (.int .i64) .unit)))))]) : evFX (disk_Disk_Writes_E N) N (disk_Disk_Writes_t N) disk_Disk_Writes_L Go.Proofs.Try.f16 (mkS [(0, .box (.pair (.own (.arr 128 (.int .u8))) (.pair (.mp (.int .i64) (.int .i64)) (.pair .bool (.pair (.int .i64) .unit)))))] 0 x) (kResB (.v (.int .i64)) [(0, .box (.pair (.own (.arr 128 (.int .u8))) (.pair (.mp (.int .i64) (.int .i64)) (.pair .bool (.pair (.int .i64) .unit)))))] 0) = disk_Disk_Writes N x.1 := by kernel_rfl

noncomputable def disk_Disk_Writes_res (N : Nat) : List A → Res := resOf [(0, .box (.pair (.own (.arr 128 (.int .u8))) (.pair (.mp (.int .i64) (.int .i64)) (.pair .bool (.pair (.int .i64) .unit)))))] (fun x => disk_Disk_Writes N x.1) (oResB (.v (.int .i64)) [(0, .box (.pair (.own (.arr 128 (.int .u8))) (.pair (.mp (.int .i64) (.int .i64)) (.pair .bool (.pair (.int .i64) .unit)))))] 0)

theorem disk_Disk_Writes_ct (N : Nat) : Contract Go.Proofs.Try.prog noGlob 16 (disk_Disk_Writes_res N) :=
  Contract.of (E := disk_Disk_Writes_E N) (H := disk_Disk_Writes_t N) (L := disk_Disk_Writes_L) (N := N) (body := disk_Disk_Writes_body) (K := (kResB (.v (.int .i64)) [(0, .box (.pair (.own (.arr 128 (.int .u8))) (.pair (.mp (.int .i64) (.int .i64)) (.pair .bool (.pair (.int .i64) .unit)))))] 0)) (disk_Disk_Writes_Eok N) Go.Proofs.Try.func16 (by kernel_rfl) (by decide) (fun _ hb => TabOk.nil) (fun x y h => by rw [disk_Disk_Writes_link]; exact h) (kResB_ok (s := (.v (.int .i64))) (os := [(0, .box (.pair (.own (.arr 128 (.int .u8))) (.pair (.mp (.int .i64) (.int .i64)) (.pair .bool (.pair (.int .i64) .unit)))))]) (m := 0))

noncomputable def disk_Disk_Writes_nil_body : Code := (Go.Proofs.Try.f16.body).getD .skip

noncomputable def disk_Disk_Writes_nil_L : List (List Nat × List Nat) := [([0], [0]), ([0, 0, 1], [4, 0]), ([1, 0, 1], [0]), ([0, 0, 1, 0, 1], [2]), ([1, 0, 1, 0, 1], [2]), ([0, 1, 1], [2]), ([1, 1, 1], [2])]

noncomputable def disk_Disk_Writes_nil_E (N : Nat) : Env := mkEnv tys noGlob [] [] [] [] false [] []

theorem disk_Disk_Writes_nil_Eok (N : Nat) : EnvOk Go.Proofs.Try.prog (disk_Disk_Writes_nil_E N) := mkEnv_ok mixed tys_ok (FnsOk.nil) (ItsOk.nil)

noncomputable def disk_Disk_Writes_nil (N : Nat) : Option Int :=
  some (0 : Int)

noncomputable def disk_Disk_Writes_nil_t (N : Nat) : Tab Int := []

theorem disk_Disk_Writes_nil_link (N : Nat) (x : denS [(0, .nilp)]) : evFX (disk_Disk_Writes_nil_E N) N (disk_Disk_Writes_nil_t N) disk_Disk_Writes_nil_L Go.Proofs.Try.f16 (mkS [(0, .nilp)] 0 x) (kRes (.v (.int .i64)) 1) = disk_Disk_Writes_nil N := by kernel_rfl

noncomputable def disk_Disk_Writes_nil_res (N : Nat) : List A → Res := resOf [(0, .nilp)] (fun x => disk_Disk_Writes_nil N) (oRes (.v (.int .i64)) 1)

theorem disk_Disk_Writes_nil_ct (N : Nat) : Contract Go.Proofs.Try.prog noGlob 16 (disk_Disk_Writes_nil_res N) :=
  Contract.of (E := disk_Disk_Writes_nil_E N) (H := disk_Disk_Writes_nil_t N) (L := disk_Disk_Writes_nil_L) (N := N) (body := disk_Disk_Writes_nil_body) (K := (kRes (.v (.int .i64)) 1)) (disk_Disk_Writes_nil_Eok N) Go.Proofs.Try.func16 (by kernel_rfl) (by decide) (fun _ hb => TabOk.nil) (fun x y h => by rw [disk_Disk_Writes_nil_link]; exact h) (kRes_ok (s := (.v (.int .i64))) (m := 1))

noncomputable def disk_Disk_Writes_nil_all (N : Nat) : List A → Res := resAlt [(0, .nilp)] (fun x => disk_Disk_Writes_nil N) (oRes (.v (.int .i64)) 1) (disk_Disk_Writes_res N)

theorem disk_Disk_Writes_nil_allct (N : Nat) : Contract Go.Proofs.Try.prog noGlob 16 (disk_Disk_Writes_nil_all N) := Contract.alt (disk_Disk_Writes_nil_ct N) (disk_Disk_Writes_ct N)

noncomputable def porterlaw41_works_body : Code := (Go.Proofs.Try.f5.body).getD .skip

noncomputable def porterlaw41_works_L : List (List Nat × List Nat) := [([0], []), ([0, 1], [1, 2]), ([0, 1, 1], [3, 1, 2]), ([0, 0, 1, 1, 1], [4, 3, 1, 2]), ([0, 1, 0, 1, 1, 1], [4, 3, 1, 2]), ([0, 0, 0, 0, 1, 0, 1, 1, 1], [19, 3, 4, 1, 2]), ([1, 0, 0, 0, 1, 0, 1, 1, 1], [3, 4, 1, 2]), ([1, 1, 0, 0, 0, 1, 0, 1, 1, 1], [1, 3, 2]), ([0, 0, 1, 0, 0, 1, 0, 1, 1, 1], [4, 3, 1, 2]), ([0, 1, 0, 0, 1, 0, 1, 1, 1], [4, 3, 1, 2]), ([1, 1, 0, 0, 1, 0, 1, 1, 1], [4, 3, 1, 2]), ([1, 0, 1, 1, 1], [1, 3, 2]), ([0, 1, 1, 1, 1], [1, 3, 2, 5]), ([0, 1, 1, 1, 1, 1], [1, 2, 5, 6]), ([0, 1, 1, 1, 1, 1, 1], [1, 2, 5, 6, 8]), ([0, 1, 1, 1, 1, 1, 1, 1], [1, 2, 5, 6, 8]), ([0, 1, 1, 1, 1, 1, 1, 1, 1], [2, 5, 6, 8, 10, 9, 1]), ([0, 1, 1, 1, 1, 1, 1, 1, 1, 1], [0]), ([1, 1, 1, 1, 1, 1, 1, 1, 1, 1], [0])]

noncomputable def porterlaw41_works_E (N : Nat) : Env := mkEnv tys noGlob [(16, disk_Disk_Writes_nil_all N), (13, disk_Disk_Power_nil_all N), (11, disk_Disk_Read_nil_all N), (10, disk_Disk_Write_nil_all N), (6, disk_New_res N)] [(3, (.int .u8))] [] [] false [] []

theorem porterlaw41_works_Eok (N : Nat) : EnvOk Go.Proofs.Try.prog (porterlaw41_works_E N) := mkEnv_ok mixed tys_ok (FnsOk.cons (disk_Disk_Writes_nil_allct N) (FnsOk.cons (disk_Disk_Power_nil_allct N) (FnsOk.cons (disk_Disk_Read_nil_allct N) (FnsOk.cons (disk_Disk_Write_nil_allct N) (FnsOk.cons (disk_New_ct N) (FnsOk.nil)))))) (ItsOk.nil)

noncomputable def porterlaw41_works_s1 (N : Nat) (d : (Option ((List (List Int)) × ((Option (List (Int × Int))) × (Bool × (Int × Unit)))))) (e : Int) (b : (List Int)) (i : Int) (rec : (List Int) → Int → Option Bool) (k0 : (List Int) → Option Bool) : Option Bool :=
  cond (decide (i < (128 : Int)))
  (cond (Go.Lift.inR i (List.length b))
    (cond (decide ((Int.toNat i) < (List.length b)))
      (rec (List.set b (Int.toNat i) (120 : Int)) (Go.IntKind.wrap Go.IntKind.i64 (i + (1 : Int))))
      (none))
    (none))
  (k0 b)

noncomputable def porterlaw41_works_p1 (N : Nat) (d : (Option ((List (List Int)) × ((Option (List (Int × Int))) × (Bool × (Int × Unit)))))) (e : Int) (b : (List Int)) (i : Int) (k0 : (List Int) → Option Bool) : Option Bool :=
  iter (fun (v : ((List Int) × Int)) r => porterlaw41_works_s1 N d e v.1 v.2 (fun b i => (r (b, i))) k0) N (b, i)

noncomputable def porterlaw41_works_g1 (N : Nat) (i : ((Option ((List (List Int)) × ((Option (List (Int × Int))) × (Bool × (Int × Unit))))) × Int)) (v : ((List Int) × Int)) (r : ((List Int) × Int) → Option Bool) (K : Ex → List A → Option Bool) : Option Bool :=
  porterlaw41_works_s1 N i.1 i.2 v.1 v.2 (fun b i => (r (b, i))) (fun a2 => (K (.exit 0) (mkS [(1, .ov (.nb (.pair (.own (.arr 128 (.int .u8))) (.pair (.mp (.int .i64) (.int .i64)) (.pair .bool (.pair (.int .i64) .unit)))))), (0, .v (.int .i64)), (0, .row (.int .u8))] 74 (i.1, i.2, a2, ()))))

noncomputable def porterlaw41_works_h1 (N : Nat) : Hd Bool := fun st K => (unS [(1, .ov (.nb (.pair (.own (.arr 128 (.int .u8))) (.pair (.mp (.int .i64) (.int .i64)) (.pair .bool (.pair (.int .i64) .unit)))))), (0, .v (.int .i64)), (0, .row (.int .u8)), (0, .v (.int .i64))] 73 (restr [4, 3, 1, 2] 0 st)).bind fun x => iter (fun v r => porterlaw41_works_g1 N ((fun x => (x.1, x.2.1)) x) v r K) N ((fun x => (x.2.2.1, x.2.2.2.1)) x)

noncomputable def porterlaw41_works_t1 (N : Nat) : Tab Bool := []

theorem porterlaw41_works_ok1 {N : Nat} {c : Ctx} (hb : Base Go.Proofs.Try.prog (porterlaw41_works_E N) c) : CodeOk Go.Proofs.Try.prog c (nodeAt porterlaw41_works_body [0, 1, 0, 1, 1, 1]) (porterlaw41_works_h1 N) :=
  loop_ok (s := [(1, .ov (.nb (.pair (.own (.arr 128 (.int .u8))) (.pair (.mp (.int .i64) (.int .i64)) (.pair .bool (.pair (.int .i64) .unit)))))), (0, .v (.int .i64)), (0, .row (.int .u8)), (0, .v (.int .i64))]) (m := 73) (porterlaw41_works_g1 N) [4, 3, 1, 2] N (fun x => (x.1, x.2.1)) (fun x => (x.2.2.1, x.2.2.2.1)) (fun i v => (i.1, i.2, v.1, v.2, ())) (fun _ => rfl) (evN_sound hb N (porterlaw41_works_t1 N) porterlaw41_works_L porterlaw41_works_body TabOk.nil [0, 0, 1, 0, 1, 1, 1] _ rfl) (fun i v r K => by kernel_rfl)

noncomputable def porterlaw41_works (N : Nat) : Option Bool :=
  (disk_New N (2 : Int) ([((1 : Int), ((3 : Int), ()))] : List (Int × (Int × Unit)))).bind fun y =>
  porterlaw41_works_p1 N y.1 y.2.1 (List.replicate 128 (0 : Int)) (0 : Int)
  (fun b => cond (Option.isSome y.1)
    ((disk_Disk_Write N (Option.getD y.1 (([] : List (List Int)), ((Option.none), (false, ((0 : Int), ()))))) (0 : Int) (Go.Lift.toStr b)).bind fun y1 =>
      (disk_Disk_Write N y1.2.1 (1 : Int) (Go.Lift.toStr b)).bind fun y2 =>
      (disk_Disk_Read N y2.2.1 (0 : Int)).bind fun y3 =>
      (disk_Disk_Read N (y3.2.1.1, (y3.2.1.2.1, (false, y3.2.1.2.2.2))) (1 : Int)).bind fun y4 =>
      cond (y.2.1 == (0 : Int))
      (cond (y1.1 == (0 : Int))
        (cond (y2.1 == (20 : Int))
          (cond (y3.1.2.1 == (20 : Int))
            (cond (y4.1.2.1 == (0 : Int))
              (cond ((((List.length y4.1.1) : Nat) : Int) == (128 : Int))
                (cond (decide (((0 : Int) ≤ (4 : Int)) ∧ ((4 : Int) ≤ (((List.length y4.1.1) : Nat) : Int))))
                  (cond ((Go.Lift.cut y4.1.1 0 4) == ([(120 : UInt8), (120 : UInt8), (120 : UInt8), (0 : UInt8)] : List UInt8))
                    (some (y4.2.1.2.2.2.1 == (2 : Int)))
                    (some false))
                  (none))
                (some false))
              (some false))
            (some false))
          (some false))
        (some false))
      (some false))
    (cond (y.2.1 == (0 : Int))
      (some false)
      (some false)))

noncomputable def porterlaw41_works_t (N : Nat) : Tab Bool := [([0, 1, 0, 1, 1, 1], porterlaw41_works_h1 N)]

theorem porterlaw41_works_link (N : Nat) (x : denS []) : evFX (porterlaw41_works_E N) N (porterlaw41_works_t N) porterlaw41_works_L Go.Proofs.Try.f5 (mkS [] 0 x) (kRes (.v .bool) 0) = porterlaw41_works N := by kernel_rfl

noncomputable def porterlaw41_works_res (N : Nat) : List A → Res := resOf [] (fun x => porterlaw41_works N) (oRes (.v .bool) 0)

theorem porterlaw41_works_ct (N : Nat) : Contract Go.Proofs.Try.prog noGlob 5 (porterlaw41_works_res N) :=
  Contract.of (E := porterlaw41_works_E N) (H := porterlaw41_works_t N) (L := porterlaw41_works_L) (N := N) (body := porterlaw41_works_body) (K := (kRes (.v .bool) 0)) (porterlaw41_works_Eok N) Go.Proofs.Try.func5 (by kernel_rfl) (by decide) (fun _ hb => (TabOk.cons (porterlaw41_works_ok1 hb) TabOk.nil)) (fun x y h => by rw [porterlaw41_works_link]; exact h) (kRes_ok (s := (.v .bool)) (m := 0))

noncomputable def porterlaw41_block_body : Code := (Go.Proofs.Try.f9.body).getD .skip

noncomputable def porterlaw41_block_L : List (List Nat × List Nat) := [([0], [0]), ([0, 0, 1], [6, 0]), ([1, 0, 1], [0]), ([0, 0, 1, 0, 1], [2]), ([1, 0, 1, 0, 1], [2]), ([0, 1, 1], [0, 3]), ([0, 1, 1, 1], [2]), ([1, 1, 1, 1], [2])]

noncomputable def porterlaw41_block_E (N : Nat) : Env := mkEnv tys noGlob [] [] [] [] false [] []

theorem porterlaw41_block_Eok (N : Nat) : EnvOk Go.Proofs.Try.prog (porterlaw41_block_E N) := mkEnv_ok mixed tys_ok (FnsOk.nil) (ItsOk.nil)

noncomputable def porterlaw41_block (N : Nat) (s : (List UInt8)) : Option (List UInt8) :=
  cond (decide ((128 : Int) < (((List.length s) : Nat) : Int)))
  (some s)
  (cond (decide (((0 : Int) ≤ (Go.IntKind.wrap Go.IntKind.i64 ((128 : Int) - (((List.length s) : Nat) : Int)))) ∧ (((Go.IntKind.wrap Go.IntKind.i64 ((128 : Int) - (((List.length s) : Nat) : Int))) ≤ (Go.IntKind.wrap Go.IntKind.i64 ((128 : Int) - (((List.length s) : Nat) : Int)))) ∧ ((((Go.IntKind.wrap Go.IntKind.i64 ((128 : Int) - (((List.length s) : Nat) : Int))) * (1 : Int)) ≤ (281474976710656 : Int)) ∧ ((Go.IntKind.wrap Go.IntKind.i64 ((128 : Int) - (((List.length s) : Nat) : Int))) ≤ (9223372036854775807 : Int))))))
    (cond (decide (((List.length s) + (List.length (Go.Lift.toStr (List.replicate (Int.toNat (Go.IntKind.wrap Go.IntKind.i64 ((128 : Int) - (((List.length s) : Nat) : Int)))) (0 : Int))))) ≤ 9223372036854775807))
      (some (s ++ (Go.Lift.toStr (List.replicate (Int.toNat (Go.IntKind.wrap Go.IntKind.i64 ((128 : Int) - (((List.length s) : Nat) : Int)))) (0 : Int)))))
      (none))
    (none))

noncomputable def porterlaw41_block_t (N : Nat) : Tab (List UInt8) := []

theorem porterlaw41_block_link (N : Nat) (x : denS [(0, .v .str)]) : evFX (porterlaw41_block_E N) N (porterlaw41_block_t N) porterlaw41_block_L Go.Proofs.Try.f9 (mkS [(0, .v .str)] 0 x) (kRes (.v .str) 1) = porterlaw41_block N x.1 := by kernel_rfl

noncomputable def porterlaw41_block_res (N : Nat) : List A → Res := resOf [(0, .v .str)] (fun x => porterlaw41_block N x.1) (oRes (.v .str) 1)

theorem porterlaw41_block_ct (N : Nat) : Contract Go.Proofs.Try.prog noGlob 9 (porterlaw41_block_res N) :=
  Contract.of (E := porterlaw41_block_E N) (H := porterlaw41_block_t N) (L := porterlaw41_block_L) (N := N) (body := porterlaw41_block_body) (K := (kRes (.v .str) 1)) (porterlaw41_block_Eok N) Go.Proofs.Try.func9 (by kernel_rfl) (by decide) (fun _ hb => TabOk.nil) (fun x y h => by rw [porterlaw41_block_link]; exact h) (kRes_ok (s := (.v .str)) (m := 1))

noncomputable def disk_Disk_Copy_nil_body : Code := (Go.Proofs.Try.f14.body).getD .skip

noncomputable def disk_Disk_Copy_nil_L : List (List Nat × List Nat) := [([0], [0]), ([0, 0, 1], [4, 0]), ([1, 0, 1], [0]), ([0, 0, 1, 0, 1], [2]), ([1, 0, 1, 0, 1], [2]), ([0, 1, 1], [2]), ([1, 1, 1], [2])]

noncomputable def disk_Disk_Copy_nil_E (N : Nat) : Env := mkEnv tys noGlob [] [] [] [] false [] []

theorem disk_Disk_Copy_nil_Eok (N : Nat) : EnvOk Go.Proofs.Try.prog (disk_Disk_Copy_nil_E N) := mkEnv_ok mixed tys_ok (FnsOk.nil) (ItsOk.nil)

noncomputable def disk_Disk_Copy_nil (N : Nat) : Option Go.Value :=
  some (Go.Value.pointer (Option.none))

noncomputable def disk_Disk_Copy_nil_t (N : Nat) : Tab Go.Value := []

theorem disk_Disk_Copy_nil_link (N : Nat) (x : denS [(0, .nilp)]) : evFX (disk_Disk_Copy_nil_E N) N (disk_Disk_Copy_nil_t N) disk_Disk_Copy_nil_L Go.Proofs.Try.f14 (mkS [(0, .nilp)] 0 x) (kRes (.v .opq) 1) = disk_Disk_Copy_nil N := by kernel_rfl

noncomputable def disk_Disk_Copy_nil_res (N : Nat) : List A → Res := resOf [(0, .nilp)] (fun x => disk_Disk_Copy_nil N) (oRes (.v .opq) 1)

theorem disk_Disk_Copy_nil_ct (N : Nat) : Contract Go.Proofs.Try.prog noGlob 14 (disk_Disk_Copy_nil_res N) :=
  Contract.of (E := disk_Disk_Copy_nil_E N) (H := disk_Disk_Copy_nil_t N) (L := disk_Disk_Copy_nil_L) (N := N) (body := disk_Disk_Copy_nil_body) (K := (kRes (.v .opq) 1)) (disk_Disk_Copy_nil_Eok N) Go.Proofs.Try.func14 (by kernel_rfl) (by decide) (fun _ hb => TabOk.nil) (fun x y h => by rw [disk_Disk_Copy_nil_link]; exact h) (kRes_ok (s := (.v .opq)) (m := 1))

noncomputable def porterlaw41_DiskTorn_body : Code := (Go.Proofs.Try.f4.body).getD .skip

noncomputable def porterlaw41_DiskTorn_L : List (List Nat × List Nat) := [([0], [0, 1, 2]), ([0, 0, 1], [30, 0, 1, 2]), ([1, 0, 1], [0, 1, 2]), ([0, 0, 1, 0, 1], [6]), ([1, 0, 1, 0, 1], [6]), ([0, 1, 1], [2, 1, 0]), ([0, 1, 1, 1], [7, 1, 0, 2, 8]), ([0, 1, 1, 1, 1], [7, 0, 1, 2, 8, 9]), ([0, 1, 1, 1, 1, 1], [7, 1, 2, 8, 9, 10, 0]), ([0, 1, 1, 1, 1, 1, 1], [7, 2, 8, 9, 10, 11, 1, 0]), ([0, 1, 1, 1, 1, 1, 1, 1], [7, 2, 8, 9, 10, 11, 1, 0]), ([0, 1, 1, 1, 1, 1, 1, 1, 1], [7, 2, 8, 9, 10, 11, 12, 1, 0]), ([0, 1, 1, 1, 1, 1, 1, 1, 1, 1], [7, 2, 8, 9, 10, 11, 12, 1, 14, 0]), ([0, 1, 1, 1, 1, 1, 1, 1, 1, 1, 1], [2, 8, 9, 10, 11, 12, 1, 14, 0, 16]), ([0, 1, 1, 1, 1, 1, 1, 1, 1, 1, 1, 1], [8, 9, 10, 11, 12, 1, 14, 18, 0, 16]), ([0, 1, 1, 1, 1, 1, 1, 1, 1, 1, 1, 1, 1], [19, 8, 9, 10, 11, 12, 1, 14, 18, 0, 16]), ([0, 1, 1, 1, 1, 1, 1, 1, 1, 1, 1, 1, 1, 1], [19, 8, 9, 10, 11, 12, 1, 14, 18, 0, 16, 20]), ([0, 1, 1, 1, 1, 1, 1, 1, 1, 1, 1, 1, 1, 1, 1], [19, 8, 9, 10, 11, 12, 1, 14, 18, 0, 16, 20]), ([0, 1, 1, 1, 1, 1, 1, 1, 1, 1, 1, 1, 1, 1, 1, 1], [8, 9, 10, 11, 12, 1, 14, 18, 0, 16, 19, 20, 22]), ([0, 1, 1, 1, 1, 1, 1, 1, 1, 1, 1, 1, 1, 1, 1, 1, 1], [6]), ([1, 1, 1, 1, 1, 1, 1, 1, 1, 1, 1, 1, 1, 1, 1, 1, 1], [6])]

noncomputable def porterlaw41_DiskTorn_E (N : Nat) : Env := mkEnv tys noGlob [(14, disk_Disk_Copy_nil_res N), (9, porterlaw41_block_res N), (5, porterlaw41_works_res N), (13, disk_Disk_Power_nil_all N), (11, disk_Disk_Read_nil_all N), (10, disk_Disk_Write_nil_all N), (17, disk_Disk_Blocks_nil_all N), (6, disk_New_res N)] [] [] [] false [(20, (.pair (.own (.arr 128 (.int .u8))) (.pair (.mp (.int .i64) (.int .i64)) (.pair .bool (.pair (.int .i64) .unit)))))] []

theorem porterlaw41_DiskTorn_Eok (N : Nat) : EnvOk Go.Proofs.Try.prog (porterlaw41_DiskTorn_E N) := mkEnv_ok mixed tys_ok (FnsOk.cons (disk_Disk_Copy_nil_ct N) (FnsOk.cons (porterlaw41_block_ct N) (FnsOk.cons (porterlaw41_works_ct N) (FnsOk.cons (disk_Disk_Power_nil_allct N) (FnsOk.cons (disk_Disk_Read_nil_allct N) (FnsOk.cons (disk_Disk_Write_nil_allct N) (FnsOk.cons (disk_Disk_Blocks_nil_allct N) (FnsOk.cons (disk_New_ct N) (FnsOk.nil))))))))) (ItsOk.nil)

noncomputable def porterlaw41_DiskTorn_p2 (N : Nat) (a : (List UInt8)) (b : (List UInt8)) (keep : Int) (k0 : Bool → Option Bool) : Option Bool :=
  cond (decide ((128 : Int) < (((List.length a) : Nat) : Int)))
  (k0 true)
  (k0 (decide ((128 : Int) < (((List.length b) : Nat) : Int))))

noncomputable def porterlaw41_DiskTorn_g2 (N : Nat) (x : denS [(0, .v .str), (0, .v .str), (0, .v (.int .i64))]) (K : Ex → List A → Option Bool) : Option Bool :=
  porterlaw41_DiskTorn_p2 N x.1 x.2.1 x.2.2.1 (fun a3 => (K .normal (mkS [(0, .v .str), (0, .v .str), (0, .v (.int .i64)), (27, .v .bool)] 110 (x.1, x.2.1, x.2.2.1, a3, ()))))

noncomputable def porterlaw41_DiskTorn_h2 (N : Nat) : Hd Bool := fun st K => (unS [(0, .v .str), (0, .v .str), (0, .v (.int .i64))] 138 (restr [0, 1, 2] 0 st)).bind fun x => porterlaw41_DiskTorn_g2 N x K

noncomputable def porterlaw41_DiskTorn_t2 (N : Nat) : Tab Bool := []

theorem porterlaw41_DiskTorn_ok2 {N : Nat} {c : Ctx} (hb : Base Go.Proofs.Try.prog (porterlaw41_DiskTorn_E N) c) : CodeOk Go.Proofs.Try.prog c (nodeAt porterlaw41_DiskTorn_body [0, 0, 1]) (porterlaw41_DiskTorn_h2 N) :=
  piece_ok (s := [(0, .v .str), (0, .v .str), (0, .v (.int .i64))]) (m := 138) (g := porterlaw41_DiskTorn_g2 N) [0, 1, 2] (evN_sound hb N (porterlaw41_DiskTorn_t2 N) porterlaw41_DiskTorn_L porterlaw41_DiskTorn_body TabOk.nil [0, 0, 1] _ rfl) (fun x K => by kernel_rfl)

noncomputable def porterlaw41_DiskTorn_p1 (N : Nat) (a : (List UInt8)) (b : (List UInt8)) (keep : Int) (k0 : Bool → Option Bool) (k1 : Option Bool) : Option Bool :=
  porterlaw41_DiskTorn_p2 N a b keep
  (fun x30 => cond x30
    ((porterlaw41_works N).bind fun y =>
      k0 y)
    (k1))

noncomputable def porterlaw41_DiskTorn_g1 (N : Nat) (x : denS [(0, .v .str), (0, .v .str), (0, .v (.int .i64))]) (K : Ex → List A → Option Bool) : Option Bool :=
  porterlaw41_DiskTorn_p1 N x.1 x.2.1 x.2.2.1 (fun a0 => (K .ret (mkS [(6, .v .bool)] 134 (a0, ())))) (K .normal (mkS [(0, .v .str), (0, .v .str), (0, .v (.int .i64))] 138 (x.1, x.2.1, x.2.2.1, ())))

noncomputable def porterlaw41_DiskTorn_h1 (N : Nat) : Hd Bool := fun st K => (unS [(0, .v .str), (0, .v .str), (0, .v (.int .i64))] 138 (restr [0, 1, 2] 0 st)).bind fun x => porterlaw41_DiskTorn_g1 N x K

noncomputable def porterlaw41_DiskTorn_t1 (N : Nat) : Tab Bool := [([0, 0, 1], porterlaw41_DiskTorn_h2 N)]

theorem porterlaw41_DiskTorn_ok1 {N : Nat} {c : Ctx} (hb : Base Go.Proofs.Try.prog (porterlaw41_DiskTorn_E N) c) : CodeOk Go.Proofs.Try.prog c (nodeAt porterlaw41_DiskTorn_body [0, 1]) (porterlaw41_DiskTorn_h1 N) :=
  piece_ok (s := [(0, .v .str), (0, .v .str), (0, .v (.int .i64))]) (m := 138) (g := porterlaw41_DiskTorn_g1 N) [0, 1, 2] (evN_sound hb N (porterlaw41_DiskTorn_t1 N) porterlaw41_DiskTorn_L porterlaw41_DiskTorn_body (TabOk.cons (porterlaw41_DiskTorn_ok2 hb) TabOk.nil) [0, 1] _ rfl) (fun x K => by kernel_rfl)

noncomputable def porterlaw41_DiskTorn (N : Nat) (a : (List UInt8)) (b : (List UInt8)) (keep : Int) : Option Bool :=
  porterlaw41_DiskTorn_p1 N a b keep
  (fun x6 => some x6)
  ((porterlaw41_block N a).bind fun y =>
    (porterlaw41_block N b).bind fun y1 =>
    (disk_New N (3 : Int) ([((2 : Int), (keep, ()))] : List (Int × (Int × Unit)))).bind fun y2 =>
    cond (Option.isSome y2.1)
    ((disk_Disk_Write N (Option.getD y2.1 (([] : List (List Int)), ((Option.none), (false, ((0 : Int), ()))))) (0 : Int) y1).bind fun y3 =>
      (disk_Disk_Write N y3.2.1 (1 : Int) y).bind fun y4 =>
      (disk_Disk_Write N y4.2.1 (1 : Int) y1).bind fun y5 =>
      (disk_Disk_Read N (y5.2.1.1, (y5.2.1.2.1, (false, y5.2.1.2.2.2))) (0 : Int)).bind fun y6 =>
      (disk_Disk_Read N y6.2.1 (1 : Int)).bind fun y7 =>
      (disk_Disk_Read N y7.2.1 (2 : Int)).bind fun y8 =>
      cond (y2.2.1 == (0 : Int))
      (cond (y3.1 == (0 : Int))
        (cond (y4.1 == (0 : Int))
          (cond (y5.1 == (20 : Int))
            (cond (y6.1.1 == y1)
              (cond (decide (((0 : Int) ≤ (if ((if (keep < (128 : Int)) then keep else (128 : Int)) > (0 : Int)) then (if (keep < (128 : Int)) then keep else (128 : Int)) else (0 : Int))) ∧ ((if ((if (keep < (128 : Int)) then keep else (128 : Int)) > (0 : Int)) then (if (keep < (128 : Int)) then keep else (128 : Int)) else (0 : Int)) ≤ (((List.length y1) : Nat) : Int))))
                (cond (decide (((0 : Int) ≤ (if ((if (keep < (128 : Int)) then keep else (128 : Int)) > (0 : Int)) then (if (keep < (128 : Int)) then keep else (128 : Int)) else (0 : Int))) ∧ ((if ((if (keep < (128 : Int)) then keep else (128 : Int)) > (0 : Int)) then (if (keep < (128 : Int)) then keep else (128 : Int)) else (0 : Int)) ≤ (((List.length y) : Nat) : Int))))
                  (cond (decide (((List.length (Go.Lift.cut y1 0 (Int.toNat (if ((if (keep < (128 : Int)) then keep else (128 : Int)) > (0 : Int)) then (if (keep < (128 : Int)) then keep else (128 : Int)) else (0 : Int))))) + (List.length (Go.Lift.cut y (Int.toNat (if ((if (keep < (128 : Int)) then keep else (128 : Int)) > (0 : Int)) then (if (keep < (128 : Int)) then keep else (128 : Int)) else (0 : Int))) (List.length y)))) ≤ 9223372036854775807))
                    (cond (y7.1.1 == ((Go.Lift.cut y1 0 (Int.toNat (if ((if (keep < (128 : Int)) then keep else (128 : Int)) > (0 : Int)) then (if (keep < (128 : Int)) then keep else (128 : Int)) else (0 : Int)))) ++ (Go.Lift.cut y (Int.toNat (if ((if (keep < (128 : Int)) then keep else (128 : Int)) > (0 : Int)) then (if (keep < (128 : Int)) then keep else (128 : Int)) else (0 : Int))) (List.length y))))
                      (cond (y8.1.1 == (([] : List UInt8) ++ (Go.Lift.toStr (List.replicate (Int.toNat (Go.IntKind.wrap Go.IntKind.i64 ((128 : Int) - (0 : Int)))) (0 : Int)))))
                        ((porterlaw41_works N).bind fun y9 =>
                          some y9)
                        (some false))
                      (some false))
                    (none))
                  (none))
                (none))
              (some false))
            (some false))
          (some false))
        (some false))
      (some false))
    (cond (y2.2.1 == (0 : Int))
      (some false)
      (some false)))

noncomputable def porterlaw41_DiskTorn_t (N : Nat) : Tab Bool := [([0, 1], porterlaw41_DiskTorn_h1 N)]

theorem porterlaw41_DiskTorn_link (N : Nat) (x : denS [(0, .v .str), (0, .v .str), (0, .v (.int .i64))]) : evFX (porterlaw41_DiskTorn_E N) N (porterlaw41_DiskTorn_t N) porterlaw41_DiskTorn_L Go.Proofs.Try.f4 (mkS [(0, .v .str), (0, .v .str), (0, .v (.int .i64))] 0 x) (kRes (.v .bool) 3) = porterlaw41_DiskTorn N x.1 x.2.1 x.2.2.1 := by kernel_rfl

noncomputable def porterlaw41_DiskTorn_res (N : Nat) : List A → Res := resOf [(0, .v .str), (0, .v .str), (0, .v (.int .i64))] (fun x => porterlaw41_DiskTorn N x.1 x.2.1 x.2.2.1) (oRes (.v .bool) 3)

theorem porterlaw41_DiskTorn_ct (N : Nat) : Contract Go.Proofs.Try.prog noGlob 4 (porterlaw41_DiskTorn_res N) :=
  Contract.of (E := porterlaw41_DiskTorn_E N) (H := porterlaw41_DiskTorn_t N) (L := porterlaw41_DiskTorn_L) (N := N) (body := porterlaw41_DiskTorn_body) (K := (kRes (.v .bool) 3)) (porterlaw41_DiskTorn_Eok N) Go.Proofs.Try.func4 (by kernel_rfl) (by decide) (fun _ hb => (TabOk.cons (porterlaw41_DiskTorn_ok1 hb) TabOk.nil)) (fun x y h => by rw [porterlaw41_DiskTorn_link]; exact h) (kRes_ok (s := (.v .bool)) (m := 3))

end Go.Proofs.YtgckeokmmgelcaaLg

/- Loops as plain functions, and the model's wrap. -/
set_option linter.all false
namespace Go.Proofs.YtgckeokmmgelcaaPx
open Go Go.Lift

/-- a loop that gives R, as long as its rounds do -/
theorem iter_eq {σ β : Type} {step : σ → (σ → Option β) → Option β} (I : σ → Prop) (m : σ → Nat) (R : σ → Option β)
    (h : ∀ v r, I v → (∀ v', I v' → m v' < m v → r v' = R v') → step v r = R v) : ∀ (n : Nat) (v : σ), I v → m v < n → iter step n v = R v
  | 0, v, _, hm => by omega
  | n + 1, v, hv, hm => h v (iter step n) hv fun v' hv' hlt => iter_eq I m R h n v' hv' (by omega)

theorem wrap64 (x : Int) : IntKind.wrap .i64 x = (x + 9223372036854775808) % 18446744073709551616 - 9223372036854775808 := by
  simp only [IntKind.wrap, IntKind.bits, IntKind.signed, Bool.true_and, decide_eq_true_eq, Nat.add_one_sub_one, Int.reducePow, ge_iff_le]
  split <;> omega

def I64 (x : Int) : Prop := -9223372036854775808 ≤ x ∧ x ≤ 9223372036854775807

instance (x : Int) : Decidable (I64 x) := by unfold I64; infer_instance

theorem wrap_in {x : Int} (h : I64 x) : IntKind.wrap .i64 x = x := by
  rw [wrap64]; unfold I64 at h; omega

theorem cond_t {α : Type} {b : Bool} (h : b = true) (x y : α) : cond b x y = x := by rw [h]; rfl
theorem cond_f {α : Type} {b : Bool} (h : b = false) (x y : α) : cond b x y = y := by rw [h]; rfl

theorem inR_nat {n len : Nat} (h : n < len) : inR (n : Int) len = true := by simp only [inR, decide_eq_true_eq]; omega
/-! equality of structs and arrays -/end Go.Proofs.YtgckeokmmgelcaaPx

/- Bytes, and lists of them: mathematics alone. -/
set_option linter.all false
namespace Go.Proofs.YtgckeokmmgelcaaPx
open Go Go.Lift

theorem wrap_succ {i : Nat} (h : i < 9223372036854775807) : IntKind.wrap .i64 ((i : Int) + 1) = ((i + 1 : Nat) : Int) := by
  rw [wrap_in (by unfold I64; omega)]; omega

theorem toStr_append (a b : List Int) : toStr (a ++ b) = toStr a ++ toStr b := by simp [toStr]
theorem toStr_length (a : List Int) : (toStr a).length = a.length := by simp [toStr]
theorem toStr_ofStr (s : List UInt8) : toStr (ofStr s) = s := by
  simp [toStr, ofStr, Function.comp_def]
theorem ofStr_length (s : List UInt8) : (ofStr s).length = s.length := by simp [ofStr]
theorem toStr_replicate (n : Nat) : toStr (List.replicate n (0 : Int)) = List.replicate n (0 : UInt8) := by simp [toStr]

theorem drop_cons {α : Type} (l : List α) (d : α) (i : Nat) (h : i < l.length) : l.drop i = l.getD i d :: l.drop (i + 1) := by
  rw [List.getD_eq_getElem?_getD, List.getElem?_eq_getElem h, Option.getD_some, List.drop_eq_getElem_cons h]

theorem drop_nil' {α : Type} (l : List α) {i : Nat} (h : l.length ≤ i) : l.drop i = [] := List.drop_of_length_le h

theorem cut_all {α : Type} (l : List α) (n : Nat) : cut l n l.length = l.drop n := by simp [cut]end Go.Proofs.YtgckeokmmgelcaaPx

/- Layer 41: a disk, as plain functions. -/
set_option linter.all false
set_option maxRecDepth 100000
namespace Go.Proofs.YtgckeokmmgelcaaLg
open Go Go.Lift Go.Proofs.YtgckeokmmgelcaaPx

abbrev DskD : Type := List (List Int) × (Option (List (Int × Int)) × (Bool × (Int × Unit)))

theorem over_all {α : Type} {xs ys : List α} {n : Nat} (hx : xs.length = n) (hy : ys.length = n) : over xs 0 n ys = ys := by
  unfold over
  simp only [List.take_zero, List.nil_append, Nat.sub_zero, Nat.zero_add]
  rw [hy, Nat.min_self, List.drop_of_length_le (by omega), List.append_nil, List.take_of_length_le (by omega)]

theorem over_some {α : Type} {xs ys : List α} {n k : Nat} (hy : ys.length = n) (hk : k ≤ n) : over xs 0 k ys = ys.take k ++ xs.drop k := by
  unfold over
  simp only [List.take_zero, List.nil_append, Nat.sub_zero, Nat.zero_add]
  rw [hy, Nat.min_eq_right hk]

theorem cut_all {α : Type} {xs : List α} {n : Nat} (hx : xs.length = n) : cut xs 0 n = xs := by
  unfold cut
  rw [List.drop_zero, List.take_of_length_le (by omega)]

/-- the map's answer -/
def crash (d : DskD) (n : Int) : Option Int := lookM (eqD (T.int Go.IntKind.i64)) n (Option.getD d.2.1 [])

def check (d : DskD) (i : Int) : Int :=
  if d.1.length = 0 then 21 else if d.2.2.1 = true then 20 else if i < 0 ∨ (d.1.length : Int) ≤ i then 7 else 0

theorem check_eq (N : Nat) (d : DskD) (i : Int) : disk_Disk_check N d i = some (check d i, (d, ())) := by
  unfold disk_Disk_check disk_Disk_check_p1 check
  by_cases h : d.1.length = 0
  · rw [if_pos h, show ((((List.length d.1) : Nat) : Int) == (0 : Int)) = true by rw [beq_iff_eq]; omega]; rfl
  · rw [if_neg h, show ((((List.length d.1) : Nat) : Int) == (0 : Int)) = false by rw [beq_eq_false_iff_ne]; omega, cond_false]
    cases hd : d.2.2.1 with
    | true => rfl
    | false =>
      rw [cond_false, if_neg (by decide)]
      by_cases h1 : i < 0
      · rw [cond_t (decide_eq_true h1), if_pos (.inl h1)]; rfl
      · rw [cond_f (decide_eq_false h1)]
        by_cases h2 : (d.1.length : Int) ≤ i
        · rw [if_pos (.inr h2)]; dsimp only; rw [cond_t (decide_eq_true h2)]
        · rw [if_neg (by omega)]; dsimp only; rw [cond_f (decide_eq_false h2)]

/-- a write of a block -/
def wr (d : DskD) (i : Int) (s : List UInt8) : Int × DskD :=
  if check d i ≠ 0 then (check d i, d) else if s.length ≠ 128 then (7, d) else
    match crash d d.2.2.2.1 with
    | some k => (20, d.1.set i.toNat (over (d.1.getD i.toNat []) 0 k.toNat (ofStr s)), d.2.1, true, Go.IntKind.wrap .i64 (d.2.2.2.1 + 1), ())
    | none => (0, d.1.set i.toNat (over (d.1.getD i.toNat []) 0 128 (ofStr s)), d.2.1, d.2.2.1, Go.IntKind.wrap .i64 (d.2.2.2.1 + 1), ())

/-- what is told of a crash lies within a block -/
def Keeps (d : DskD) : Prop := ∀ n k, crash d n = some k → 0 ≤ k ∧ k ≤ 128

theorem check_zero {d : DskD} {i : Int} (h : check d i = 0) : d.1.length ≠ 0 ∧ d.2.2.1 = false ∧ 0 ≤ i ∧ i < d.1.length := by
  unfold check at h
  split at h
  · cases h
  · split at h
    · cases h
    · split at h
      · cases h
      · rename_i h1 h2 h3
        exact ⟨h1, by simpa using h2, by omega, by omega⟩

theorem write_eq41 (N : Nat) {d : DskD} {i : Int} {s : List UInt8} (hk : Keeps d) : disk_Disk_Write N d i s = some ((wr d i s).1, ((wr d i s).2, ())) := by
  unfold disk_Disk_Write wr
  rw [check_eq, Option.bind_some]
  by_cases hc : check d i = 0
  · obtain ⟨c1, c2, c3, c4⟩ := check_zero hc
    rw [if_neg (by simpa using hc)]
    dsimp only
    rw [hc, bne_self_eq_false, cond_false]
    by_cases hs : s.length = 128
    · rw [if_neg (by simpa using hs), show ((((List.length s) : Nat) : Int) != (128 : Int)) = false by rw [hs]; rfl, cond_false]
      change cond (Option.isSome (crash d d.2.2.2.1)) _ _ = _
      have hin : inR i (List.length d.1) = true := by unfold inR; exact decide_eq_true ⟨c3, c4⟩
      have hlt : decide (Int.toNat i < List.length d.1) = true := decide_eq_true (by omega)
      cases hcr : crash d d.2.2.2.1 with
      | some k =>
        have := hk _ _ hcr
        have hcr' : lookM (eqD (T.int Go.IntKind.i64)) d.2.2.2.1 (Option.getD d.2.1 []) = some k := hcr
        rw [show (some k).isSome = true from rfl, cond_true, hin, cond_true, hcr']
        rw [cond_t (decide_eq_true (by simpa using this)), hlt, cond_true]
        rfl
      | none =>
        rw [show (none : Option Int).isSome = false from rfl, cond_false, hin, cond_true, hlt, cond_true]
    · rw [if_pos (by simpa using hs), show ((((List.length s) : Nat) : Int) != (128 : Int)) = true by rw [bne_iff_ne]; omega]; rfl
  · rw [if_pos (by simpa using hc)]
    dsimp only
    rw [show (check d i != (0 : Int)) = true by rw [bne_iff_ne]; exact hc]; rfl

def rdS (d : DskD) (i : Int) : List UInt8 × Int := if check d i ≠ 0 then ([], check d i) else (toStr (cut (d.1.getD i.toNat []) 0 128), 0)

theorem read_eq41 (N : Nat) {d : DskD} {i : Int} : disk_Disk_Read N d i = some (((rdS d i).1, (rdS d i).2, ()), (d, ())) := by
  unfold disk_Disk_Read rdS
  rw [check_eq, Option.bind_some]
  by_cases hc : check d i = 0
  · obtain ⟨c1, c2, c3, c4⟩ := check_zero hc
    rw [if_neg (by simpa using hc)]
    dsimp only
    rw [hc, bne_self_eq_false, cond_false, show inR i (List.length d.1) = true by unfold inR; exact decide_eq_true ⟨c3, c4⟩, cond_true, decide_eq_true (show Int.toNat i < List.length d.1 by omega), cond_true]
  · rw [if_pos (by simpa using hc)]
    dsimp only
    rw [show (check d i != (0 : Int)) = true by rw [bne_iff_ne]; exact hc]; rfl

def blk0 : List Int := List.replicate 128 0

def keepR (k : Int) : Int := if (128 : Int) < (if (0 : Int) > k then 0 else k) then 128 else (if (0 : Int) > k then 0 else k)

theorem keepR_in (k : Int) : 0 ≤ keepR k ∧ keepR k ≤ 128 := by
  unfold keepR
  split
  · omega
  · split <;> omega

/-- the map of the crashes: the first of a number counts -/
def crM : List (Int × Int) → List (Int × (Int × Unit)) → List (Int × Int)
  | m, [] => m
  | m, c :: l => crM (match lookM (eqD (T.int Go.IntKind.i64)) c.1 m with
    | some _ => m
    | none => setM (eqD (T.int Go.IntKind.i64)) c.1 (keepR c.2.1) m) l

theorem new_loop (N : Nat) (l : List (Int × (Int × Unit))) (hl : l.length < N) (hl' : l.length ≤ 1000000) (bs : List (List Int)) (m : List (Int × Int)) :
    disk_New_p3 N (bs, some m, false, 0, ()) l ((l.length : Nat) : Int) 0 (fun d => some ((Option.some d), ((0 : Int), ()))) = some (some (bs, some (crM m l), false, 0, ()), 0, ()) := by
  rw [disk_New_p3]
  refine (iter_eq (fun v => ∃ (i : Nat) (m : List (Int × Int)), v = ((bs, some m, false, 0, ()), (i : Int)) ∧ i ≤ l.length) (fun v => l.length - v.2.toNat) (fun v => some (some (bs, some (crM (Option.getD v.1.2.1 []) (l.drop v.2.toNat)), false, 0, ()), 0, ())) ?_ N ((bs, some m, false, 0, ()), 0) ⟨0, m, rfl, by omega⟩ (by simp only; omega)).trans (by rfl)
  rintro v r ⟨i, m, rfl, hi⟩ hr
  simp only [Int.toNat_natCast]
  rw [disk_New_s3]
  by_cases hlt : i < l.length
  · rw [cond_t (decide_eq_true (by omega)), cond_t (inR_nat hlt), Int.toNat_natCast, drop_cons l ((0 : Int), ((0 : Int), ())) i hlt, crM]
    generalize l.getD i ((0 : Int), ((0 : Int), ())) = c
    simp only [Option.getD_some, Option.isSome_some, cond_true]
    cases hc : lookM (eqD (T.int Go.IntKind.i64)) c.1 m with
    | some k =>
      simp only [Option.isSome_some, Bool.not_true, cond_false]
      rw [wrap_succ (by omega), hr _ ⟨i + 1, m, rfl, by omega⟩ (by simp only; omega)]
      simp only [Int.toNat_natCast, Option.getD_some]
    | none =>
      simp only [Option.isSome_none, Bool.not_false, cond_true]
      rw [wrap_succ (by omega)]
      change r ((bs, some (setM (eqD (T.int Go.IntKind.i64)) c.1 (keepR c.2.1) m), false, 0, ()), ((i + 1 : Nat) : Int)) = _
      rw [hr _ ⟨i + 1, _, rfl, by omega⟩ (by simp only; omega)]
      simp only [Int.toNat_natCast, Option.getD_some]
  · rw [cond_f (decide_eq_false (by omega)), drop_nil' l (by omega), crM]
    rfl

theorem new_eq41 (N : Nat) {n : Int} {l : List (Int × (Int × Unit))} (hl : l.length < N) (hl' : l.length ≤ 1000000) :
    disk_New N n l = some (if n < 1 ∨ 4096 < n then (none, 7, ()) else (some (List.replicate n.toNat blk0, some (crM [] l), false, 0, ()), 0, ())) := by
  rw [disk_New, disk_New_p1, disk_New_p2]
  by_cases h1 : n < 1
  · rw [if_pos (.inl h1), cond_t (decide_eq_true h1), cond_true]
  · rw [cond_f (decide_eq_false h1)]
    by_cases h2 : 4096 < n
    · rw [if_pos (.inr h2), decide_eq_true h2, cond_true]
    · rw [if_neg (by omega), decide_eq_false h2, cond_false, cond_t (decide_eq_true (by omega))]
      exact new_loop N l hl hl' _ []

/-! what the map tells -/
theorem eqI_iff (a b : Int) : eqD (T.int Go.IntKind.i64) a b = decide (a = b) := by
  unfold eqD
  by_cases h : a = b
  · rw [h]; simp
  · simp [h]

theorem look_set (m : List (Int × Int)) (k v n : Int) : lookM (eqD (T.int Go.IntKind.i64)) n (setM (eqD (T.int Go.IntKind.i64)) k v m) = if n = k then some v else lookM (eqD (T.int Go.IntKind.i64)) n m := by
  induction m with
  | nil =>
    simp only [setM, lookM, eqI_iff]
    by_cases h : n = k <;> simp [h]
  | cons x m ih =>
    obtain ⟨a, b⟩ := x
    simp only [setM, eqI_iff]
    by_cases hk : k = a
    · subst hk
      by_cases h : n = k
      · subst h; simp [lookM, eqI_iff]
      · simp [lookM, eqI_iff, h]
    · rw [decide_eq_false hk]
      by_cases h : n = a
      · subst h
        have : ¬ n = k := fun e => hk e.symm
        simp [lookM, eqI_iff, this]
      · simp only [lookM, eqI_iff, decide_eq_false h]
        exact ih

/-- the first of a number -/
def firstC (n : Int) : List (Int × (Int × Unit)) → Option Int
  | [] => none
  | c :: l => if c.1 = n then some (keepR c.2.1) else firstC n l

theorem look_crM (n : Int) : ∀ (l : List (Int × (Int × Unit))) (m : List (Int × Int)), lookM (eqD (T.int Go.IntKind.i64)) n (crM m l) = match lookM (eqD (T.int Go.IntKind.i64)) n m with
    | some k => some k
    | none => firstC n l
  | [], m => by rw [crM]; cases lookM (eqD (T.int Go.IntKind.i64)) n m <;> rfl
  | c :: l, m => by
    rw [crM, look_crM n l]
    cases hc : lookM (eqD (T.int Go.IntKind.i64)) c.1 m with
    | some k =>
      dsimp only
      cases hn : lookM (eqD (T.int Go.IntKind.i64)) n m with
      | some j => rfl
      | none =>
        dsimp only
        rw [firstC, if_neg (fun e => by rw [e] at hc; rw [hc] at hn; cases hn)]
    | none =>
      dsimp only
      rw [look_set]
      by_cases e : n = c.1
      · rw [if_pos e, firstC, if_pos e.symm, e, hc]
      · rw [if_neg e, firstC, if_neg (fun h => e h.symm)]

theorem firstC_in {n k : Int} : ∀ {l : List (Int × (Int × Unit))}, firstC n l = some k → 0 ≤ k ∧ k ≤ 128
  | [], h => by cases h
  | c :: l, h => by
    rw [firstC] at h
    split at h
    · cases h; exact keepR_in _
    · exact firstC_in h

theorem keeps_new {bs : List (List Int)} {l : List (Int × (Int × Unit))} {x : Bool} {n : Int} : Keeps (bs, some (crM [] l), x, n, ()) := by
  intro m k h
  have h' : lookM (eqD (T.int Go.IntKind.i64)) m (crM [] l) = some k := h
  rw [look_crM] at h'
  exact firstC_in h'

theorem keeps_of {d e : DskD} (h : Keeps d) (he : e.2.1 = d.2.1) : Keeps e := by
  intro m k hm
  exact h m k (by unfold crash at hm ⊢; rw [← he]; exact hm)

theorem wr_map (d : DskD) (i : Int) (s : List UInt8) : (wr d i s).2.2.1 = d.2.1 := by
  unfold wr
  split
  · rfl
  · split
    · rfl
    · split <;> rfl


end Go.Proofs.YtgckeokmmgelcaaLg

/- Layer 41: a torn write. -/
set_option linter.all false
set_option maxRecDepth 100000
namespace Go.Proofs.YtgckeokmmgelcaaLg
open Go Go.Lift Go.Proofs.YtgckeokmmgelcaaPx

def padB (s : List UInt8) : List UInt8 := s ++ List.replicate (128 - s.length) 0

theorem padB_length {s : List UInt8} (h : s.length ≤ 128) : (padB s).length = 128 := by
  unfold padB; rw [List.length_append, List.length_replicate]; omega

theorem block_eq (N : Nat) {s : List UInt8} (h : s.length ≤ 128) : porterlaw41_block N s = some (padB s) := by
  have hw : Go.IntKind.wrap Go.IntKind.i64 ((128 : Int) - ((s.length : Nat) : Int)) = ((128 - s.length : Nat) : Int) := by
    rw [wrap_in (by unfold I64; omega)]; omega
  rw [porterlaw41_block, cond_f (decide_eq_false (by omega)), hw, Int.toNat_natCast, toStr_replicate, cond_t (decide_eq_true (by omega)), cond_t (decide_eq_true (by rw [List.length_replicate]; omega))]
  rfl

theorem set_fill (n i : Nat) (h : i < n) : (List.replicate i (120 : Int) ++ List.replicate (n - i) 0).set i 120 = List.replicate (i + 1) 120 ++ List.replicate (n - (i + 1)) 0 := by
  rw [List.set_append_right _ _ (by rw [List.length_replicate]; exact Nat.le_refl _), List.length_replicate, Nat.sub_self, show n - i = (n - (i + 1)) + 1 by omega, List.replicate_succ, List.set_cons_zero, List.replicate_succ', List.append_assoc]
  rfl

theorem fill_loop (N : Nat) (hN : 200 < N) (d : Option DskD) (e : Int) (k0 : List Int → Option Bool) :
    porterlaw41_works_p1 N d e (List.replicate 128 (0 : Int)) 0 k0 = k0 (List.replicate 128 120) := by
  rw [porterlaw41_works_p1]
  refine iter_eq (fun v => ∃ i : Nat, v = (List.replicate i 120 ++ List.replicate (128 - i) 0, (i : Int)) ∧ i ≤ 128) (fun v => 128 - v.2.toNat) (fun _ => k0 (List.replicate 128 120)) ?_ N (List.replicate 128 0, 0) ⟨0, rfl, by omega⟩ (by simp only; omega)
  rintro v r ⟨i, rfl, hi⟩ hr
  rw [porterlaw41_works_s1]
  dsimp only
  by_cases hlt : i < 128
  · have hl : (List.replicate i (120 : Int) ++ List.replicate (128 - i) 0).length = 128 := by rw [List.length_append, List.length_replicate, List.length_replicate]; omega
    rw [cond_t (decide_eq_true (by omega)), cond_t (inR_nat (by omega)), Int.toNat_natCast, cond_t (decide_eq_true (by omega)), wrap_succ (by omega), set_fill 128 i hlt]
    exact hr _ ⟨i + 1, rfl, by omega⟩ (by simp only; omega)
  · have : i = 128 := by omega
    subst this
    rw [cond_f (decide_eq_false (by omega)), Nat.sub_self, List.replicate_zero, List.append_nil]

def xX : List UInt8 := List.replicate 128 120
def dW0 : DskD := (List.replicate 2 blk0, some (crM [] [(1, (3, ()))]), false, 0, ())
def dW1 : DskD := (wr dW0 0 xX).2
def dW2 : DskD := (wr dW1 1 xX).2
def dW3 : DskD := (dW2.1, dW2.2.1, false, dW2.2.2.2)

theorem keepsW0 : Keeps dW0 := keeps_new
theorem keepsW1 : Keeps dW1 := keeps_of keepsW0 (wr_map _ _ _)

theorem works41 (N : Nat) (hN : 200 < N) : porterlaw41_works N = some true := by
  have h0 : disk_New N 2 [(1, (3, ()))] = some (some dW0, 0, ()) := by
    rw [new_eq41 N (by simp; omega) (by simp), if_neg (by decide)]; rfl
  have hx : toStr (List.replicate 128 (120 : Int)) = xX := by unfold toStr xX; rw [List.map_replicate]; rfl
  have h1 : disk_Disk_Write N dW0 0 xX = some ((wr dW0 0 xX).1, (dW1, ())) := write_eq41 N keepsW0
  have h2 : disk_Disk_Write N dW1 1 xX = some ((wr dW1 1 xX).1, (dW2, ())) := write_eq41 N keepsW1
  have h3 : disk_Disk_Read N dW2 0 = some (((rdS dW2 0).1, (rdS dW2 0).2, ()), (dW2, ())) := read_eq41 N
  have h4 : disk_Disk_Read N dW3 1 = some (((rdS dW3 1).1, (rdS dW3 1).2, ()), (dW3, ())) := read_eq41 N
  rw [porterlaw41_works, h0, Option.bind_some]
  dsimp only
  rw [fill_loop N hN]
  rw [show Option.isSome (some dW0) = true from rfl, cond_true, hx]
  rw [show Option.getD (some dW0) (([] : List (List Int)), ((Option.none), (false, ((0 : Int), ())))) = dW0 from rfl, h1, Option.bind_some]
  dsimp only
  rw [h2, Option.bind_some]
  dsimp only
  rw [h3, Option.bind_some]
  dsimp only
  rw [show (dW2.1, (dW2.2.1, (false, dW2.2.2.2))) = dW3 from rfl, h4, Option.bind_some]
  change _ = some true
  kernel_rfl

/-! a torn write -/
def dT0 (k : Int) : DskD := ([blk0, blk0, blk0], some (crM [] [(2, (k, ()))]), false, 0, ())

theorem crashT (k : Int) (bs : List (List Int)) (x : Bool) (n : Int) (m : Int) : crash (bs, some (crM [] [(2, (k, ()))]), x, n, ()) m = if 2 = m then some (keepR k) else none := by
  have : crash (bs, some (crM [] [(2, (k, ()))]), x, n, ()) m = lookM (eqD (T.int Go.IntKind.i64)) m (crM [] [(2, (k, ()))]) := rfl
  rw [this, look_crM]
  rfl

theorem check3 (a b c : List Int) (m : Option (List (Int × Int))) (n : Int) (i : Nat) (h : i < 3) : check ([a, b, c], m, false, n, ()) (i : Int) = 0 := by
  unfold check
  rw [if_neg (by simp), if_neg (by simp), if_neg (by simp; omega)]

theorem keep_law (keep : Int) : (if ((if (keep < (128 : Int)) then keep else (128 : Int)) > (0 : Int)) then (if (keep < (128 : Int)) then keep else (128 : Int)) else (0 : Int)) = keepR keep := by
  unfold keepR
  split <;> split <;> split <;> (try split) <;> omega

theorem torn_law (N : Nat) (hN : 200 < N) {a b : List UInt8} {keep : Int} : porterlaw41_DiskTorn N a b keep = some true := by
  have hw := works41 N hN
  rw [porterlaw41_DiskTorn, porterlaw41_DiskTorn_p1, porterlaw41_DiskTorn_p2]
  by_cases h1 : 128 < a.length
  · rw [cond_t (decide_eq_true (by omega)), cond_true, hw]; rfl
  rw [cond_f (decide_eq_false (by omega))]
  by_cases h2 : 128 < b.length
  · rw [decide_eq_true (show (128 : Int) < ((b.length : Nat) : Int) by omega), cond_true, hw]; rfl
  rw [decide_eq_false (show ¬ (128 : Int) < ((b.length : Nat) : Int) by omega), cond_false]
  have hA := padB_length (s := a) (by omega)
  have hB := padB_length (s := b) (by omega)
  rw [block_eq N (by omega), block_eq N (by omega), Option.bind_some, Option.bind_some]
  generalize padB a = A at hA ⊢
  generalize padB b = B at hB ⊢
  have hk := keepR_in keep
  have kA : (ofStr A).length = 128 := by rw [ofStr_length]; exact hA
  have kB : (ofStr B).length = 128 := by rw [ofStr_length]; exact hB
  have h0 : disk_New N 3 [(2, (keep, ()))] = some (some (dT0 keep), 0, ()) := by
    rw [new_eq41 N (by simp; omega) (by simp), if_neg (by decide)]; rfl
  have w1 : wr (dT0 keep) 0 B = (0, [ofStr B, blk0, blk0], some (crM [] [(2, (keep, ()))]), false, 1, ()) := by
    unfold wr dT0
    rw [show check ([blk0, blk0, blk0], some (crM [] [(2, (keep, ()))]), false, (0 : Int), ()) 0 = 0 from check3 _ _ _ _ _ 0 (by omega), if_neg (by simp), if_neg (by simpa using hB)]
    simp only [crashT]
    rw [if_neg (by decide)]
    dsimp only
    rw [show over (List.getD [blk0, blk0, blk0] (0 : Int).toNat []) 0 128 (ofStr B) = ofStr B from over_all (by rfl) kB]
    rfl
  have w2 : wr ([ofStr B, blk0, blk0], some (crM [] [(2, (keep, ()))]), false, 1, ()) 1 A = (0, [ofStr B, ofStr A, blk0], some (crM [] [(2, (keep, ()))]), false, 2, ()) := by
    unfold wr
    rw [show check ([ofStr B, blk0, blk0], some (crM [] [(2, (keep, ()))]), false, (1 : Int), ()) 1 = 0 from check3 _ _ _ _ _ 1 (by omega), if_neg (by simp), if_neg (by simpa using hA)]
    simp only [crashT]
    rw [if_neg (by decide)]
    dsimp only
    rw [show over (List.getD [ofStr B, blk0, blk0] (1 : Int).toNat []) 0 128 (ofStr A) = ofStr A from over_all (by rfl) kA]
    rfl
  have w3 : wr ([ofStr B, ofStr A, blk0], some (crM [] [(2, (keep, ()))]), false, 2, ()) 1 B = (20, [ofStr B, (ofStr B).take (keepR keep).toNat ++ (ofStr A).drop (keepR keep).toNat, blk0], some (crM [] [(2, (keep, ()))]), true, 3, ()) := by
    unfold wr
    rw [show check ([ofStr B, ofStr A, blk0], some (crM [] [(2, (keep, ()))]), false, (2 : Int), ()) 1 = 0 from check3 _ _ _ _ _ 1 (by omega), if_neg (by simp), if_neg (by simpa using hB)]
    simp only [crashT, if_true]
    rw [show over (List.getD [ofStr B, ofStr A, blk0] (1 : Int).toNat []) 0 (keepR keep).toNat (ofStr B) = (ofStr B).take (keepR keep).toNat ++ (ofStr A).drop (keepR keep).toNat from over_some kB (by omega)]
    rfl
  have e1 : disk_Disk_Write N (dT0 keep) 0 B = some (0, (([ofStr B, blk0, blk0], some (crM [] [(2, (keep, ()))]), false, 1, ()), ())) := by
    rw [write_eq41 N (d := dT0 keep) keeps_new, w1]
  have e2 : disk_Disk_Write N ([ofStr B, blk0, blk0], some (crM [] [(2, (keep, ()))]), false, 1, ()) 1 A = some (0, (([ofStr B, ofStr A, blk0], some (crM [] [(2, (keep, ()))]), false, 2, ()), ())) := by
    rw [write_eq41 N keeps_new, w2]
  have e3 : disk_Disk_Write N ([ofStr B, ofStr A, blk0], some (crM [] [(2, (keep, ()))]), false, 2, ()) 1 B = some (20, (([ofStr B, (ofStr B).take (keepR keep).toNat ++ (ofStr A).drop (keepR keep).toNat, blk0], some (crM [] [(2, (keep, ()))]), true, 3, ()), ())) := by
    rw [write_eq41 N keeps_new, w3]
  have rd : ∀ (x y z : List Int) (m : Option (List (Int × Int))) (n : Int) (i : Nat), i < 3 → ∀ (u : List Int), List.getD [x, y, z] i [] = u → u.length = 128 → disk_Disk_Read N ([x, y, z], m, false, n, ()) (i : Int) = some ((toStr u, 0, ()), (([x, y, z], m, false, n, ()), ())) := by
    intro x y z m n i hi u hu hl
    rw [read_eq41]
    unfold rdS
    rw [check3 _ _ _ _ _ i hi, if_neg (by simp)]
    dsimp only
    rw [Int.toNat_natCast, hu, cut_all hl]
  have hmix : ((ofStr B).take (keepR keep).toNat ++ (ofStr A).drop (keepR keep).toNat).length = 128 := by
    rw [List.length_append, List.length_take, List.length_drop]; omega
  rw [h0, Option.bind_some]
  dsimp only
  rw [show Option.isSome (some (dT0 keep)) = true from rfl, cond_true, show Option.getD (some (dT0 keep)) (([] : List (List Int)), ((Option.none), (false, ((0 : Int), ())))) = dT0 keep from rfl, e1, Option.bind_some]
  dsimp only
  rw [e2, Option.bind_some]
  dsimp only
  rw [e3, Option.bind_some]
  dsimp only
  rw [show disk_Disk_Read N _ (0 : Int) = _ from rd (ofStr B) _ blk0 _ _ 0 (by omega) (ofStr B) rfl kB, Option.bind_some]
  dsimp only
  rw [show disk_Disk_Read N _ (1 : Int) = _ from rd (ofStr B) _ blk0 _ _ 1 (by omega) _ rfl hmix, Option.bind_some]
  dsimp only
  rw [show disk_Disk_Read N _ (2 : Int) = _ from rd (ofStr B) _ blk0 _ _ 2 (by omega) blk0 rfl (by rfl), Option.bind_some]
  dsimp only
  rw [keep_law, toStr_ofStr]
  simp only [beq_self_eq_true, cond_true]
  rw [hw]
  have ht : toStr ((ofStr B).take (keepR keep).toNat ++ (ofStr A).drop (keepR keep).toNat) = cut B 0 (keepR keep).toNat ++ cut A (keepR keep).toNat A.length := by
    rw [toStr_append]
    unfold cut toStr ofStr
    rw [List.map_take, List.map_drop, List.drop_zero, List.take_length]
    have hh : ∀ s : List UInt8, List.map (fun n : Int => UInt8.ofNat n.toNat) (List.map (fun b : UInt8 => ((b.toNat : Nat) : Int)) s) = s := toStr_ofStr
    rw [hh, hh]
  rw [show [ofStr B, List.take (keepR keep).toNat (ofStr B) ++ List.drop (keepR keep).toNat (ofStr A), blk0].getD 1 [] = List.take (keepR keep).toNat (ofStr B) ++ List.drop (keepR keep).toNat (ofStr A) from rfl, ht]
  simp only [beq_self_eq_true, cond_true]
  rw [cond_t (decide_eq_true (by omega)), cond_t (decide_eq_true (by omega)), cond_t (decide_eq_true (by rw [List.length_append.symm]; have : (cut B 0 (keepR keep).toNat ++ cut A (keepR keep).toNat A.length).length = 128 := by rw [← ht, toStr_length]; exact hmix
                                                                                                         omega))]
  rw [cond_t (by kernel_rfl)]
  rfl


end Go.Proofs.YtgckeokmmgelcaaLg

