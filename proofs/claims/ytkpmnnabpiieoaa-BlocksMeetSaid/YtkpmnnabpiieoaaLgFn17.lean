/- The functions of the seat, as plain functions, and what their calls do. Printed by a program of mine; checked here. -/
import Derived.Test.YtkpmnnabpiieoaaLgW
import Derived.Test.YtkpmnnabpiieoaaChecked
import Derived.KernelRfl
set_option linter.all false
set_option maxRecDepth 100000
namespace Go.Proofs.YtkpmnnabpiieoaaLg
open Go Go.Lift

noncomputable def ty3 : TyI := ⟨(Go.TypeDesc.int Go.IntKind.i64), 1, 8, (.int .i64), (0 : Int), false⟩

theorem ty3_ok : TyOk Go.Proofs.Try.prog 3 ty3 := TyOk.of (by kernel_rfl) (by kernel_rfl) (by kernel_rfl) (by kernel_rfl)

noncomputable def ty4 : TyI := ⟨Go.TypeDesc.bool, 1, 1, .bool, false, false⟩

theorem ty4_ok : TyOk Go.Proofs.Try.prog 4 ty4 := TyOk.of (by kernel_rfl) (by kernel_rfl) (by kernel_rfl) (by kernel_rfl)

noncomputable def ty5 : TyI := ⟨(Go.TypeDesc.int Go.IntKind.u8), 1, 1, (.int .u8), (0 : Int), false⟩

theorem ty5_ok : TyOk Go.Proofs.Try.prog 5 ty5 := TyOk.of (by kernel_rfl) (by kernel_rfl) (by kernel_rfl) (by kernel_rfl)

noncomputable def ty9 : TyI := ⟨Go.TypeDesc.string, 1, 16, .str, ([] : List UInt8), false⟩

theorem ty9_ok : TyOk Go.Proofs.Try.prog 9 ty9 := TyOk.of (by kernel_rfl) (by kernel_rfl) (by kernel_rfl) (by kernel_rfl)

noncomputable def ty22 : TyI := ⟨(Go.TypeDesc.slice 89), 1, 24, (.sl (.arr 4 (.int .u64))), ([] : List (List Int)), false⟩

theorem ty22_ok : TyOk Go.Proofs.Try.prog 22 ty22 := TyOk.of (by kernel_rfl) (by kernel_rfl) (by kernel_rfl) (by kernel_rfl)

noncomputable def ty24 : TyI := ⟨(Go.TypeDesc.slice 3), 1, 24, (.sl (.int .i64)), ([] : List Int), false⟩

theorem ty24_ok : TyOk Go.Proofs.Try.prog 24 ty24 := TyOk.of (by kernel_rfl) (by kernel_rfl) (by kernel_rfl) (by kernel_rfl)

noncomputable def ty28 : TyI := ⟨(Go.TypeDesc.func (List.toArray ([22] : List Nat)) (List.toArray ([4] : List Nat)) false), 1, 8, .opq, Go.Value.nilFunc, false⟩

theorem ty28_ok : TyOk Go.Proofs.Try.prog 28 ty28 := TyOk.of (by kernel_rfl) (by kernel_rfl) (by kernel_rfl) (by kernel_rfl)

noncomputable def ty82 : TyI := ⟨(Go.TypeDesc.array 2 3), 2, 16, (.arr 2 (.int .i64)), ([(0 : Int), (0 : Int)] : List Int), true⟩

theorem ty82_ok : TyOk Go.Proofs.Try.prog 82 ty82 := TyOk.of (by kernel_rfl) (by kernel_rfl) (by kernel_rfl) (by kernel_rfl)

noncomputable def ty87 : TyI := ⟨(Go.TypeDesc.int Go.IntKind.u64), 1, 8, (.int .u64), (0 : Int), false⟩

theorem ty87_ok : TyOk Go.Proofs.Try.prog 87 ty87 := TyOk.of (by kernel_rfl) (by kernel_rfl) (by kernel_rfl) (by kernel_rfl)

noncomputable def ty89 : TyI := ⟨(Go.TypeDesc.array 4 87), 4, 32, (.arr 4 (.int .u64)), ([(0 : Int), (0 : Int), (0 : Int), (0 : Int)] : List Int), true⟩

theorem ty89_ok : TyOk Go.Proofs.Try.prog 89 ty89 := TyOk.of (by kernel_rfl) (by kernel_rfl) (by kernel_rfl) (by kernel_rfl)

noncomputable def ty91 : TyI := ⟨(Go.TypeDesc.func (List.toArray ([28] : List Nat)) (List.toArray ([] : List Nat)) false), 1, 8, .opq, Go.Value.nilFunc, false⟩

theorem ty91_ok : TyOk Go.Proofs.Try.prog 91 ty91 := TyOk.of (by kernel_rfl) (by kernel_rfl) (by kernel_rfl) (by kernel_rfl)

noncomputable def ty95 : TyI := ⟨(Go.TypeDesc.slice 82), 1, 24, (.sl (.arr 2 (.int .i64))), ([] : List (List Int)), false⟩

theorem ty95_ok : TyOk Go.Proofs.Try.prog 95 ty95 := TyOk.of (by kernel_rfl) (by kernel_rfl) (by kernel_rfl) (by kernel_rfl)

noncomputable def ty97 : TyI := ⟨(Go.TypeDesc.slice 5), 1, 24, (.sl (.int .u8)), ([] : List Int), false⟩

theorem ty97_ok : TyOk Go.Proofs.Try.prog 97 ty97 := TyOk.of (by kernel_rfl) (by kernel_rfl) (by kernel_rfl) (by kernel_rfl)

noncomputable def ty116 : TyI := ⟨(Go.TypeDesc.slice 118), 1, 24, (.sl (.arr 5 (.int .u64))), ([] : List (List Int)), false⟩

theorem ty116_ok : TyOk Go.Proofs.Try.prog 116 ty116 := TyOk.of (by kernel_rfl) (by kernel_rfl) (by kernel_rfl) (by kernel_rfl)

noncomputable def ty118 : TyI := ⟨(Go.TypeDesc.array 5 87), 5, 40, (.arr 5 (.int .u64)), ([(0 : Int), (0 : Int), (0 : Int), (0 : Int), (0 : Int)] : List Int), true⟩

theorem ty118_ok : TyOk Go.Proofs.Try.prog 118 ty118 := TyOk.of (by kernel_rfl) (by kernel_rfl) (by kernel_rfl) (by kernel_rfl)

noncomputable def ty122 : TyI := ⟨(Go.TypeDesc.map 82 3), 1, 8, .opq, (Go.Value.map none), false⟩

theorem ty122_ok : TyOk Go.Proofs.Try.prog 122 ty122 := TyOk.of (by kernel_rfl) (by kernel_rfl) (by kernel_rfl) (by kernel_rfl)

noncomputable def ty133 : TyI := ⟨(Go.TypeDesc.map 118 3), 1, 8, .opq, (Go.Value.map none), false⟩

theorem ty133_ok : TyOk Go.Proofs.Try.prog 133 ty133 := TyOk.of (by kernel_rfl) (by kernel_rfl) (by kernel_rfl) (by kernel_rfl)

noncomputable def ty138 : TyI := ⟨(Go.TypeDesc.int Go.IntKind.u64), 1, 8, (.int .u64), (0 : Int), false⟩

theorem ty138_ok : TyOk Go.Proofs.Try.prog 138 ty138 := TyOk.of (by kernel_rfl) (by kernel_rfl) (by kernel_rfl) (by kernel_rfl)

noncomputable def tys : List (Nat × TyI) := [(3, ty3), (4, ty4), (5, ty5), (9, ty9), (22, ty22), (24, ty24), (28, ty28), (82, ty82), (87, ty87), (89, ty89), (91, ty91), (95, ty95), (97, ty97), (116, ty116), (118, ty118), (122, ty122), (133, ty133), (138, ty138)]

theorem tys_ok : TysOk Go.Proofs.Try.prog tys := TysOk.cons ty3_ok (TysOk.cons ty4_ok (TysOk.cons ty5_ok (TysOk.cons ty9_ok (TysOk.cons ty22_ok (TysOk.cons ty24_ok (TysOk.cons ty28_ok (TysOk.cons ty82_ok (TysOk.cons ty87_ok (TysOk.cons ty89_ok (TysOk.cons ty91_ok (TysOk.cons ty95_ok (TysOk.cons ty97_ok (TysOk.cons ty116_ok (TysOk.cons ty118_ok (TysOk.cons ty122_ok (TysOk.cons ty133_ok (TysOk.cons ty138_ok (TysOk.nil))))))))))))))))))

theorem mixed : Go.Proofs.Try.prog.follows .mixedOrders = true := by kernel_rfl

abbrev slices_Chunk1_R : Type := (List ((List (List Int)) × Unit))

noncomputable def slices_Chunk1_body : Code := (Go.Proofs.Try.f65.body).getD .skip

noncomputable def slices_Chunk1_L : List (List Nat × List Nat) := [([0], [4, 1, 2, 0]), ([0, 1], [4, 1, 2, 0]), ([0, 0, 0, 0, 1], [9, 2, 1, 4, 0]), ([1, 0, 0, 0, 1], [2, 1, 4, 0]), ([1, 1, 0, 0, 0, 1], [0]), ([0, 0, 0, 1, 0, 0, 1], [0, 1, 4, 5, 2]), ([0, 1, 0, 0, 1, 0, 0, 1], [30, 0, 4, 2, 1]), ([1, 1, 0, 0, 1, 0, 0, 1], [4, 2, 1, 0]), ([0, 1, 1, 0, 0, 1, 0, 0, 1], [0]), ([0, 1, 0, 0, 1], [4, 2, 1, 0]), ([1, 1, 0, 0, 1], [4, 1, 2, 0]), ([1], [0])]

noncomputable def slices_Chunk1_E (N : Nat) : Env := mkEnv tys noGlob [] [] [] [0] false [] []

theorem slices_Chunk1_Eok (N : Nat) : EnvOk Go.Proofs.Try.prog (slices_Chunk1_E N) := mkEnv_ok mixed tys_ok (FnsOk.nil) ItsOk.nil

noncomputable def slices_Chunk1_s1 (N : Nat) (x1 : (List (List Int))) (x2 : Int) (i : Int) (rec : Int → Option (List ((List (List Int)) × Unit))) (k0 : Option (List ((List (List Int)) × Unit))) (k1 : Option (List ((List (List Int)) × Unit))) : Option (List ((List (List Int)) × Unit)) :=
  cond (decide (i < (((List.length x1) : Nat) : Int)))
  (cond (decide (((0 : Int) ≤ i) ∧ (i ≤ (((List.length x1) : Nat) : Int))))
    (cond (decide (((Go.IntKind.wrap Go.IntKind.i64 (i + (if ((((List.length (Go.Lift.cut x1 (Int.toNat i) (List.length x1))) : Nat) : Int) < x2) then (((List.length (Go.Lift.cut x1 (Int.toNat i) (List.length x1))) : Nat) : Int) else x2))) ≤ (Go.IntKind.wrap Go.IntKind.i64 (i + (if ((((List.length (Go.Lift.cut x1 (Int.toNat i) (List.length x1))) : Nat) : Int) < x2) then (((List.length (Go.Lift.cut x1 (Int.toNat i) (List.length x1))) : Nat) : Int) else x2)))) ∧ ((Go.IntKind.wrap Go.IntKind.i64 (i + (if ((((List.length (Go.Lift.cut x1 (Int.toNat i) (List.length x1))) : Nat) : Int) < x2) then (((List.length (Go.Lift.cut x1 (Int.toNat i) (List.length x1))) : Nat) : Int) else x2))) ≤ (((List.length x1) : Nat) : Int))))
      (cond (decide (((0 : Int) ≤ (Go.IntKind.wrap Go.IntKind.i64 (i + (if ((((List.length (Go.Lift.cut x1 (Int.toNat i) (List.length x1))) : Nat) : Int) < x2) then (((List.length (Go.Lift.cut x1 (Int.toNat i) (List.length x1))) : Nat) : Int) else x2)))) ∧ ((Go.IntKind.wrap Go.IntKind.i64 (i + (if ((((List.length (Go.Lift.cut x1 (Int.toNat i) (List.length x1))) : Nat) : Int) < x2) then (((List.length (Go.Lift.cut x1 (Int.toNat i) (List.length x1))) : Nat) : Int) else x2))) ≤ (((List.length x1) : Nat) : Int))))
        (cond (decide (((0 : Int) ≤ i) ∧ (i ≤ (Go.IntKind.wrap Go.IntKind.i64 (i + (if ((((List.length (Go.Lift.cut x1 (Int.toNat i) (List.length x1))) : Nat) : Int) < x2) then (((List.length (Go.Lift.cut x1 (Int.toNat i) (List.length x1))) : Nat) : Int) else x2))))))
          (comb ((Go.Lift.cut x1 (Int.toNat i) (Int.toNat (Go.IntKind.wrap Go.IntKind.i64 (i + (if ((((List.length (Go.Lift.cut x1 (Int.toNat i) (List.length x1))) : Nat) : Int) < x2) then (((List.length (Go.Lift.cut x1 (Int.toNat i) (List.length x1))) : Nat) : Int) else x2))))), ())
            (rec (Go.IntKind.wrap Go.IntKind.i64 (i + x2)))
            (k0))
          (none))
        (none))
      (none))
    (none))
  (k1)

noncomputable def slices_Chunk1_p1 (N : Nat) (x1 : (List (List Int))) (x2 : Int) (i : Int) (k0 : Option (List ((List (List Int)) × Unit))) (k1 : Option (List ((List (List Int)) × Unit))) : Option (List ((List (List Int)) × Unit)) :=
  iter (fun (v : Int) r => slices_Chunk1_s1 N x1 x2 v (fun i => (r i)) k0 k1) N i

noncomputable def slices_Chunk1_g1 (N : Nat) (i : ((List (List Int)) × Int)) (v : Int) (r : Int → Option (List ((List (List Int)) × Unit))) (K : Ex → List A → Option (List ((List (List Int)) × Unit))) : Option (List ((List (List Int)) × Unit)) :=
  slices_Chunk1_s1 N i.1 i.2 v (fun i => (r i)) (K .ret (mkS [(0, .yld)] 30 ((), ()))) (K (.exit 0) (mkS [(0, .yld)] 30 ((), ())))

noncomputable def slices_Chunk1_h1 (N : Nat) : Hd (List ((List (List Int)) × Unit)) := fun st K => (unS [(0, .yld), (0, .v (.ptr (.sl (.arr 4 (.int .u64))))), (0, .v (.ptr (.int .i64))), (1, .v (.int .i64))] 26 (restr [4, 1, 2, 0] 0 st)).bind fun x => iter (fun v r => slices_Chunk1_g1 N ((fun x => (x.2.1, x.2.2.1)) x) v r K) N ((fun x => x.2.2.2.1) x)

noncomputable def slices_Chunk1_t1 (N : Nat) : Tab (List ((List (List Int)) × Unit)) := []

theorem slices_Chunk1_ok1 {N : Nat} {G : GY [(.sl (.arr 4 (.int .u64)))]} (hG : RestrOk G) (hev : EvOk G Go.Proofs.Try.prog (slices_Chunk1_E N) N slices_Chunk1_L slices_Chunk1_body) : YOk G Go.Proofs.Try.prog (nodeAt slices_Chunk1_body [0, 1]) (slices_Chunk1_h1 N) :=
  loopY_ok hG (s := [(0, .yld), (0, .v (.ptr (.sl (.arr 4 (.int .u64))))), (0, .v (.ptr (.int .i64))), (1, .v (.int .i64))]) (m := 26) (slices_Chunk1_g1 N) [4, 1, 2, 0] N (fun x => (x.2.1, x.2.2.1)) (fun x => x.2.2.2.1) (fun i v => ((), i.1, i.2, v, ())) (fun _ => rfl) (hev (slices_Chunk1_t1 N) TabOkY.nil [0, 0, 1]) (fun i v r K => by kernel_rfl)

noncomputable def slices_Chunk1 (N : Nat) (x1 : (List (List Int))) (x2 : Int) : Option (List ((List (List Int)) × Unit)) :=
  slices_Chunk1_p1 N x1 x2 (0 : Int)
  (some ([] : List ((List (List Int)) × Unit)))
  (some ([] : List ((List (List Int)) × Unit)))

noncomputable def slices_Chunk1_t (N : Nat) : Tab (List ((List (List Int)) × Unit)) := [([0, 1], slices_Chunk1_h1 N)]

theorem slices_Chunk1_link (N : Nat) (x : T.den (.pair (.ptr (.sl (.arr 4 (.int .u64)))) (.pair (.ptr (.int .i64)) .unit))) : evYX (slices_Chunk1_E N) [(.sl (.arr 4 (.int .u64)))] comb N (slices_Chunk1_t N) slices_Chunk1_L Go.Proofs.Try.f65 [.v (.ptr (.sl (.arr 4 (.int .u64)))) x.1, .v (.ptr (.int .i64)) x.2.1] = slices_Chunk1 N x.1 x.2.1 := by kernel_rfl

noncomputable def slices_Chunk1_itr (N : Nat) : Dat → ItRes := itRes (ts := [(.sl (.arr 4 (.int .u64)))]) (.pair (.ptr (.sl (.arr 4 (.int .u64)))) (.pair (.ptr (.int .i64)) .unit)) (fun x => slices_Chunk1 N x.1 x.2.1)

theorem slices_Chunk1_it (N : Nat) : ItOk Go.Proofs.Try.prog noGlob 65 (slices_Chunk1_itr N) := ItOk.of (ts := [(.sl (.arr 4 (.int .u64)))]) (E := slices_Chunk1_E N) (H := slices_Chunk1_t N) (L := slices_Chunk1_L) (N := N) (body := slices_Chunk1_body) (slices_Chunk1_Eok N) rfl Go.Proofs.Try.func65 (by kernel_rfl) (by decide) (fun G hG hev => (TabOkY.cons (slices_Chunk1_ok1 hG hev) TabOkY.nil)) (fun x y h => ⟨_, rfl, by rw [slices_Chunk1_link]; exact h⟩)

abbrev slices_Chunk_R : Type := ((List (List Int)) × (Int × Unit))

noncomputable def slices_Chunk_body : Code := (Go.Proofs.Try.f45.body).getD .skip

noncomputable def slices_Chunk_L : List (List Nat × List Nat) := [([0], [3, 2]), ([0, 0, 1], [6, 2, 3]), ([1, 0, 1], [2, 3]), ([0, 1, 0, 1], [2, 3]), ([0, 1, 1], [4]), ([1, 1, 1], [4])]

noncomputable def slices_Chunk_E (N : Nat) : Env := mkEnv tys noGlob [] [] [] [] false [] [(65, slices_Chunk1_itr N)]

theorem slices_Chunk_Eok (N : Nat) : EnvOk Go.Proofs.Try.prog (slices_Chunk_E N) := mkEnv_ok mixed tys_ok (FnsOk.nil) (ItsOk.cons (slices_Chunk1_it N) (ItsOk.nil))

noncomputable def slices_Chunk (N : Nat) (s : (List (List Int))) (n : Int) : Option ((List (List Int)) × (Int × Unit)) :=
  cond (decide (n < (1 : Int)))
  (none)
  (some (s, (n, ())))

noncomputable def slices_Chunk_t (N : Nat) : Tab ((List (List Int)) × (Int × Unit)) := []

theorem slices_Chunk_link (N : Nat) (x : denS [(0, .v (.sl (.arr 4 (.int .u64)))), (0, .v (.int .i64))]) : evFX (slices_Chunk_E N) N (slices_Chunk_t N) slices_Chunk_L Go.Proofs.Try.f45 (mkS [(0, .v (.sl (.arr 4 (.int .u64)))), (0, .v (.int .i64))] 0 x) (kRes (.v (.fn 65 (.pair (.ptr (.sl (.arr 4 (.int .u64)))) (.pair (.ptr (.int .i64)) .unit)))) 2) = slices_Chunk N x.1 x.2.1 := by kernel_rfl

noncomputable def slices_Chunk_res (N : Nat) : List A → Res := resOf [(0, .v (.sl (.arr 4 (.int .u64)))), (0, .v (.int .i64))] (fun x => slices_Chunk N x.1 x.2.1) (oRes (.v (.fn 65 (.pair (.ptr (.sl (.arr 4 (.int .u64)))) (.pair (.ptr (.int .i64)) .unit)))) 2)

theorem slices_Chunk_ct (N : Nat) : Contract Go.Proofs.Try.prog noGlob 45 (slices_Chunk_res N) :=
  Contract.of (E := slices_Chunk_E N) (H := slices_Chunk_t N) (L := slices_Chunk_L) (N := N) (body := slices_Chunk_body) (K := (kRes (.v (.fn 65 (.pair (.ptr (.sl (.arr 4 (.int .u64)))) (.pair (.ptr (.int .i64)) .unit)))) 2)) (slices_Chunk_Eok N) Go.Proofs.Try.func45 (by kernel_rfl) (by decide) (fun _ hb => TabOk.nil) (fun x y h => by rw [slices_Chunk_link]; exact h) (kRes_ok (s := (.v (.fn 65 (.pair (.ptr (.sl (.arr 4 (.int .u64)))) (.pair (.ptr (.int .i64)) .unit))))) (m := 2))

abbrev math_bits_OnesCount64_R : Type := Int

noncomputable def math_bits_OnesCount64_body : Code := (Go.Proofs.Try.f84.body).getD .skip

noncomputable def math_bits_OnesCount64_L : List (List Nat × List Nat) := [([0], [0]), ([0, 1], [0]), ([0, 1, 1], [0]), ([0, 1, 1, 1], [0]), ([0, 1, 1, 1, 1], [0]), ([0, 1, 1, 1, 1, 1], [0]), ([0, 1, 1, 1, 1, 1, 1], [0]), ([0, 1, 1, 1, 1, 1, 1, 1], [2]), ([1, 1, 1, 1, 1, 1, 1, 1], [2])]

noncomputable def math_bits_OnesCount64_E (N : Nat) : Env := mkEnv tys noGlob [] [] [] [] false [] [(65, slices_Chunk1_itr N)]

theorem math_bits_OnesCount64_Eok (N : Nat) : EnvOk Go.Proofs.Try.prog (math_bits_OnesCount64_E N) := mkEnv_ok mixed tys_ok (FnsOk.nil) (ItsOk.cons (slices_Chunk1_it N) (ItsOk.nil))

noncomputable def math_bits_OnesCount64 (N : Nat) (x0 : Int) : Option Int :=
  some (Go.Lift.bitsOp Go.BinOp.and Go.IntKind.i64 (Go.IntKind.wrap Go.IntKind.i64 (Go.IntKind.wrap Go.IntKind.u64 ((Go.IntKind.wrap Go.IntKind.u64 ((Go.IntKind.wrap Go.IntKind.u64 ((Go.Lift.bitsOp Go.BinOp.and Go.IntKind.u64 (Go.IntKind.wrap Go.IntKind.u64 ((Go.Lift.shrI Go.IntKind.u64 (Go.IntKind.wrap Go.IntKind.u64 ((Go.Lift.bitsOp Go.BinOp.and Go.IntKind.u64 (Go.Lift.shrI Go.IntKind.u64 (Go.IntKind.wrap Go.IntKind.u64 ((Go.Lift.bitsOp Go.BinOp.and Go.IntKind.u64 (Go.Lift.shrI Go.IntKind.u64 x0 (1 : Int)) (6148914691236517205 : Int)) + (Go.Lift.bitsOp Go.BinOp.and Go.IntKind.u64 x0 (6148914691236517205 : Int)))) (2 : Int)) (3689348814741910323 : Int)) + (Go.Lift.bitsOp Go.BinOp.and Go.IntKind.u64 (Go.IntKind.wrap Go.IntKind.u64 ((Go.Lift.bitsOp Go.BinOp.and Go.IntKind.u64 (Go.Lift.shrI Go.IntKind.u64 x0 (1 : Int)) (6148914691236517205 : Int)) + (Go.Lift.bitsOp Go.BinOp.and Go.IntKind.u64 x0 (6148914691236517205 : Int)))) (3689348814741910323 : Int)))) (4 : Int)) + (Go.IntKind.wrap Go.IntKind.u64 ((Go.Lift.bitsOp Go.BinOp.and Go.IntKind.u64 (Go.Lift.shrI Go.IntKind.u64 (Go.IntKind.wrap Go.IntKind.u64 ((Go.Lift.bitsOp Go.BinOp.and Go.IntKind.u64 (Go.Lift.shrI Go.IntKind.u64 x0 (1 : Int)) (6148914691236517205 : Int)) + (Go.Lift.bitsOp Go.BinOp.and Go.IntKind.u64 x0 (6148914691236517205 : Int)))) (2 : Int)) (3689348814741910323 : Int)) + (Go.Lift.bitsOp Go.BinOp.and Go.IntKind.u64 (Go.IntKind.wrap Go.IntKind.u64 ((Go.Lift.bitsOp Go.BinOp.and Go.IntKind.u64 (Go.Lift.shrI Go.IntKind.u64 x0 (1 : Int)) (6148914691236517205 : Int)) + (Go.Lift.bitsOp Go.BinOp.and Go.IntKind.u64 x0 (6148914691236517205 : Int)))) (3689348814741910323 : Int)))))) (1085102592571150095 : Int)) + (Go.Lift.shrI Go.IntKind.u64 (Go.Lift.bitsOp Go.BinOp.and Go.IntKind.u64 (Go.IntKind.wrap Go.IntKind.u64 ((Go.Lift.shrI Go.IntKind.u64 (Go.IntKind.wrap Go.IntKind.u64 ((Go.Lift.bitsOp Go.BinOp.and Go.IntKind.u64 (Go.Lift.shrI Go.IntKind.u64 (Go.IntKind.wrap Go.IntKind.u64 ((Go.Lift.bitsOp Go.BinOp.and Go.IntKind.u64 (Go.Lift.shrI Go.IntKind.u64 x0 (1 : Int)) (6148914691236517205 : Int)) + (Go.Lift.bitsOp Go.BinOp.and Go.IntKind.u64 x0 (6148914691236517205 : Int)))) (2 : Int)) (3689348814741910323 : Int)) + (Go.Lift.bitsOp Go.BinOp.and Go.IntKind.u64 (Go.IntKind.wrap Go.IntKind.u64 ((Go.Lift.bitsOp Go.BinOp.and Go.IntKind.u64 (Go.Lift.shrI Go.IntKind.u64 x0 (1 : Int)) (6148914691236517205 : Int)) + (Go.Lift.bitsOp Go.BinOp.and Go.IntKind.u64 x0 (6148914691236517205 : Int)))) (3689348814741910323 : Int)))) (4 : Int)) + (Go.IntKind.wrap Go.IntKind.u64 ((Go.Lift.bitsOp Go.BinOp.and Go.IntKind.u64 (Go.Lift.shrI Go.IntKind.u64 (Go.IntKind.wrap Go.IntKind.u64 ((Go.Lift.bitsOp Go.BinOp.and Go.IntKind.u64 (Go.Lift.shrI Go.IntKind.u64 x0 (1 : Int)) (6148914691236517205 : Int)) + (Go.Lift.bitsOp Go.BinOp.and Go.IntKind.u64 x0 (6148914691236517205 : Int)))) (2 : Int)) (3689348814741910323 : Int)) + (Go.Lift.bitsOp Go.BinOp.and Go.IntKind.u64 (Go.IntKind.wrap Go.IntKind.u64 ((Go.Lift.bitsOp Go.BinOp.and Go.IntKind.u64 (Go.Lift.shrI Go.IntKind.u64 x0 (1 : Int)) (6148914691236517205 : Int)) + (Go.Lift.bitsOp Go.BinOp.and Go.IntKind.u64 x0 (6148914691236517205 : Int)))) (3689348814741910323 : Int)))))) (1085102592571150095 : Int)) (8 : Int)))) + (Go.Lift.shrI Go.IntKind.u64 (Go.IntKind.wrap Go.IntKind.u64 ((Go.Lift.bitsOp Go.BinOp.and Go.IntKind.u64 (Go.IntKind.wrap Go.IntKind.u64 ((Go.Lift.shrI Go.IntKind.u64 (Go.IntKind.wrap Go.IntKind.u64 ((Go.Lift.bitsOp Go.BinOp.and Go.IntKind.u64 (Go.Lift.shrI Go.IntKind.u64 (Go.IntKind.wrap Go.IntKind.u64 ((Go.Lift.bitsOp Go.BinOp.and Go.IntKind.u64 (Go.Lift.shrI Go.IntKind.u64 x0 (1 : Int)) (6148914691236517205 : Int)) + (Go.Lift.bitsOp Go.BinOp.and Go.IntKind.u64 x0 (6148914691236517205 : Int)))) (2 : Int)) (3689348814741910323 : Int)) + (Go.Lift.bitsOp Go.BinOp.and Go.IntKind.u64 (Go.IntKind.wrap Go.IntKind.u64 ((Go.Lift.bitsOp Go.BinOp.and Go.IntKind.u64 (Go.Lift.shrI Go.IntKind.u64 x0 (1 : Int)) (6148914691236517205 : Int)) + (Go.Lift.bitsOp Go.BinOp.and Go.IntKind.u64 x0 (6148914691236517205 : Int)))) (3689348814741910323 : Int)))) (4 : Int)) + (Go.IntKind.wrap Go.IntKind.u64 ((Go.Lift.bitsOp Go.BinOp.and Go.IntKind.u64 (Go.Lift.shrI Go.IntKind.u64 (Go.IntKind.wrap Go.IntKind.u64 ((Go.Lift.bitsOp Go.BinOp.and Go.IntKind.u64 (Go.Lift.shrI Go.IntKind.u64 x0 (1 : Int)) (6148914691236517205 : Int)) + (Go.Lift.bitsOp Go.BinOp.and Go.IntKind.u64 x0 (6148914691236517205 : Int)))) (2 : Int)) (3689348814741910323 : Int)) + (Go.Lift.bitsOp Go.BinOp.and Go.IntKind.u64 (Go.IntKind.wrap Go.IntKind.u64 ((Go.Lift.bitsOp Go.BinOp.and Go.IntKind.u64 (Go.Lift.shrI Go.IntKind.u64 x0 (1 : Int)) (6148914691236517205 : Int)) + (Go.Lift.bitsOp Go.BinOp.and Go.IntKind.u64 x0 (6148914691236517205 : Int)))) (3689348814741910323 : Int)))))) (1085102592571150095 : Int)) + (Go.Lift.shrI Go.IntKind.u64 (Go.Lift.bitsOp Go.BinOp.and Go.IntKind.u64 (Go.IntKind.wrap Go.IntKind.u64 ((Go.Lift.shrI Go.IntKind.u64 (Go.IntKind.wrap Go.IntKind.u64 ((Go.Lift.bitsOp Go.BinOp.and Go.IntKind.u64 (Go.Lift.shrI Go.IntKind.u64 (Go.IntKind.wrap Go.IntKind.u64 ((Go.Lift.bitsOp Go.BinOp.and Go.IntKind.u64 (Go.Lift.shrI Go.IntKind.u64 x0 (1 : Int)) (6148914691236517205 : Int)) + (Go.Lift.bitsOp Go.BinOp.and Go.IntKind.u64 x0 (6148914691236517205 : Int)))) (2 : Int)) (3689348814741910323 : Int)) + (Go.Lift.bitsOp Go.BinOp.and Go.IntKind.u64 (Go.IntKind.wrap Go.IntKind.u64 ((Go.Lift.bitsOp Go.BinOp.and Go.IntKind.u64 (Go.Lift.shrI Go.IntKind.u64 x0 (1 : Int)) (6148914691236517205 : Int)) + (Go.Lift.bitsOp Go.BinOp.and Go.IntKind.u64 x0 (6148914691236517205 : Int)))) (3689348814741910323 : Int)))) (4 : Int)) + (Go.IntKind.wrap Go.IntKind.u64 ((Go.Lift.bitsOp Go.BinOp.and Go.IntKind.u64 (Go.Lift.shrI Go.IntKind.u64 (Go.IntKind.wrap Go.IntKind.u64 ((Go.Lift.bitsOp Go.BinOp.and Go.IntKind.u64 (Go.Lift.shrI Go.IntKind.u64 x0 (1 : Int)) (6148914691236517205 : Int)) + (Go.Lift.bitsOp Go.BinOp.and Go.IntKind.u64 x0 (6148914691236517205 : Int)))) (2 : Int)) (3689348814741910323 : Int)) + (Go.Lift.bitsOp Go.BinOp.and Go.IntKind.u64 (Go.IntKind.wrap Go.IntKind.u64 ((Go.Lift.bitsOp Go.BinOp.and Go.IntKind.u64 (Go.Lift.shrI Go.IntKind.u64 x0 (1 : Int)) (6148914691236517205 : Int)) + (Go.Lift.bitsOp Go.BinOp.and Go.IntKind.u64 x0 (6148914691236517205 : Int)))) (3689348814741910323 : Int)))))) (1085102592571150095 : Int)) (8 : Int)))) (16 : Int)))) + (Go.Lift.shrI Go.IntKind.u64 (Go.IntKind.wrap Go.IntKind.u64 ((Go.IntKind.wrap Go.IntKind.u64 ((Go.Lift.bitsOp Go.BinOp.and Go.IntKind.u64 (Go.IntKind.wrap Go.IntKind.u64 ((Go.Lift.shrI Go.IntKind.u64 (Go.IntKind.wrap Go.IntKind.u64 ((Go.Lift.bitsOp Go.BinOp.and Go.IntKind.u64 (Go.Lift.shrI Go.IntKind.u64 (Go.IntKind.wrap Go.IntKind.u64 ((Go.Lift.bitsOp Go.BinOp.and Go.IntKind.u64 (Go.Lift.shrI Go.IntKind.u64 x0 (1 : Int)) (6148914691236517205 : Int)) + (Go.Lift.bitsOp Go.BinOp.and Go.IntKind.u64 x0 (6148914691236517205 : Int)))) (2 : Int)) (3689348814741910323 : Int)) + (Go.Lift.bitsOp Go.BinOp.and Go.IntKind.u64 (Go.IntKind.wrap Go.IntKind.u64 ((Go.Lift.bitsOp Go.BinOp.and Go.IntKind.u64 (Go.Lift.shrI Go.IntKind.u64 x0 (1 : Int)) (6148914691236517205 : Int)) + (Go.Lift.bitsOp Go.BinOp.and Go.IntKind.u64 x0 (6148914691236517205 : Int)))) (3689348814741910323 : Int)))) (4 : Int)) + (Go.IntKind.wrap Go.IntKind.u64 ((Go.Lift.bitsOp Go.BinOp.and Go.IntKind.u64 (Go.Lift.shrI Go.IntKind.u64 (Go.IntKind.wrap Go.IntKind.u64 ((Go.Lift.bitsOp Go.BinOp.and Go.IntKind.u64 (Go.Lift.shrI Go.IntKind.u64 x0 (1 : Int)) (6148914691236517205 : Int)) + (Go.Lift.bitsOp Go.BinOp.and Go.IntKind.u64 x0 (6148914691236517205 : Int)))) (2 : Int)) (3689348814741910323 : Int)) + (Go.Lift.bitsOp Go.BinOp.and Go.IntKind.u64 (Go.IntKind.wrap Go.IntKind.u64 ((Go.Lift.bitsOp Go.BinOp.and Go.IntKind.u64 (Go.Lift.shrI Go.IntKind.u64 x0 (1 : Int)) (6148914691236517205 : Int)) + (Go.Lift.bitsOp Go.BinOp.and Go.IntKind.u64 x0 (6148914691236517205 : Int)))) (3689348814741910323 : Int)))))) (1085102592571150095 : Int)) + (Go.Lift.shrI Go.IntKind.u64 (Go.Lift.bitsOp Go.BinOp.and Go.IntKind.u64 (Go.IntKind.wrap Go.IntKind.u64 ((Go.Lift.shrI Go.IntKind.u64 (Go.IntKind.wrap Go.IntKind.u64 ((Go.Lift.bitsOp Go.BinOp.and Go.IntKind.u64 (Go.Lift.shrI Go.IntKind.u64 (Go.IntKind.wrap Go.IntKind.u64 ((Go.Lift.bitsOp Go.BinOp.and Go.IntKind.u64 (Go.Lift.shrI Go.IntKind.u64 x0 (1 : Int)) (6148914691236517205 : Int)) + (Go.Lift.bitsOp Go.BinOp.and Go.IntKind.u64 x0 (6148914691236517205 : Int)))) (2 : Int)) (3689348814741910323 : Int)) + (Go.Lift.bitsOp Go.BinOp.and Go.IntKind.u64 (Go.IntKind.wrap Go.IntKind.u64 ((Go.Lift.bitsOp Go.BinOp.and Go.IntKind.u64 (Go.Lift.shrI Go.IntKind.u64 x0 (1 : Int)) (6148914691236517205 : Int)) + (Go.Lift.bitsOp Go.BinOp.and Go.IntKind.u64 x0 (6148914691236517205 : Int)))) (3689348814741910323 : Int)))) (4 : Int)) + (Go.IntKind.wrap Go.IntKind.u64 ((Go.Lift.bitsOp Go.BinOp.and Go.IntKind.u64 (Go.Lift.shrI Go.IntKind.u64 (Go.IntKind.wrap Go.IntKind.u64 ((Go.Lift.bitsOp Go.BinOp.and Go.IntKind.u64 (Go.Lift.shrI Go.IntKind.u64 x0 (1 : Int)) (6148914691236517205 : Int)) + (Go.Lift.bitsOp Go.BinOp.and Go.IntKind.u64 x0 (6148914691236517205 : Int)))) (2 : Int)) (3689348814741910323 : Int)) + (Go.Lift.bitsOp Go.BinOp.and Go.IntKind.u64 (Go.IntKind.wrap Go.IntKind.u64 ((Go.Lift.bitsOp Go.BinOp.and Go.IntKind.u64 (Go.Lift.shrI Go.IntKind.u64 x0 (1 : Int)) (6148914691236517205 : Int)) + (Go.Lift.bitsOp Go.BinOp.and Go.IntKind.u64 x0 (6148914691236517205 : Int)))) (3689348814741910323 : Int)))))) (1085102592571150095 : Int)) (8 : Int)))) + (Go.Lift.shrI Go.IntKind.u64 (Go.IntKind.wrap Go.IntKind.u64 ((Go.Lift.bitsOp Go.BinOp.and Go.IntKind.u64 (Go.IntKind.wrap Go.IntKind.u64 ((Go.Lift.shrI Go.IntKind.u64 (Go.IntKind.wrap Go.IntKind.u64 ((Go.Lift.bitsOp Go.BinOp.and Go.IntKind.u64 (Go.Lift.shrI Go.IntKind.u64 (Go.IntKind.wrap Go.IntKind.u64 ((Go.Lift.bitsOp Go.BinOp.and Go.IntKind.u64 (Go.Lift.shrI Go.IntKind.u64 x0 (1 : Int)) (6148914691236517205 : Int)) + (Go.Lift.bitsOp Go.BinOp.and Go.IntKind.u64 x0 (6148914691236517205 : Int)))) (2 : Int)) (3689348814741910323 : Int)) + (Go.Lift.bitsOp Go.BinOp.and Go.IntKind.u64 (Go.IntKind.wrap Go.IntKind.u64 ((Go.Lift.bitsOp Go.BinOp.and Go.IntKind.u64 (Go.Lift.shrI Go.IntKind.u64 x0 (1 : Int)) (6148914691236517205 : Int)) + (Go.Lift.bitsOp Go.BinOp.and Go.IntKind.u64 x0 (6148914691236517205 : Int)))) (3689348814741910323 : Int)))) (4 : Int)) + (Go.IntKind.wrap Go.IntKind.u64 ((Go.Lift.bitsOp Go.BinOp.and Go.IntKind.u64 (Go.Lift.shrI Go.IntKind.u64 (Go.IntKind.wrap Go.IntKind.u64 ((Go.Lift.bitsOp Go.BinOp.and Go.IntKind.u64 (Go.Lift.shrI Go.IntKind.u64 x0 (1 : Int)) (6148914691236517205 : Int)) + (Go.Lift.bitsOp Go.BinOp.and Go.IntKind.u64 x0 (6148914691236517205 : Int)))) (2 : Int)) (3689348814741910323 : Int)) + (Go.Lift.bitsOp Go.BinOp.and Go.IntKind.u64 (Go.IntKind.wrap Go.IntKind.u64 ((Go.Lift.bitsOp Go.BinOp.and Go.IntKind.u64 (Go.Lift.shrI Go.IntKind.u64 x0 (1 : Int)) (6148914691236517205 : Int)) + (Go.Lift.bitsOp Go.BinOp.and Go.IntKind.u64 x0 (6148914691236517205 : Int)))) (3689348814741910323 : Int)))))) (1085102592571150095 : Int)) + (Go.Lift.shrI Go.IntKind.u64 (Go.Lift.bitsOp Go.BinOp.and Go.IntKind.u64 (Go.IntKind.wrap Go.IntKind.u64 ((Go.Lift.shrI Go.IntKind.u64 (Go.IntKind.wrap Go.IntKind.u64 ((Go.Lift.bitsOp Go.BinOp.and Go.IntKind.u64 (Go.Lift.shrI Go.IntKind.u64 (Go.IntKind.wrap Go.IntKind.u64 ((Go.Lift.bitsOp Go.BinOp.and Go.IntKind.u64 (Go.Lift.shrI Go.IntKind.u64 x0 (1 : Int)) (6148914691236517205 : Int)) + (Go.Lift.bitsOp Go.BinOp.and Go.IntKind.u64 x0 (6148914691236517205 : Int)))) (2 : Int)) (3689348814741910323 : Int)) + (Go.Lift.bitsOp Go.BinOp.and Go.IntKind.u64 (Go.IntKind.wrap Go.IntKind.u64 ((Go.Lift.bitsOp Go.BinOp.and Go.IntKind.u64 (Go.Lift.shrI Go.IntKind.u64 x0 (1 : Int)) (6148914691236517205 : Int)) + (Go.Lift.bitsOp Go.BinOp.and Go.IntKind.u64 x0 (6148914691236517205 : Int)))) (3689348814741910323 : Int)))) (4 : Int)) + (Go.IntKind.wrap Go.IntKind.u64 ((Go.Lift.bitsOp Go.BinOp.and Go.IntKind.u64 (Go.Lift.shrI Go.IntKind.u64 (Go.IntKind.wrap Go.IntKind.u64 ((Go.Lift.bitsOp Go.BinOp.and Go.IntKind.u64 (Go.Lift.shrI Go.IntKind.u64 x0 (1 : Int)) (6148914691236517205 : Int)) + (Go.Lift.bitsOp Go.BinOp.and Go.IntKind.u64 x0 (6148914691236517205 : Int)))) (2 : Int)) (3689348814741910323 : Int)) + (Go.Lift.bitsOp Go.BinOp.and Go.IntKind.u64 (Go.IntKind.wrap Go.IntKind.u64 ((Go.Lift.bitsOp Go.BinOp.and Go.IntKind.u64 (Go.Lift.shrI Go.IntKind.u64 x0 (1 : Int)) (6148914691236517205 : Int)) + (Go.Lift.bitsOp Go.BinOp.and Go.IntKind.u64 x0 (6148914691236517205 : Int)))) (3689348814741910323 : Int)))))) (1085102592571150095 : Int)) (8 : Int)))) (16 : Int)))) (32 : Int))))) (127 : Int))

noncomputable def math_bits_OnesCount64_t (N : Nat) : Tab Int := []

theorem math_bits_OnesCount64_link (N : Nat) (x : denS [(0, .v (.int .u64))]) : evFX (math_bits_OnesCount64_E N) N (math_bits_OnesCount64_t N) math_bits_OnesCount64_L Go.Proofs.Try.f84 (mkS [(0, .v (.int .u64))] 0 x) (kRes (.v (.int .i64)) 1) = math_bits_OnesCount64 N x.1 := by kernel_rfl

noncomputable def math_bits_OnesCount64_res (N : Nat) : List A → Res := resOf [(0, .v (.int .u64))] (fun x => math_bits_OnesCount64 N x.1) (oRes (.v (.int .i64)) 1)

theorem math_bits_OnesCount64_ct (N : Nat) : Contract Go.Proofs.Try.prog noGlob 84 (math_bits_OnesCount64_res N) :=
  Contract.of (E := math_bits_OnesCount64_E N) (H := math_bits_OnesCount64_t N) (L := math_bits_OnesCount64_L) (N := N) (body := math_bits_OnesCount64_body) (K := (kRes (.v (.int .i64)) 1)) (math_bits_OnesCount64_Eok N) Go.Proofs.Try.func84 (by kernel_rfl) (by decide) (fun _ hb => TabOk.nil) (fun x y h => by rw [math_bits_OnesCount64_link]; exact h) (kRes_ok (s := (.v (.int .i64))) (m := 1))

abbrev charset_Count_R : Type := Int

noncomputable def charset_Count_body : Code := (Go.Proofs.Try.f78.body).getD .skip

noncomputable def charset_Count_L : List (List Nat × List Nat) := [([0], [1]), ([0, 1], [1, 3]), ([0, 0, 1, 1], [7, 6, 3]), ([0, 1, 0, 1, 1], [7, 6, 3]), ([0, 0, 0, 1, 0, 1, 1], [8, 6, 7, 3]), ([0, 1, 0, 0, 1, 0, 1, 1], [6, 7, 3]), ([1, 0, 1, 0, 0, 1, 0, 1, 1], [3]), ([0, 0, 0, 1, 1, 0, 0, 1, 0, 1, 1], [3, 5, 7, 6]), ([1, 0, 0, 1, 1, 0, 0, 1, 0, 1, 1], [7, 6, 3]), ([0, 1, 1, 0, 0, 1, 0, 1, 1], [7, 6, 3]), ([1, 1, 1, 0, 0, 1, 0, 1, 1], [7, 6, 3]), ([1, 0, 1, 1], [3]), ([0, 1, 1, 1], [2]), ([1, 1, 1, 1], [2])]

noncomputable def charset_Count_E (N : Nat) : Env := mkEnv tys noGlob [(84, math_bits_OnesCount64_res N)] [] [] [] false [] [(65, slices_Chunk1_itr N)]

theorem charset_Count_Eok (N : Nat) : EnvOk Go.Proofs.Try.prog (charset_Count_E N) := mkEnv_ok mixed tys_ok (FnsOk.cons (math_bits_OnesCount64_ct N) (FnsOk.nil)) (ItsOk.cons (slices_Chunk1_it N) (ItsOk.nil))

noncomputable def charset_Count_s1 (N : Nat) (x6 : (List Int)) (n : Int) (x7 : Int) (rec : Int → Int → Option Int) (k0 : Int → Option Int) : Option Int :=
  cond (decide (x7 < (4 : Int)))
  (cond (Go.Lift.inR x7 4)
    (rec (Go.IntKind.wrap Go.IntKind.i64 (n + (Go.Lift.bitsOp Go.BinOp.and Go.IntKind.i64 (Go.IntKind.wrap Go.IntKind.i64 (Go.IntKind.wrap Go.IntKind.u64 ((Go.IntKind.wrap Go.IntKind.u64 ((Go.IntKind.wrap Go.IntKind.u64 ((Go.Lift.bitsOp Go.BinOp.and Go.IntKind.u64 (Go.IntKind.wrap Go.IntKind.u64 ((Go.Lift.shrI Go.IntKind.u64 (Go.IntKind.wrap Go.IntKind.u64 ((Go.Lift.bitsOp Go.BinOp.and Go.IntKind.u64 (Go.Lift.shrI Go.IntKind.u64 (Go.IntKind.wrap Go.IntKind.u64 ((Go.Lift.bitsOp Go.BinOp.and Go.IntKind.u64 (Go.Lift.shrI Go.IntKind.u64 (List.getD x6 (Int.toNat x7) (0 : Int)) (1 : Int)) (6148914691236517205 : Int)) + (Go.Lift.bitsOp Go.BinOp.and Go.IntKind.u64 (List.getD x6 (Int.toNat x7) (0 : Int)) (6148914691236517205 : Int)))) (2 : Int)) (3689348814741910323 : Int)) + (Go.Lift.bitsOp Go.BinOp.and Go.IntKind.u64 (Go.IntKind.wrap Go.IntKind.u64 ((Go.Lift.bitsOp Go.BinOp.and Go.IntKind.u64 (Go.Lift.shrI Go.IntKind.u64 (List.getD x6 (Int.toNat x7) (0 : Int)) (1 : Int)) (6148914691236517205 : Int)) + (Go.Lift.bitsOp Go.BinOp.and Go.IntKind.u64 (List.getD x6 (Int.toNat x7) (0 : Int)) (6148914691236517205 : Int)))) (3689348814741910323 : Int)))) (4 : Int)) + (Go.IntKind.wrap Go.IntKind.u64 ((Go.Lift.bitsOp Go.BinOp.and Go.IntKind.u64 (Go.Lift.shrI Go.IntKind.u64 (Go.IntKind.wrap Go.IntKind.u64 ((Go.Lift.bitsOp Go.BinOp.and Go.IntKind.u64 (Go.Lift.shrI Go.IntKind.u64 (List.getD x6 (Int.toNat x7) (0 : Int)) (1 : Int)) (6148914691236517205 : Int)) + (Go.Lift.bitsOp Go.BinOp.and Go.IntKind.u64 (List.getD x6 (Int.toNat x7) (0 : Int)) (6148914691236517205 : Int)))) (2 : Int)) (3689348814741910323 : Int)) + (Go.Lift.bitsOp Go.BinOp.and Go.IntKind.u64 (Go.IntKind.wrap Go.IntKind.u64 ((Go.Lift.bitsOp Go.BinOp.and Go.IntKind.u64 (Go.Lift.shrI Go.IntKind.u64 (List.getD x6 (Int.toNat x7) (0 : Int)) (1 : Int)) (6148914691236517205 : Int)) + (Go.Lift.bitsOp Go.BinOp.and Go.IntKind.u64 (List.getD x6 (Int.toNat x7) (0 : Int)) (6148914691236517205 : Int)))) (3689348814741910323 : Int)))))) (1085102592571150095 : Int)) + (Go.Lift.shrI Go.IntKind.u64 (Go.Lift.bitsOp Go.BinOp.and Go.IntKind.u64 (Go.IntKind.wrap Go.IntKind.u64 ((Go.Lift.shrI Go.IntKind.u64 (Go.IntKind.wrap Go.IntKind.u64 ((Go.Lift.bitsOp Go.BinOp.and Go.IntKind.u64 (Go.Lift.shrI Go.IntKind.u64 (Go.IntKind.wrap Go.IntKind.u64 ((Go.Lift.bitsOp Go.BinOp.and Go.IntKind.u64 (Go.Lift.shrI Go.IntKind.u64 (List.getD x6 (Int.toNat x7) (0 : Int)) (1 : Int)) (6148914691236517205 : Int)) + (Go.Lift.bitsOp Go.BinOp.and Go.IntKind.u64 (List.getD x6 (Int.toNat x7) (0 : Int)) (6148914691236517205 : Int)))) (2 : Int)) (3689348814741910323 : Int)) + (Go.Lift.bitsOp Go.BinOp.and Go.IntKind.u64 (Go.IntKind.wrap Go.IntKind.u64 ((Go.Lift.bitsOp Go.BinOp.and Go.IntKind.u64 (Go.Lift.shrI Go.IntKind.u64 (List.getD x6 (Int.toNat x7) (0 : Int)) (1 : Int)) (6148914691236517205 : Int)) + (Go.Lift.bitsOp Go.BinOp.and Go.IntKind.u64 (List.getD x6 (Int.toNat x7) (0 : Int)) (6148914691236517205 : Int)))) (3689348814741910323 : Int)))) (4 : Int)) + (Go.IntKind.wrap Go.IntKind.u64 ((Go.Lift.bitsOp Go.BinOp.and Go.IntKind.u64 (Go.Lift.shrI Go.IntKind.u64 (Go.IntKind.wrap Go.IntKind.u64 ((Go.Lift.bitsOp Go.BinOp.and Go.IntKind.u64 (Go.Lift.shrI Go.IntKind.u64 (List.getD x6 (Int.toNat x7) (0 : Int)) (1 : Int)) (6148914691236517205 : Int)) + (Go.Lift.bitsOp Go.BinOp.and Go.IntKind.u64 (List.getD x6 (Int.toNat x7) (0 : Int)) (6148914691236517205 : Int)))) (2 : Int)) (3689348814741910323 : Int)) + (Go.Lift.bitsOp Go.BinOp.and Go.IntKind.u64 (Go.IntKind.wrap Go.IntKind.u64 ((Go.Lift.bitsOp Go.BinOp.and Go.IntKind.u64 (Go.Lift.shrI Go.IntKind.u64 (List.getD x6 (Int.toNat x7) (0 : Int)) (1 : Int)) (6148914691236517205 : Int)) + (Go.Lift.bitsOp Go.BinOp.and Go.IntKind.u64 (List.getD x6 (Int.toNat x7) (0 : Int)) (6148914691236517205 : Int)))) (3689348814741910323 : Int)))))) (1085102592571150095 : Int)) (8 : Int)))) + (Go.Lift.shrI Go.IntKind.u64 (Go.IntKind.wrap Go.IntKind.u64 ((Go.Lift.bitsOp Go.BinOp.and Go.IntKind.u64 (Go.IntKind.wrap Go.IntKind.u64 ((Go.Lift.shrI Go.IntKind.u64 (Go.IntKind.wrap Go.IntKind.u64 ((Go.Lift.bitsOp Go.BinOp.and Go.IntKind.u64 (Go.Lift.shrI Go.IntKind.u64 (Go.IntKind.wrap Go.IntKind.u64 ((Go.Lift.bitsOp Go.BinOp.and Go.IntKind.u64 (Go.Lift.shrI Go.IntKind.u64 (List.getD x6 (Int.toNat x7) (0 : Int)) (1 : Int)) (6148914691236517205 : Int)) + (Go.Lift.bitsOp Go.BinOp.and Go.IntKind.u64 (List.getD x6 (Int.toNat x7) (0 : Int)) (6148914691236517205 : Int)))) (2 : Int)) (3689348814741910323 : Int)) + (Go.Lift.bitsOp Go.BinOp.and Go.IntKind.u64 (Go.IntKind.wrap Go.IntKind.u64 ((Go.Lift.bitsOp Go.BinOp.and Go.IntKind.u64 (Go.Lift.shrI Go.IntKind.u64 (List.getD x6 (Int.toNat x7) (0 : Int)) (1 : Int)) (6148914691236517205 : Int)) + (Go.Lift.bitsOp Go.BinOp.and Go.IntKind.u64 (List.getD x6 (Int.toNat x7) (0 : Int)) (6148914691236517205 : Int)))) (3689348814741910323 : Int)))) (4 : Int)) + (Go.IntKind.wrap Go.IntKind.u64 ((Go.Lift.bitsOp Go.BinOp.and Go.IntKind.u64 (Go.Lift.shrI Go.IntKind.u64 (Go.IntKind.wrap Go.IntKind.u64 ((Go.Lift.bitsOp Go.BinOp.and Go.IntKind.u64 (Go.Lift.shrI Go.IntKind.u64 (List.getD x6 (Int.toNat x7) (0 : Int)) (1 : Int)) (6148914691236517205 : Int)) + (Go.Lift.bitsOp Go.BinOp.and Go.IntKind.u64 (List.getD x6 (Int.toNat x7) (0 : Int)) (6148914691236517205 : Int)))) (2 : Int)) (3689348814741910323 : Int)) + (Go.Lift.bitsOp Go.BinOp.and Go.IntKind.u64 (Go.IntKind.wrap Go.IntKind.u64 ((Go.Lift.bitsOp Go.BinOp.and Go.IntKind.u64 (Go.Lift.shrI Go.IntKind.u64 (List.getD x6 (Int.toNat x7) (0 : Int)) (1 : Int)) (6148914691236517205 : Int)) + (Go.Lift.bitsOp Go.BinOp.and Go.IntKind.u64 (List.getD x6 (Int.toNat x7) (0 : Int)) (6148914691236517205 : Int)))) (3689348814741910323 : Int)))))) (1085102592571150095 : Int)) + (Go.Lift.shrI Go.IntKind.u64 (Go.Lift.bitsOp Go.BinOp.and Go.IntKind.u64 (Go.IntKind.wrap Go.IntKind.u64 ((Go.Lift.shrI Go.IntKind.u64 (Go.IntKind.wrap Go.IntKind.u64 ((Go.Lift.bitsOp Go.BinOp.and Go.IntKind.u64 (Go.Lift.shrI Go.IntKind.u64 (Go.IntKind.wrap Go.IntKind.u64 ((Go.Lift.bitsOp Go.BinOp.and Go.IntKind.u64 (Go.Lift.shrI Go.IntKind.u64 (List.getD x6 (Int.toNat x7) (0 : Int)) (1 : Int)) (6148914691236517205 : Int)) + (Go.Lift.bitsOp Go.BinOp.and Go.IntKind.u64 (List.getD x6 (Int.toNat x7) (0 : Int)) (6148914691236517205 : Int)))) (2 : Int)) (3689348814741910323 : Int)) + (Go.Lift.bitsOp Go.BinOp.and Go.IntKind.u64 (Go.IntKind.wrap Go.IntKind.u64 ((Go.Lift.bitsOp Go.BinOp.and Go.IntKind.u64 (Go.Lift.shrI Go.IntKind.u64 (List.getD x6 (Int.toNat x7) (0 : Int)) (1 : Int)) (6148914691236517205 : Int)) + (Go.Lift.bitsOp Go.BinOp.and Go.IntKind.u64 (List.getD x6 (Int.toNat x7) (0 : Int)) (6148914691236517205 : Int)))) (3689348814741910323 : Int)))) (4 : Int)) + (Go.IntKind.wrap Go.IntKind.u64 ((Go.Lift.bitsOp Go.BinOp.and Go.IntKind.u64 (Go.Lift.shrI Go.IntKind.u64 (Go.IntKind.wrap Go.IntKind.u64 ((Go.Lift.bitsOp Go.BinOp.and Go.IntKind.u64 (Go.Lift.shrI Go.IntKind.u64 (List.getD x6 (Int.toNat x7) (0 : Int)) (1 : Int)) (6148914691236517205 : Int)) + (Go.Lift.bitsOp Go.BinOp.and Go.IntKind.u64 (List.getD x6 (Int.toNat x7) (0 : Int)) (6148914691236517205 : Int)))) (2 : Int)) (3689348814741910323 : Int)) + (Go.Lift.bitsOp Go.BinOp.and Go.IntKind.u64 (Go.IntKind.wrap Go.IntKind.u64 ((Go.Lift.bitsOp Go.BinOp.and Go.IntKind.u64 (Go.Lift.shrI Go.IntKind.u64 (List.getD x6 (Int.toNat x7) (0 : Int)) (1 : Int)) (6148914691236517205 : Int)) + (Go.Lift.bitsOp Go.BinOp.and Go.IntKind.u64 (List.getD x6 (Int.toNat x7) (0 : Int)) (6148914691236517205 : Int)))) (3689348814741910323 : Int)))))) (1085102592571150095 : Int)) (8 : Int)))) (16 : Int)))) + (Go.Lift.shrI Go.IntKind.u64 (Go.IntKind.wrap Go.IntKind.u64 ((Go.IntKind.wrap Go.IntKind.u64 ((Go.Lift.bitsOp Go.BinOp.and Go.IntKind.u64 (Go.IntKind.wrap Go.IntKind.u64 ((Go.Lift.shrI Go.IntKind.u64 (Go.IntKind.wrap Go.IntKind.u64 ((Go.Lift.bitsOp Go.BinOp.and Go.IntKind.u64 (Go.Lift.shrI Go.IntKind.u64 (Go.IntKind.wrap Go.IntKind.u64 ((Go.Lift.bitsOp Go.BinOp.and Go.IntKind.u64 (Go.Lift.shrI Go.IntKind.u64 (List.getD x6 (Int.toNat x7) (0 : Int)) (1 : Int)) (6148914691236517205 : Int)) + (Go.Lift.bitsOp Go.BinOp.and Go.IntKind.u64 (List.getD x6 (Int.toNat x7) (0 : Int)) (6148914691236517205 : Int)))) (2 : Int)) (3689348814741910323 : Int)) + (Go.Lift.bitsOp Go.BinOp.and Go.IntKind.u64 (Go.IntKind.wrap Go.IntKind.u64 ((Go.Lift.bitsOp Go.BinOp.and Go.IntKind.u64 (Go.Lift.shrI Go.IntKind.u64 (List.getD x6 (Int.toNat x7) (0 : Int)) (1 : Int)) (6148914691236517205 : Int)) + (Go.Lift.bitsOp Go.BinOp.and Go.IntKind.u64 (List.getD x6 (Int.toNat x7) (0 : Int)) (6148914691236517205 : Int)))) (3689348814741910323 : Int)))) (4 : Int)) + (Go.IntKind.wrap Go.IntKind.u64 ((Go.Lift.bitsOp Go.BinOp.and Go.IntKind.u64 (Go.Lift.shrI Go.IntKind.u64 (Go.IntKind.wrap Go.IntKind.u64 ((Go.Lift.bitsOp Go.BinOp.and Go.IntKind.u64 (Go.Lift.shrI Go.IntKind.u64 (List.getD x6 (Int.toNat x7) (0 : Int)) (1 : Int)) (6148914691236517205 : Int)) + (Go.Lift.bitsOp Go.BinOp.and Go.IntKind.u64 (List.getD x6 (Int.toNat x7) (0 : Int)) (6148914691236517205 : Int)))) (2 : Int)) (3689348814741910323 : Int)) + (Go.Lift.bitsOp Go.BinOp.and Go.IntKind.u64 (Go.IntKind.wrap Go.IntKind.u64 ((Go.Lift.bitsOp Go.BinOp.and Go.IntKind.u64 (Go.Lift.shrI Go.IntKind.u64 (List.getD x6 (Int.toNat x7) (0 : Int)) (1 : Int)) (6148914691236517205 : Int)) + (Go.Lift.bitsOp Go.BinOp.and Go.IntKind.u64 (List.getD x6 (Int.toNat x7) (0 : Int)) (6148914691236517205 : Int)))) (3689348814741910323 : Int)))))) (1085102592571150095 : Int)) + (Go.Lift.shrI Go.IntKind.u64 (Go.Lift.bitsOp Go.BinOp.and Go.IntKind.u64 (Go.IntKind.wrap Go.IntKind.u64 ((Go.Lift.shrI Go.IntKind.u64 (Go.IntKind.wrap Go.IntKind.u64 ((Go.Lift.bitsOp Go.BinOp.and Go.IntKind.u64 (Go.Lift.shrI Go.IntKind.u64 (Go.IntKind.wrap Go.IntKind.u64 ((Go.Lift.bitsOp Go.BinOp.and Go.IntKind.u64 (Go.Lift.shrI Go.IntKind.u64 (List.getD x6 (Int.toNat x7) (0 : Int)) (1 : Int)) (6148914691236517205 : Int)) + (Go.Lift.bitsOp Go.BinOp.and Go.IntKind.u64 (List.getD x6 (Int.toNat x7) (0 : Int)) (6148914691236517205 : Int)))) (2 : Int)) (3689348814741910323 : Int)) + (Go.Lift.bitsOp Go.BinOp.and Go.IntKind.u64 (Go.IntKind.wrap Go.IntKind.u64 ((Go.Lift.bitsOp Go.BinOp.and Go.IntKind.u64 (Go.Lift.shrI Go.IntKind.u64 (List.getD x6 (Int.toNat x7) (0 : Int)) (1 : Int)) (6148914691236517205 : Int)) + (Go.Lift.bitsOp Go.BinOp.and Go.IntKind.u64 (List.getD x6 (Int.toNat x7) (0 : Int)) (6148914691236517205 : Int)))) (3689348814741910323 : Int)))) (4 : Int)) + (Go.IntKind.wrap Go.IntKind.u64 ((Go.Lift.bitsOp Go.BinOp.and Go.IntKind.u64 (Go.Lift.shrI Go.IntKind.u64 (Go.IntKind.wrap Go.IntKind.u64 ((Go.Lift.bitsOp Go.BinOp.and Go.IntKind.u64 (Go.Lift.shrI Go.IntKind.u64 (List.getD x6 (Int.toNat x7) (0 : Int)) (1 : Int)) (6148914691236517205 : Int)) + (Go.Lift.bitsOp Go.BinOp.and Go.IntKind.u64 (List.getD x6 (Int.toNat x7) (0 : Int)) (6148914691236517205 : Int)))) (2 : Int)) (3689348814741910323 : Int)) + (Go.Lift.bitsOp Go.BinOp.and Go.IntKind.u64 (Go.IntKind.wrap Go.IntKind.u64 ((Go.Lift.bitsOp Go.BinOp.and Go.IntKind.u64 (Go.Lift.shrI Go.IntKind.u64 (List.getD x6 (Int.toNat x7) (0 : Int)) (1 : Int)) (6148914691236517205 : Int)) + (Go.Lift.bitsOp Go.BinOp.and Go.IntKind.u64 (List.getD x6 (Int.toNat x7) (0 : Int)) (6148914691236517205 : Int)))) (3689348814741910323 : Int)))))) (1085102592571150095 : Int)) (8 : Int)))) + (Go.Lift.shrI Go.IntKind.u64 (Go.IntKind.wrap Go.IntKind.u64 ((Go.Lift.bitsOp Go.BinOp.and Go.IntKind.u64 (Go.IntKind.wrap Go.IntKind.u64 ((Go.Lift.shrI Go.IntKind.u64 (Go.IntKind.wrap Go.IntKind.u64 ((Go.Lift.bitsOp Go.BinOp.and Go.IntKind.u64 (Go.Lift.shrI Go.IntKind.u64 (Go.IntKind.wrap Go.IntKind.u64 ((Go.Lift.bitsOp Go.BinOp.and Go.IntKind.u64 (Go.Lift.shrI Go.IntKind.u64 (List.getD x6 (Int.toNat x7) (0 : Int)) (1 : Int)) (6148914691236517205 : Int)) + (Go.Lift.bitsOp Go.BinOp.and Go.IntKind.u64 (List.getD x6 (Int.toNat x7) (0 : Int)) (6148914691236517205 : Int)))) (2 : Int)) (3689348814741910323 : Int)) + (Go.Lift.bitsOp Go.BinOp.and Go.IntKind.u64 (Go.IntKind.wrap Go.IntKind.u64 ((Go.Lift.bitsOp Go.BinOp.and Go.IntKind.u64 (Go.Lift.shrI Go.IntKind.u64 (List.getD x6 (Int.toNat x7) (0 : Int)) (1 : Int)) (6148914691236517205 : Int)) + (Go.Lift.bitsOp Go.BinOp.and Go.IntKind.u64 (List.getD x6 (Int.toNat x7) (0 : Int)) (6148914691236517205 : Int)))) (3689348814741910323 : Int)))) (4 : Int)) + (Go.IntKind.wrap Go.IntKind.u64 ((Go.Lift.bitsOp Go.BinOp.and Go.IntKind.u64 (Go.Lift.shrI Go.IntKind.u64 (Go.IntKind.wrap Go.IntKind.u64 ((Go.Lift.bitsOp Go.BinOp.and Go.IntKind.u64 (Go.Lift.shrI Go.IntKind.u64 (List.getD x6 (Int.toNat x7) (0 : Int)) (1 : Int)) (6148914691236517205 : Int)) + (Go.Lift.bitsOp Go.BinOp.and Go.IntKind.u64 (List.getD x6 (Int.toNat x7) (0 : Int)) (6148914691236517205 : Int)))) (2 : Int)) (3689348814741910323 : Int)) + (Go.Lift.bitsOp Go.BinOp.and Go.IntKind.u64 (Go.IntKind.wrap Go.IntKind.u64 ((Go.Lift.bitsOp Go.BinOp.and Go.IntKind.u64 (Go.Lift.shrI Go.IntKind.u64 (List.getD x6 (Int.toNat x7) (0 : Int)) (1 : Int)) (6148914691236517205 : Int)) + (Go.Lift.bitsOp Go.BinOp.and Go.IntKind.u64 (List.getD x6 (Int.toNat x7) (0 : Int)) (6148914691236517205 : Int)))) (3689348814741910323 : Int)))))) (1085102592571150095 : Int)) + (Go.Lift.shrI Go.IntKind.u64 (Go.Lift.bitsOp Go.BinOp.and Go.IntKind.u64 (Go.IntKind.wrap Go.IntKind.u64 ((Go.Lift.shrI Go.IntKind.u64 (Go.IntKind.wrap Go.IntKind.u64 ((Go.Lift.bitsOp Go.BinOp.and Go.IntKind.u64 (Go.Lift.shrI Go.IntKind.u64 (Go.IntKind.wrap Go.IntKind.u64 ((Go.Lift.bitsOp Go.BinOp.and Go.IntKind.u64 (Go.Lift.shrI Go.IntKind.u64 (List.getD x6 (Int.toNat x7) (0 : Int)) (1 : Int)) (6148914691236517205 : Int)) + (Go.Lift.bitsOp Go.BinOp.and Go.IntKind.u64 (List.getD x6 (Int.toNat x7) (0 : Int)) (6148914691236517205 : Int)))) (2 : Int)) (3689348814741910323 : Int)) + (Go.Lift.bitsOp Go.BinOp.and Go.IntKind.u64 (Go.IntKind.wrap Go.IntKind.u64 ((Go.Lift.bitsOp Go.BinOp.and Go.IntKind.u64 (Go.Lift.shrI Go.IntKind.u64 (List.getD x6 (Int.toNat x7) (0 : Int)) (1 : Int)) (6148914691236517205 : Int)) + (Go.Lift.bitsOp Go.BinOp.and Go.IntKind.u64 (List.getD x6 (Int.toNat x7) (0 : Int)) (6148914691236517205 : Int)))) (3689348814741910323 : Int)))) (4 : Int)) + (Go.IntKind.wrap Go.IntKind.u64 ((Go.Lift.bitsOp Go.BinOp.and Go.IntKind.u64 (Go.Lift.shrI Go.IntKind.u64 (Go.IntKind.wrap Go.IntKind.u64 ((Go.Lift.bitsOp Go.BinOp.and Go.IntKind.u64 (Go.Lift.shrI Go.IntKind.u64 (List.getD x6 (Int.toNat x7) (0 : Int)) (1 : Int)) (6148914691236517205 : Int)) + (Go.Lift.bitsOp Go.BinOp.and Go.IntKind.u64 (List.getD x6 (Int.toNat x7) (0 : Int)) (6148914691236517205 : Int)))) (2 : Int)) (3689348814741910323 : Int)) + (Go.Lift.bitsOp Go.BinOp.and Go.IntKind.u64 (Go.IntKind.wrap Go.IntKind.u64 ((Go.Lift.bitsOp Go.BinOp.and Go.IntKind.u64 (Go.Lift.shrI Go.IntKind.u64 (List.getD x6 (Int.toNat x7) (0 : Int)) (1 : Int)) (6148914691236517205 : Int)) + (Go.Lift.bitsOp Go.BinOp.and Go.IntKind.u64 (List.getD x6 (Int.toNat x7) (0 : Int)) (6148914691236517205 : Int)))) (3689348814741910323 : Int)))))) (1085102592571150095 : Int)) (8 : Int)))) (16 : Int)))) (32 : Int))))) (127 : Int)))) (Go.IntKind.wrap Go.IntKind.i64 (x7 + (1 : Int))))
    (none))
  (k0 n)

noncomputable def charset_Count_p1 (N : Nat) (n : Int) (x6 : (List Int)) (x7 : Int) (k0 : Int → Option Int) : Option Int :=
  iter (fun (v : (Int × Int)) r => charset_Count_s1 N x6 v.1 v.2 (fun n x7 => (r (n, x7))) k0) N (n, x7)

noncomputable def charset_Count_g1 (N : Nat) (i : (List Int)) (v : (Int × Int)) (r : (Int × Int) → Option Int) (K : Ex → List A → Option Int) : Option Int :=
  charset_Count_s1 N i v.1 v.2 (fun n x7 => (r (n, x7))) (fun a0 => (K (.exit 0) (mkS [(3, .v (.int .i64))] 12 (a0, ()))))

noncomputable def charset_Count_h1 (N : Nat) : Hd Int := fun st K => (unS [(3, .v (.int .i64)), (2, .v (.arr 4 (.int .u64))), (0, .v (.int .i64))] 8 (restr [7, 6, 3] 0 st)).bind fun x => iter (fun v r => charset_Count_g1 N ((fun x => x.2.1) x) v r K) N ((fun x => (x.1, x.2.2.1)) x)

noncomputable def charset_Count_t1 (N : Nat) : Tab Int := []

theorem charset_Count_ok1 {N : Nat} {c : Ctx} (hb : Base Go.Proofs.Try.prog (charset_Count_E N) c) : CodeOk Go.Proofs.Try.prog c (nodeAt charset_Count_body [0, 1, 0, 1, 1]) (charset_Count_h1 N) :=
  loop_ok (s := [(3, .v (.int .i64)), (2, .v (.arr 4 (.int .u64))), (0, .v (.int .i64))]) (m := 8) (charset_Count_g1 N) [7, 6, 3] N (fun x => x.2.1) (fun x => (x.1, x.2.2.1)) (fun i v => (v.1, i, v.2, ())) (fun _ => rfl) (evN_sound hb N (charset_Count_t1 N) charset_Count_L charset_Count_body TabOk.nil [0, 0, 1, 0, 1, 1] _ rfl) (fun i v r K => by kernel_rfl)

noncomputable def charset_Count (N : Nat) (s : (List Int)) : Option Int :=
  charset_Count_p1 N (0 : Int) s (0 : Int)
  (fun n => some n)

noncomputable def charset_Count_t (N : Nat) : Tab Int := [([0, 1, 0, 1, 1], charset_Count_h1 N)]

theorem charset_Count_link (N : Nat) (x : denS [(0, .v (.arr 4 (.int .u64)))]) : evFX (charset_Count_E N) N (charset_Count_t N) charset_Count_L Go.Proofs.Try.f78 (mkS [(0, .v (.arr 4 (.int .u64)))] 0 x) (kRes (.v (.int .i64)) 1) = charset_Count N x.1 := by kernel_rfl

noncomputable def charset_Count_res (N : Nat) : List A → Res := resOf [(0, .v (.arr 4 (.int .u64)))] (fun x => charset_Count N x.1) (oRes (.v (.int .i64)) 1)

theorem charset_Count_ct (N : Nat) : Contract Go.Proofs.Try.prog noGlob 78 (charset_Count_res N) :=
  Contract.of (E := charset_Count_E N) (H := charset_Count_t N) (L := charset_Count_L) (N := N) (body := charset_Count_body) (K := (kRes (.v (.int .i64)) 1)) (charset_Count_Eok N) Go.Proofs.Try.func78 (by kernel_rfl) (by decide) (fun _ hb => (TabOk.cons (charset_Count_ok1 hb) TabOk.nil)) (fun x y h => by rw [charset_Count_link]; exact h) (kRes_ok (s := (.v (.int .i64))) (m := 1))

abbrev charset_Has_R : Type := Bool

noncomputable def charset_Has_body : Code := (Go.Proofs.Try.f79.body).getD .skip

noncomputable def charset_Has_L : List (List Nat × List Nat) := [([0], [1, 2]), ([0, 1], [4]), ([1, 1], [4])]

noncomputable def charset_Has_E (N : Nat) : Env := mkEnv tys noGlob [] [] [] [] false [] [(65, slices_Chunk1_itr N)]

theorem charset_Has_Eok (N : Nat) : EnvOk Go.Proofs.Try.prog (charset_Has_E N) := mkEnv_ok mixed tys_ok (FnsOk.nil) (ItsOk.cons (slices_Chunk1_it N) (ItsOk.nil))

noncomputable def charset_Has (N : Nat) (s : (List Int)) (b : Int) : Option Bool :=
  cond (Go.Lift.inR (Go.IntKind.wrap Go.IntKind.u8 (Int.tdiv b (64 : Int))) 4)
  (cond (decide ((Int.toNat (Go.IntKind.wrap Go.IntKind.u8 (Int.tdiv b (64 : Int)))) < (List.length s)))
    (cond (decide ((0 : Int) ≤ (Int.tmod b (64 : Int))))
      (some ((Go.Lift.bitsOp Go.BinOp.and Go.IntKind.u64 (Go.Lift.shrI Go.IntKind.u64 (List.getD s (Int.toNat (Go.IntKind.wrap Go.IntKind.u8 (Int.tdiv b (64 : Int)))) (0 : Int)) (Int.tmod b (64 : Int))) (1 : Int)) == (1 : Int)))
      (none))
    (none))
  (none)

noncomputable def charset_Has_t (N : Nat) : Tab Bool := []

theorem charset_Has_link (N : Nat) (x : denS [(0, .v (.arr 4 (.int .u64))), (0, .v (.int .u8))]) : evFX (charset_Has_E N) N (charset_Has_t N) charset_Has_L Go.Proofs.Try.f79 (mkS [(0, .v (.arr 4 (.int .u64))), (0, .v (.int .u8))] 0 x) (kRes (.v .bool) 2) = charset_Has N x.1 x.2.1 := by kernel_rfl

noncomputable def charset_Has_res (N : Nat) : List A → Res := resOf [(0, .v (.arr 4 (.int .u64))), (0, .v (.int .u8))] (fun x => charset_Has N x.1 x.2.1) (oRes (.v .bool) 2)

theorem charset_Has_ct (N : Nat) : Contract Go.Proofs.Try.prog noGlob 79 (charset_Has_res N) :=
  Contract.of (E := charset_Has_E N) (H := charset_Has_t N) (L := charset_Has_L) (N := N) (body := charset_Has_body) (K := (kRes (.v .bool) 2)) (charset_Has_Eok N) Go.Proofs.Try.func79 (by kernel_rfl) (by decide) (fun _ hb => TabOk.nil) (fun x y h => by rw [charset_Has_link]; exact h) (kRes_ok (s := (.v .bool)) (m := 2))

abbrev charset_Text_R : Type := (List UInt8)

noncomputable def charset_Text_body : Code := (Go.Proofs.Try.f66.body).getD .skip

noncomputable def charset_Text_L : List (List Nat × List Nat) := [([0], [1]), ([0, 1], [1, 3]), ([0, 0, 1, 1], [8, 1, 3]), ([0, 1, 0, 1, 1], [8, 1, 3]), ([0, 0, 0, 1, 0, 1, 1], [9, 8, 1, 3]), ([0, 1, 0, 0, 1, 0, 1, 1], [8, 1, 3]), ([1, 0, 1, 0, 0, 1, 0, 1, 1], [3]), ([0, 0, 0, 1, 1, 0, 0, 1, 0, 1, 1], [1, 4, 3, 8]), ([0, 1, 0, 0, 1, 1, 0, 0, 1, 0, 1, 1], [14, 3, 4, 8, 1]), ([1, 1, 0, 0, 1, 1, 0, 0, 1, 0, 1, 1], [8, 1, 3]), ([0, 1, 1, 0, 0, 1, 1, 0, 0, 1, 0, 1, 1], [8, 1, 3]), ([0, 1, 1, 0, 0, 1, 0, 1, 1], [8, 1, 3]), ([1, 1, 1, 0, 0, 1, 0, 1, 1], [8, 1, 3]), ([1, 0, 1, 1], [3]), ([0, 1, 1, 1], [2]), ([1, 1, 1, 1], [2])]

noncomputable def charset_Text_E (N : Nat) : Env := mkEnv tys noGlob [(79, charset_Has_res N), (78, charset_Count_res N)] [(3, (.int .u8))] [] [] false [] [(65, slices_Chunk1_itr N)]

theorem charset_Text_Eok (N : Nat) : EnvOk Go.Proofs.Try.prog (charset_Text_E N) := mkEnv_ok mixed tys_ok (FnsOk.cons (charset_Has_ct N) (FnsOk.cons (charset_Count_ct N) (FnsOk.nil))) (ItsOk.cons (slices_Chunk1_it N) (ItsOk.nil))

noncomputable def charset_Text_s1 (N : Nat) (s : (List Int)) (out : (List Int)) (x8 : Int) (rec : (List Int) → Int → Option (List UInt8)) (k0 : (List Int) → Option (List UInt8)) : Option (List UInt8) :=
  cond (decide (x8 < (256 : Int)))
  ((charset_Has N s (Go.IntKind.wrap Go.IntKind.u8 x8)).bind fun y =>
    cond y
    (cond (decide ((((List.length out) + 1) * 1) ≤ 70368744177664))
      (rec (out ++ ([(Go.IntKind.wrap Go.IntKind.u8 x8)] : List Int)) (Go.IntKind.wrap Go.IntKind.i64 (x8 + (1 : Int))))
      (none))
    (rec out (Go.IntKind.wrap Go.IntKind.i64 (x8 + (1 : Int)))))
  (k0 out)

noncomputable def charset_Text_p1 (N : Nat) (s : (List Int)) (out : (List Int)) (x8 : Int) (k0 : (List Int) → Option (List UInt8)) : Option (List UInt8) :=
  iter (fun (v : ((List Int) × Int)) r => charset_Text_s1 N s v.1 v.2 (fun out x8 => (r (out, x8))) k0) N (out, x8)

noncomputable def charset_Text_g1 (N : Nat) (i : (List Int)) (v : ((List Int) × Int)) (r : ((List Int) × Int) → Option (List UInt8)) (K : Ex → List A → Option (List UInt8)) : Option (List UInt8) :=
  charset_Text_s1 N i v.1 v.2 (fun out x8 => (r (out, x8))) (fun a0 => (K (.exit 0) (mkS [(3, .row (.int .u8))] 19 (a0, ()))))

noncomputable def charset_Text_h1 (N : Nat) : Hd (List UInt8) := fun st K => (unS [(1, .box (.arr 4 (.int .u64))), (1, .row (.int .u8)), (4, .v (.int .i64))] 14 (restr [8, 1, 3] 0 st)).bind fun x => iter (fun v r => charset_Text_g1 N ((fun x => x.1) x) v r K) N ((fun x => (x.2.1, x.2.2.1)) x)

noncomputable def charset_Text_t1 (N : Nat) : Tab (List UInt8) := []

theorem charset_Text_ok1 {N : Nat} {c : Ctx} (hb : Base Go.Proofs.Try.prog (charset_Text_E N) c) : CodeOk Go.Proofs.Try.prog c (nodeAt charset_Text_body [0, 1, 0, 1, 1]) (charset_Text_h1 N) :=
  loop_ok (s := [(1, .box (.arr 4 (.int .u64))), (1, .row (.int .u8)), (4, .v (.int .i64))]) (m := 14) (charset_Text_g1 N) [8, 1, 3] N (fun x => x.1) (fun x => (x.2.1, x.2.2.1)) (fun i v => (i, v.1, v.2, ())) (fun _ => rfl) (evN_sound hb N (charset_Text_t1 N) charset_Text_L charset_Text_body TabOk.nil [0, 0, 1, 0, 1, 1] _ rfl) (fun i v r K => by kernel_rfl)

noncomputable def charset_Text (N : Nat) (s : (List Int)) : Option (List UInt8) :=
  (charset_Count N s).bind fun y =>
  cond (decide (((0 : Int) ≤ (0 : Int)) ∧ (((0 : Int) ≤ y) ∧ (((y * (1 : Int)) ≤ (281474976710656 : Int)) ∧ (y ≤ (9223372036854775807 : Int))))))
  (charset_Text_p1 N s ([] : List Int) (0 : Int)
    (fun out => some (Go.Lift.toStr out)))
  (none)

noncomputable def charset_Text_t (N : Nat) : Tab (List UInt8) := [([0, 1, 0, 1, 1], charset_Text_h1 N)]

theorem charset_Text_link (N : Nat) (x : denS [(0, .v (.arr 4 (.int .u64)))]) : evFX (charset_Text_E N) N (charset_Text_t N) charset_Text_L Go.Proofs.Try.f66 (mkS [(0, .v (.arr 4 (.int .u64)))] 0 x) (kRes (.v .str) 1) = charset_Text N x.1 := by kernel_rfl

noncomputable def charset_Text_res (N : Nat) : List A → Res := resOf [(0, .v (.arr 4 (.int .u64)))] (fun x => charset_Text N x.1) (oRes (.v .str) 1)

theorem charset_Text_ct (N : Nat) : Contract Go.Proofs.Try.prog noGlob 66 (charset_Text_res N) :=
  Contract.of (E := charset_Text_E N) (H := charset_Text_t N) (L := charset_Text_L) (N := N) (body := charset_Text_body) (K := (kRes (.v .str) 1)) (charset_Text_Eok N) Go.Proofs.Try.func66 (by kernel_rfl) (by decide) (fun _ hb => (TabOk.cons (charset_Text_ok1 hb) TabOk.nil)) (fun x y h => by rw [charset_Text_link]; exact h) (kRes_ok (s := (.v .str)) (m := 1))

abbrev blocks_numberT_R : Type := (List Int)

noncomputable def blocks_numberT_body : Code := (Go.Proofs.Try.f67.body).getD .skip

noncomputable def blocks_numberT_L : List (List Nat × List Nat) := [([0], [0]), ([0, 1], [0, 3]), ([0, 1, 1], [0, 3, 4]), ([0, 0, 1, 1, 1], [15, 14, 13, 3, 4]), ([0, 1, 0, 1, 1, 1], [15, 14, 13, 3, 4]), ([0, 0, 0, 1, 0, 1, 1, 1], [16, 15, 13, 3, 4, 14]), ([0, 1, 0, 0, 1, 0, 1, 1, 1], [15, 13, 3, 4, 14]), ([1, 0, 1, 0, 0, 1, 0, 1, 1, 1], [4]), ([0, 0, 0, 1, 1, 0, 0, 1, 0, 1, 1, 1], [3, 6, 4, 5, 15, 14, 13]), ([0, 1, 0, 0, 1, 1, 0, 0, 1, 0, 1, 1, 1], [8, 3, 6, 4, 5, 15, 14, 13, 7]), ([0, 0, 1, 1, 0, 0, 1, 1, 0, 0, 1, 0, 1, 1, 1], [27, 3, 6, 4, 5, 15, 14, 13, 7]), ([1, 0, 1, 1, 0, 0, 1, 1, 0, 0, 1, 0, 1, 1, 1], [4, 5, 7, 15, 14, 13, 3]), ([0, 0, 1, 0, 1, 1, 0, 0, 1, 1, 0, 0, 1, 0, 1, 1, 1], [3, 6, 7, 4, 5, 15, 14, 13]), ([1, 0, 1, 0, 1, 1, 0, 0, 1, 1, 0, 0, 1, 0, 1, 1, 1], [4, 5, 7, 15, 14, 13, 3]), ([1, 1, 1, 0, 0, 1, 1, 0, 0, 1, 0, 1, 1, 1], [15, 14, 13, 3, 4]), ([0, 1, 1, 0, 0, 1, 0, 1, 1, 1], [15, 14, 13, 3, 4]), ([1, 1, 1, 0, 0, 1, 0, 1, 1, 1], [15, 14, 13, 3, 4]), ([1, 0, 1, 1, 1], [4]), ([0, 1, 1, 1, 1], [2]), ([1, 1, 1, 1, 1], [2])]

noncomputable def blocks_numberT_E (N : Nat) : Env := mkEnv tys noGlob [] [(4, (.int .i64)), (2, (.int .i64))] [] [] false [] [(65, slices_Chunk1_itr N)]

theorem blocks_numberT_Eok (N : Nat) : EnvOk Go.Proofs.Try.prog (blocks_numberT_E N) := mkEnv_ok mixed tys_ok (FnsOk.nil) (ItsOk.cons (slices_Chunk1_it N) (ItsOk.nil))

noncomputable def blocks_numberT_p2 (N : Nat) (classes : (Option (List ((List Int) × Int)))) (b : (List Int)) (i : Int) (key : (List Int)) (class_ : Int) (seen : Bool) (x13 : (List (List Int))) (x14 : Int) (x15 : Int) (k0 : (Option (List ((List Int) × Int))) → Int → Option (List Int)) : Option (List Int) :=
  cond (!seen)
  (cond (Option.isSome classes)
    (k0 (Option.some (Go.Lift.setM (Go.Lift.eqD (Go.Lift.T.arr 5 (Go.Lift.T.int Go.IntKind.u64))) key (((List.length (Option.getD classes ([] : List ((List Int) × Int)))) : Nat) : Int) (Option.getD classes ([] : List ((List Int) × Int))))) (((List.length (Option.getD classes ([] : List ((List Int) × Int)))) : Nat) : Int))
    (none))
  (k0 classes class_)

noncomputable def blocks_numberT_g2 (N : Nat) (x : denS [(3, .ov (.mp (.arr 5 (.int .u64)) (.int .i64))), (0, .row (.int .i64)), (0, .v (.int .i64)), (0, .box (.arr 5 (.int .u64))), (0, .v (.int .i64)), (0, .v .bool), (4, .v (.sl (.arr 5 (.int .u64)))), (0, .v (.int .i64)), (0, .v (.int .i64))]) (K : Ex → List A → Option (List Int)) : Option (List Int) :=
  blocks_numberT_p2 N x.1 x.2.1 x.2.2.1 x.2.2.2.1 x.2.2.2.2.1 x.2.2.2.2.2.1 x.2.2.2.2.2.2.1 x.2.2.2.2.2.2.2.1 x.2.2.2.2.2.2.2.2.1 (fun a0 a3 => (K .normal (mkS [(3, .ov (.mp (.arr 5 (.int .u64)) (.int .i64))), (0, .row (.int .i64)), (0, .v (.int .i64)), (1, .v (.int .i64)), (5, .v (.sl (.arr 5 (.int .u64)))), (0, .v (.int .i64)), (0, .v (.int .i64))] 23 (a0, x.2.1, x.2.2.1, a3, x.2.2.2.2.2.2.1, x.2.2.2.2.2.2.2.1, x.2.2.2.2.2.2.2.2.1, ()))))

noncomputable def blocks_numberT_h2 (N : Nat) : Hd (List Int) := fun st K => (unS [(3, .ov (.mp (.arr 5 (.int .u64)) (.int .i64))), (0, .row (.int .i64)), (0, .v (.int .i64)), (0, .box (.arr 5 (.int .u64))), (0, .v (.int .i64)), (0, .v .bool), (4, .v (.sl (.arr 5 (.int .u64)))), (0, .v (.int .i64)), (0, .v (.int .i64))] 23 (restr [8, 3, 6, 4, 5, 15, 14, 13, 7] 0 st)).bind fun x => blocks_numberT_g2 N x K

noncomputable def blocks_numberT_t2 (N : Nat) : Tab (List Int) := []

theorem blocks_numberT_ok2 {N : Nat} {c : Ctx} (hb : Base Go.Proofs.Try.prog (blocks_numberT_E N) c) : CodeOk Go.Proofs.Try.prog c (nodeAt blocks_numberT_body [0, 1, 1, 0, 0, 1, 1, 0, 0, 1, 0, 1, 1, 1]) (blocks_numberT_h2 N) :=
  piece_ok (s := [(3, .ov (.mp (.arr 5 (.int .u64)) (.int .i64))), (0, .row (.int .i64)), (0, .v (.int .i64)), (0, .box (.arr 5 (.int .u64))), (0, .v (.int .i64)), (0, .v .bool), (4, .v (.sl (.arr 5 (.int .u64)))), (0, .v (.int .i64)), (0, .v (.int .i64))]) (m := 23) (g := blocks_numberT_g2 N) [8, 3, 6, 4, 5, 15, 14, 13, 7] (evN_sound hb N (blocks_numberT_t2 N) blocks_numberT_L blocks_numberT_body TabOk.nil [0, 1, 1, 0, 0, 1, 1, 0, 0, 1, 0, 1, 1, 1] _ rfl) (fun x K => by kernel_rfl)

noncomputable def blocks_numberT_s1 (N : Nat) (x13 : (List (List Int))) (x14 : Int) (classes : (Option (List ((List Int) × Int)))) (b : (List Int)) (x15 : Int) (rec : (Option (List ((List Int) × Int))) → (List Int) → Int → Option (List Int)) (k0 : (List Int) → Option (List Int)) : Option (List Int) :=
  cond (decide (x15 < x14))
  (cond (Go.Lift.inR x15 (List.length x13))
    (blocks_numberT_p2 N classes b x15 (List.getD x13 (Int.toNat x15) ([] : List Int)) (Option.getD (Go.Lift.lookM (Go.Lift.eqD (Go.Lift.T.arr 5 (Go.Lift.T.int Go.IntKind.u64))) (List.getD x13 (Int.toNat x15) ([] : List Int)) (Option.getD classes ([] : List ((List Int) × Int)))) (0 : Int)) (Option.isSome (Go.Lift.lookM (Go.Lift.eqD (Go.Lift.T.arr 5 (Go.Lift.T.int Go.IntKind.u64))) (List.getD x13 (Int.toNat x15) ([] : List Int)) (Option.getD classes ([] : List ((List Int) × Int))))) x13 x14 x15
      (fun classes1 class_ => cond (Go.Lift.inR x15 (List.length b))
        (cond (decide ((Int.toNat x15) < (List.length b)))
          (rec classes1 (List.set b (Int.toNat x15) class_) (Go.IntKind.wrap Go.IntKind.i64 (x15 + (1 : Int))))
          (none))
        (none)))
    (none))
  (k0 b)

noncomputable def blocks_numberT_p1 (N : Nat) (classes : (Option (List ((List Int) × Int)))) (b : (List Int)) (x13 : (List (List Int))) (x14 : Int) (x15 : Int) (k0 : (List Int) → Option (List Int)) : Option (List Int) :=
  iter (fun (v : ((Option (List ((List Int) × Int))) × (List Int) × Int)) r => blocks_numberT_s1 N x13 x14 v.1 v.2.1 v.2.2 (fun classes b x15 => (r (classes, b, x15))) k0) N (classes, b, x15)

noncomputable def blocks_numberT_g1 (N : Nat) (i : ((List (List Int)) × Int)) (v : ((Option (List ((List Int) × Int))) × (List Int) × Int)) (r : ((Option (List ((List Int) × Int))) × (List Int) × Int) → Option (List Int)) (K : Ex → List A → Option (List Int)) : Option (List Int) :=
  blocks_numberT_s1 N i.1 i.2 v.1 v.2.1 v.2.2 (fun classes b x15 => (r (classes, b, x15))) (fun a0 => (K (.exit 0) (mkS [(4, .row (.int .i64))] 34 (a0, ()))))

noncomputable def blocks_numberT_h1 (N : Nat) : Hd (List Int) := fun st K => (unS [(3, .ov (.mp (.arr 5 (.int .u64)) (.int .i64))), (0, .row (.int .i64)), (8, .v (.sl (.arr 5 (.int .u64)))), (0, .v (.int .i64)), (0, .v (.int .i64))] 23 (restr [15, 14, 13, 3, 4] 0 st)).bind fun x => iter (fun v r => blocks_numberT_g1 N ((fun x => (x.2.2.1, x.2.2.2.1)) x) v r K) N ((fun x => (x.1, x.2.1, x.2.2.2.2.1)) x)

noncomputable def blocks_numberT_t1 (N : Nat) : Tab (List Int) := [([0, 1, 1, 0, 0, 1, 1, 0, 0, 1, 0, 1, 1, 1], blocks_numberT_h2 N)]

theorem blocks_numberT_ok1 {N : Nat} {c : Ctx} (hb : Base Go.Proofs.Try.prog (blocks_numberT_E N) c) : CodeOk Go.Proofs.Try.prog c (nodeAt blocks_numberT_body [0, 1, 0, 1, 1, 1]) (blocks_numberT_h1 N) :=
  loop_ok (s := [(3, .ov (.mp (.arr 5 (.int .u64)) (.int .i64))), (0, .row (.int .i64)), (8, .v (.sl (.arr 5 (.int .u64)))), (0, .v (.int .i64)), (0, .v (.int .i64))]) (m := 23) (blocks_numberT_g1 N) [15, 14, 13, 3, 4] N (fun x => (x.2.2.1, x.2.2.2.1)) (fun x => (x.1, x.2.1, x.2.2.2.2.1)) (fun i v => (v.1, v.2.1, i.1, i.2, v.2.2, ())) (fun _ => rfl) (evN_sound hb N (blocks_numberT_t1 N) blocks_numberT_L blocks_numberT_body (TabOk.cons (blocks_numberT_ok2 hb) TabOk.nil) [0, 0, 1, 0, 1, 1, 1] _ rfl) (fun i v r K => by kernel_rfl)

noncomputable def blocks_numberT (N : Nat) (keys : (List (List Int))) : Option (List Int) :=
  cond (decide (((0 : Int) ≤ (((List.length keys) : Nat) : Int)) ∧ (((((List.length keys) : Nat) : Int) ≤ (((List.length keys) : Nat) : Int)) ∧ ((((((List.length keys) : Nat) : Int) * (8 : Int)) ≤ (281474976710656 : Int)) ∧ ((((List.length keys) : Nat) : Int) ≤ (9223372036854775807 : Int))))))
  (blocks_numberT_p1 N (Option.some ([] : List ((List Int) × Int))) (List.replicate (Int.toNat (((List.length keys) : Nat) : Int)) (0 : Int)) keys (((List.length keys) : Nat) : Int) (0 : Int)
    (fun b => some b))
  (none)

noncomputable def blocks_numberT_t (N : Nat) : Tab (List Int) := [([0, 1, 0, 1, 1, 1], blocks_numberT_h1 N)]

theorem blocks_numberT_link (N : Nat) (x : denS [(0, .v (.sl (.arr 5 (.int .u64))))]) : evFX (blocks_numberT_E N) N (blocks_numberT_t N) blocks_numberT_L Go.Proofs.Try.f67 (mkS [(0, .v (.sl (.arr 5 (.int .u64))))] 0 x) (kRes (.v (.sl (.int .i64))) 1) = blocks_numberT N x.1 := by kernel_rfl

noncomputable def blocks_numberT_res (N : Nat) : List A → Res := resOf [(0, .v (.sl (.arr 5 (.int .u64))))] (fun x => blocks_numberT N x.1) (oRes (.v (.sl (.int .i64))) 1)

theorem blocks_numberT_ct (N : Nat) : Contract Go.Proofs.Try.prog noGlob 67 (blocks_numberT_res N) :=
  Contract.of (E := blocks_numberT_E N) (H := blocks_numberT_t N) (L := blocks_numberT_L) (N := N) (body := blocks_numberT_body) (K := (kRes (.v (.sl (.int .i64))) 1)) (blocks_numberT_Eok N) Go.Proofs.Try.func67 (by kernel_rfl) (by decide) (fun _ hb => (TabOk.cons (blocks_numberT_ok1 hb) TabOk.nil)) (fun x y h => by rw [blocks_numberT_link]; exact h) (kRes_ok (s := (.v (.sl (.int .i64)))) (m := 1))

abbrev blocks_split_R : Type := (List Int)

noncomputable def blocks_split_body : Code := (Go.Proofs.Try.f46.body).getD .skip

noncomputable def blocks_split_L : List (List Nat × List Nat) := [([0], [0, 1]), ([0, 1], [0, 5, 1]), ([0, 0, 1, 1], [15, 14, 13, 5, 1]), ([0, 1, 0, 1, 1], [15, 14, 13, 5, 1]), ([0, 0, 0, 1, 0, 1, 1], [16, 15, 13, 5, 14, 1]), ([0, 1, 0, 0, 1, 0, 1, 1], [15, 13, 5, 14, 1]), ([1, 0, 1, 0, 0, 1, 0, 1, 1], [1, 5]), ([0, 0, 0, 1, 1, 0, 0, 1, 0, 1, 1], [5, 6, 7, 15, 14, 13, 1]), ([1, 0, 0, 1, 1, 0, 0, 1, 0, 1, 1], [15, 14, 13, 5, 1]), ([0, 1, 1, 0, 0, 1, 0, 1, 1], [15, 14, 13, 5, 1]), ([1, 1, 1, 0, 0, 1, 0, 1, 1], [15, 14, 13, 5, 1]), ([1, 0, 1, 1], [1, 5]), ([0, 0, 1, 1, 1], [29, 28, 27, 5]), ([0, 1, 0, 1, 1, 1], [29, 28, 27, 5]), ([0, 0, 0, 1, 0, 1, 1, 1], [30, 29, 27, 5, 28]), ([0, 1, 0, 0, 1, 0, 1, 1, 1], [29, 27, 5, 28]), ([1, 0, 1, 0, 0, 1, 0, 1, 1, 1], [5]), ([0, 0, 0, 1, 1, 0, 0, 1, 0, 1, 1, 1], [9, 5, 8, 29, 28, 27]), ([0, 1, 0, 0, 1, 1, 0, 0, 1, 0, 1, 1, 1], [38, 37, 36, 5, 8, 29, 28, 27]), ([0, 1, 1, 0, 0, 1, 1, 0, 0, 1, 0, 1, 1, 1], [38, 37, 36, 5, 8, 29, 28, 27]), ([0, 0, 0, 1, 1, 0, 0, 1, 1, 0, 0, 1, 0, 1, 1, 1], [39, 36, 38, 5, 8, 37, 29, 28, 27]), ([0, 1, 0, 0, 1, 1, 0, 0, 1, 1, 0, 0, 1, 0, 1, 1, 1], [36, 38, 5, 8, 37, 29, 28, 27]), ([1, 0, 1, 0, 0, 1, 1, 0, 0, 1, 1, 0, 0, 1, 0, 1, 1, 1], [29, 28, 27, 5]), ([0, 0, 0, 1, 1, 0, 0, 1, 1, 0, 0, 1, 1, 0, 0, 1, 0, 1, 1, 1], [5, 11, 8, 38, 37, 36, 29, 28, 27]), ([1, 0, 0, 1, 1, 0, 0, 1, 1, 0, 0, 1, 1, 0, 0, 1, 0, 1, 1, 1], [38, 37, 36, 5, 8, 29, 28, 27]), ([0, 1, 1, 0, 0, 1, 1, 0, 0, 1, 1, 0, 0, 1, 0, 1, 1, 1], [38, 37, 36, 5, 8, 29, 28, 27]), ([1, 1, 1, 0, 0, 1, 1, 0, 0, 1, 1, 0, 0, 1, 0, 1, 1, 1], [38, 37, 36, 5, 8, 29, 28, 27]), ([1, 1, 0, 0, 1, 1, 0, 0, 1, 0, 1, 1, 1], [29, 28, 27, 5]), ([0, 1, 1, 0, 0, 1, 0, 1, 1, 1], [29, 28, 27, 5]), ([1, 1, 1, 0, 0, 1, 0, 1, 1, 1], [29, 28, 27, 5]), ([1, 0, 1, 1, 1], [5]), ([0, 1, 1, 1, 1], [4]), ([1, 1, 1, 1, 1], [4])]

noncomputable def blocks_split_E (N : Nat) : Env := mkEnv tys noGlob [(67, blocks_numberT_res N), (66, charset_Text_res N)] [(5, (.arr 5 (.int .u64))), (4, (.int .i64))] [] [] false [] [(65, slices_Chunk1_itr N)]

theorem blocks_split_Eok (N : Nat) : EnvOk Go.Proofs.Try.prog (blocks_split_E N) := mkEnv_ok mixed tys_ok (FnsOk.cons (blocks_numberT_ct N) (FnsOk.cons (charset_Text_ct N) (FnsOk.nil))) (ItsOk.cons (slices_Chunk1_it N) (ItsOk.nil))

noncomputable def blocks_split_s1 (N : Nat) (sets : (List (List Int))) (x13 : (List Int)) (x14 : Int) (traits : (List (List Int))) (x15 : Int) (rec : (List (List Int)) → Int → Option (List Int)) (k0 : (List (List Int)) → Option (List Int)) : Option (List Int) :=
  cond (decide (x15 < x14))
  (cond (Go.Lift.inR x15 (List.length x13))
    (cond (Go.Lift.inR x15 (List.length traits))
      (cond (Go.Lift.and' (decide ((Int.toNat x15) < (List.length traits))) (decide (0 < (List.length (List.getD traits (Int.toNat x15) ([] : List Int))))))
        (rec (List.set traits (Int.toNat x15) (List.set (List.getD traits (Int.toNat x15) ([] : List Int)) 0 (Go.IntKind.wrap Go.IntKind.u64 (List.getD x13 (Int.toNat x15) (0 : Int))))) (Go.IntKind.wrap Go.IntKind.i64 (x15 + (1 : Int))))
        (none))
      (none))
    (none))
  (k0 traits)

noncomputable def blocks_split_p1 (N : Nat) (sets : (List (List Int))) (traits : (List (List Int))) (x13 : (List Int)) (x14 : Int) (x15 : Int) (k0 : (List (List Int)) → Option (List Int)) : Option (List Int) :=
  iter (fun (v : ((List (List Int)) × Int)) r => blocks_split_s1 N sets x13 x14 v.1 v.2 (fun traits x15 => (r (traits, x15))) k0) N (traits, x15)

noncomputable def blocks_split_g1 (N : Nat) (i : ((List (List Int)) × (List Int) × Int)) (v : ((List (List Int)) × Int)) (r : ((List (List Int)) × Int) → Option (List Int)) (K : Ex → List A → Option (List Int)) : Option (List Int) :=
  blocks_split_s1 N i.1 i.2.1 i.2.2 v.1 v.2 (fun traits x15 => (r (traits, x15))) (fun a1 => (K (.exit 0) (mkS [(1, .v (.sl (.arr 4 (.int .u64)))), (3, .row (.arr 5 (.int .u64)))] 54 (i.1, a1, ()))))

noncomputable def blocks_split_h1 (N : Nat) : Hd (List Int) := fun st K => (unS [(1, .v (.sl (.arr 4 (.int .u64)))), (3, .row (.arr 5 (.int .u64))), (7, .v (.sl (.int .i64))), (0, .v (.int .i64)), (0, .v (.int .i64))] 44 (restr [15, 14, 13, 5, 1] 0 st)).bind fun x => iter (fun v r => blocks_split_g1 N ((fun x => (x.1, x.2.2.1, x.2.2.2.1)) x) v r K) N ((fun x => (x.2.1, x.2.2.2.2.1)) x)

noncomputable def blocks_split_t1 (N : Nat) : Tab (List Int) := []

theorem blocks_split_ok1 {N : Nat} {c : Ctx} (hb : Base Go.Proofs.Try.prog (blocks_split_E N) c) : CodeOk Go.Proofs.Try.prog c (nodeAt blocks_split_body [0, 1, 0, 1, 1]) (blocks_split_h1 N) :=
  loop_ok (s := [(1, .v (.sl (.arr 4 (.int .u64)))), (3, .row (.arr 5 (.int .u64))), (7, .v (.sl (.int .i64))), (0, .v (.int .i64)), (0, .v (.int .i64))]) (m := 44) (blocks_split_g1 N) [15, 14, 13, 5, 1] N (fun x => (x.1, x.2.2.1, x.2.2.2.1)) (fun x => (x.2.1, x.2.2.2.2.1)) (fun i v => (i.1, v.1, i.2.1, i.2.2, v.2, ())) (fun _ => rfl) (evN_sound hb N (blocks_split_t1 N) blocks_split_L blocks_split_body TabOk.nil [0, 0, 1, 0, 1, 1] _ rfl) (fun i v r K => by kernel_rfl)

noncomputable def blocks_split_s3 (N : Nat) (i : Int) (x27 : (List (List Int))) (x28 : Int) (x29 : Int) (x36 : (List Int)) (x37 : Int) (traits : (List (List Int))) (x38 : Int) (rec : (List (List Int)) → Int → Option (List Int)) (k0 : (List (List Int)) → Option (List Int)) : Option (List Int) :=
  cond (decide (x38 < x37))
  (cond (Go.Lift.inR x38 (List.length x36))
    (cond (decide ((Int.toNat x38) < (List.length x36)))
      (cond (Go.Lift.inR (List.getD x36 (Int.toNat x38) (0 : Int)) (List.length traits))
        (cond (Go.Lift.inR (Go.IntKind.wrap Go.IntKind.i64 ((1 : Int) + (Go.IntKind.wrap Go.IntKind.i64 (Int.tdiv i (64 : Int))))) 5)
          (cond (Go.Lift.and' (decide ((Int.toNat (List.getD x36 (Int.toNat x38) (0 : Int))) < (List.length traits))) (decide ((Int.toNat (Go.IntKind.wrap Go.IntKind.i64 ((1 : Int) + (Go.IntKind.wrap Go.IntKind.i64 (Int.tdiv i (64 : Int)))))) < (List.length (List.getD traits (Int.toNat (List.getD x36 (Int.toNat x38) (0 : Int))) ([] : List Int))))))
            (cond (decide ((0 : Int) ≤ (Int.tmod i (64 : Int))))
              (cond (Go.Lift.inR (List.getD x36 (Int.toNat x38) (0 : Int)) (List.length traits))
                (cond (Go.Lift.inR (Go.IntKind.wrap Go.IntKind.i64 ((1 : Int) + (Go.IntKind.wrap Go.IntKind.i64 (Int.tdiv i (64 : Int))))) 5)
                  (cond (Go.Lift.and' (decide ((Int.toNat (List.getD x36 (Int.toNat x38) (0 : Int))) < (List.length traits))) (decide ((Int.toNat (Go.IntKind.wrap Go.IntKind.i64 ((1 : Int) + (Go.IntKind.wrap Go.IntKind.i64 (Int.tdiv i (64 : Int)))))) < (List.length (List.getD traits (Int.toNat (List.getD x36 (Int.toNat x38) (0 : Int))) ([] : List Int))))))
                    (rec (List.set traits (Int.toNat (List.getD x36 (Int.toNat x38) (0 : Int))) (List.set (List.getD traits (Int.toNat (List.getD x36 (Int.toNat x38) (0 : Int))) ([] : List Int)) (Int.toNat (Go.IntKind.wrap Go.IntKind.i64 ((1 : Int) + (Go.IntKind.wrap Go.IntKind.i64 (Int.tdiv i (64 : Int)))))) (Go.Lift.bitsOp Go.BinOp.or Go.IntKind.u64 (List.getD (List.getD traits (Int.toNat (List.getD x36 (Int.toNat x38) (0 : Int))) ([] : List Int)) (Int.toNat (Go.IntKind.wrap Go.IntKind.i64 ((1 : Int) + (Go.IntKind.wrap Go.IntKind.i64 (Int.tdiv i (64 : Int)))))) (0 : Int)) (Go.Lift.shlI Go.IntKind.u64 (1 : Int) (Int.tmod i (64 : Int)))))) (Go.IntKind.wrap Go.IntKind.i64 (x38 + (1 : Int))))
                    (none))
                  (none))
                (none))
              (none))
            (none))
          (none))
        (none))
      (none))
    (none))
  (k0 traits)

noncomputable def blocks_split_p3 (N : Nat) (traits : (List (List Int))) (i : Int) (x27 : (List (List Int))) (x28 : Int) (x29 : Int) (x36 : (List Int)) (x37 : Int) (x38 : Int) (k0 : (List (List Int)) → Option (List Int)) : Option (List Int) :=
  iter (fun (v : ((List (List Int)) × Int)) r => blocks_split_s3 N i x27 x28 x29 x36 x37 v.1 v.2 (fun traits x38 => (r (traits, x38))) k0) N (traits, x38)

noncomputable def blocks_split_g3 (N : Nat) (i : (Int × (List (List Int)) × Int × Int × (List Int) × Int)) (v : ((List (List Int)) × Int)) (r : ((List (List Int)) × Int) → Option (List Int)) (K : Ex → List A → Option (List Int)) : Option (List Int) :=
  blocks_split_s3 N i.1 i.2.1 i.2.2.1 i.2.2.2.1 i.2.2.2.2.1 i.2.2.2.2.2 v.1 v.2 (fun traits x38 => (r (traits, x38))) (fun a0 => (K (.exit 4) (mkS [(5, .row (.arr 5 (.int .u64))), (21, .v (.sl (.arr 4 (.int .u64)))), (0, .v (.int .i64)), (0, .v (.int .i64))] 30 (a0, i.2.1, i.2.2.1, i.2.2.2.1, ()))))

noncomputable def blocks_split_h3 (N : Nat) : Hd (List Int) := fun st K => (unS [(5, .row (.arr 5 (.int .u64))), (2, .v (.int .i64)), (18, .v (.sl (.arr 4 (.int .u64)))), (0, .v (.int .i64)), (0, .v (.int .i64)), (6, .row (.int .u8)), (0, .v (.int .i64)), (0, .v (.int .i64))] 21 (restr [38, 37, 36, 5, 8, 29, 28, 27] 0 st)).bind fun x => iter (fun v r => blocks_split_g3 N ((fun x => (x.2.1, x.2.2.1, x.2.2.2.1, x.2.2.2.2.1, x.2.2.2.2.2.1, x.2.2.2.2.2.2.1)) x) v r K) N ((fun x => (x.1, x.2.2.2.2.2.2.2.1)) x)

noncomputable def blocks_split_t3 (N : Nat) : Tab (List Int) := []

theorem blocks_split_ok3 {N : Nat} {c : Ctx} (hb : Base Go.Proofs.Try.prog (blocks_split_E N) c) : CodeOk Go.Proofs.Try.prog c (nodeAt blocks_split_body [0, 1, 1, 0, 0, 1, 1, 0, 0, 1, 0, 1, 1, 1]) (blocks_split_h3 N) :=
  loop_ok (s := [(5, .row (.arr 5 (.int .u64))), (2, .v (.int .i64)), (18, .v (.sl (.arr 4 (.int .u64)))), (0, .v (.int .i64)), (0, .v (.int .i64)), (6, .row (.int .u8)), (0, .v (.int .i64)), (0, .v (.int .i64))]) (m := 21) (blocks_split_g3 N) [38, 37, 36, 5, 8, 29, 28, 27] N (fun x => (x.2.1, x.2.2.1, x.2.2.2.1, x.2.2.2.2.1, x.2.2.2.2.2.1, x.2.2.2.2.2.2.1)) (fun x => (x.1, x.2.2.2.2.2.2.2.1)) (fun i v => (v.1, i.1, i.2.1, i.2.2.1, i.2.2.2.1, i.2.2.2.2.1, i.2.2.2.2.2, v.2, ())) (fun _ => rfl) (evN_sound hb N (blocks_split_t3 N) blocks_split_L blocks_split_body TabOk.nil [0, 0, 1, 1, 0, 0, 1, 1, 0, 0, 1, 0, 1, 1, 1] _ rfl) (fun i v r K => by kernel_rfl)

noncomputable def blocks_split_s2 (N : Nat) (x27 : (List (List Int))) (x28 : Int) (traits : (List (List Int))) (x29 : Int) (rec : (List (List Int)) → Int → Option (List Int)) (k0 : (List (List Int)) → Option (List Int)) : Option (List Int) :=
  cond (decide (x29 < x28))
  (cond (Go.Lift.inR x29 (List.length x27))
    ((charset_Text N (List.getD x27 (Int.toNat x29) ([] : List Int))).bind fun y =>
      blocks_split_p3 N traits x29 x27 x28 x29 (Go.Lift.ofStr y) (((List.length (Go.Lift.ofStr y)) : Nat) : Int) (0 : Int)
      (fun traits1 => rec traits1 (Go.IntKind.wrap Go.IntKind.i64 (x29 + (1 : Int)))))
    (none))
  (k0 traits)

noncomputable def blocks_split_p2 (N : Nat) (traits : (List (List Int))) (x27 : (List (List Int))) (x28 : Int) (x29 : Int) (k0 : (List (List Int)) → Option (List Int)) : Option (List Int) :=
  iter (fun (v : ((List (List Int)) × Int)) r => blocks_split_s2 N x27 x28 v.1 v.2 (fun traits x29 => (r (traits, x29))) k0) N (traits, x29)

noncomputable def blocks_split_g2 (N : Nat) (i : ((List (List Int)) × Int)) (v : ((List (List Int)) × Int)) (r : ((List (List Int)) × Int) → Option (List Int)) (K : Ex → List A → Option (List Int)) : Option (List Int) :=
  blocks_split_s2 N i.1 i.2 v.1 v.2 (fun traits x29 => (r (traits, x29))) (fun a0 => (K (.exit 2) (mkS [(5, .row (.arr 5 (.int .u64)))] 54 (a0, ()))))

noncomputable def blocks_split_h2 (N : Nat) : Hd (List Int) := fun st K => (unS [(5, .row (.arr 5 (.int .u64))), (21, .v (.sl (.arr 4 (.int .u64)))), (0, .v (.int .i64)), (0, .v (.int .i64))] 30 (restr [29, 28, 27, 5] 0 st)).bind fun x => iter (fun v r => blocks_split_g2 N ((fun x => (x.2.1, x.2.2.1)) x) v r K) N ((fun x => (x.1, x.2.2.2.1)) x)

noncomputable def blocks_split_t2 (N : Nat) : Tab (List Int) := [([0, 1, 1, 0, 0, 1, 1, 0, 0, 1, 0, 1, 1, 1], blocks_split_h3 N)]

theorem blocks_split_ok2 {N : Nat} {c : Ctx} (hb : Base Go.Proofs.Try.prog (blocks_split_E N) c) : CodeOk Go.Proofs.Try.prog c (nodeAt blocks_split_body [0, 1, 0, 1, 1, 1]) (blocks_split_h2 N) :=
  loop_ok (s := [(5, .row (.arr 5 (.int .u64))), (21, .v (.sl (.arr 4 (.int .u64)))), (0, .v (.int .i64)), (0, .v (.int .i64))]) (m := 30) (blocks_split_g2 N) [29, 28, 27, 5] N (fun x => (x.2.1, x.2.2.1)) (fun x => (x.1, x.2.2.2.1)) (fun i v => (v.1, i.1, i.2, v.2, ())) (fun _ => rfl) (evN_sound hb N (blocks_split_t2 N) blocks_split_L blocks_split_body (TabOk.cons (blocks_split_ok3 hb) TabOk.nil) [0, 0, 1, 0, 1, 1, 1] _ rfl) (fun i v r K => by kernel_rfl)

noncomputable def blocks_split (N : Nat) (b : (List Int)) (sets : (List (List Int))) : Option (List Int) :=
  blocks_split_p1 N sets (List.replicate 256 ([(0 : Int), (0 : Int), (0 : Int), (0 : Int), (0 : Int)] : List Int)) b (((List.length b) : Nat) : Int) (0 : Int)
  (fun traits => blocks_split_p2 N traits sets (((List.length sets) : Nat) : Int) (0 : Int)
    (fun traits1 => (blocks_numberT N traits1).bind fun y =>
      some y))

noncomputable def blocks_split_t (N : Nat) : Tab (List Int) := [([0, 1, 0, 1, 1], blocks_split_h1 N), ([0, 1, 0, 1, 1, 1], blocks_split_h2 N)]

theorem blocks_split_link (N : Nat) (x : denS [(0, .v (.sl (.int .i64))), (0, .v (.sl (.arr 4 (.int .u64))))]) : evFX (blocks_split_E N) N (blocks_split_t N) blocks_split_L Go.Proofs.Try.f46 (mkS [(0, .v (.sl (.int .i64))), (0, .v (.sl (.arr 4 (.int .u64))))] 0 x) (kRes (.v (.sl (.int .i64))) 2) = blocks_split N x.1 x.2.1 := by kernel_rfl

noncomputable def blocks_split_res (N : Nat) : List A → Res := resOf [(0, .v (.sl (.int .i64))), (0, .v (.sl (.arr 4 (.int .u64))))] (fun x => blocks_split N x.1 x.2.1) (oRes (.v (.sl (.int .i64))) 2)

theorem blocks_split_ct (N : Nat) : Contract Go.Proofs.Try.prog noGlob 46 (blocks_split_res N) :=
  Contract.of (E := blocks_split_E N) (H := blocks_split_t N) (L := blocks_split_L) (N := N) (body := blocks_split_body) (K := (kRes (.v (.sl (.int .i64))) 2)) (blocks_split_Eok N) Go.Proofs.Try.func46 (by kernel_rfl) (by decide) (fun _ hb => (TabOk.cons (blocks_split_ok1 hb) (TabOk.cons (blocks_split_ok2 hb) TabOk.nil))) (fun x y h => by rw [blocks_split_link]; exact h) (kRes_ok (s := (.v (.sl (.int .i64)))) (m := 2))

abbrev blocks_Of_R : Type := (List Int)

noncomputable def blocks_Of_body : Code := (Go.Proofs.Try.f12.body).getD .skip

noncomputable def blocks_Of_L : List (List Nat × List Nat) := [([0], [0]), ([0, 1], [0, 3]), ([0, 0, 1, 1], [7, 3]), ([0, 1, 0, 1, 1], [3]), ([0, 0, 1, 0, 1, 1], [3, 4]), ([0, 1, 0, 1, 0, 1, 1], [3]), ([1, 0, 1, 0, 1, 1], [3]), ([1, 0, 1, 1], [3]), ([0, 1, 1, 1], [2]), ([1, 1, 1, 1], [2])]

noncomputable def blocks_Of_E (N : Nat) : Env := mkEnv tys noGlob [(46, blocks_split_res N), (45, slices_Chunk_res N)] [(4, (.arr 4 (.int .u64))), (2, (.int .i64))] [] [] false [] [(65, slices_Chunk1_itr N)]

theorem blocks_Of_Eok (N : Nat) : EnvOk Go.Proofs.Try.prog (blocks_Of_E N) := mkEnv_ok mixed tys_ok (FnsOk.cons (blocks_split_ct N) (FnsOk.cons (slices_Chunk_ct N) (FnsOk.nil))) (ItsOk.cons (slices_Chunk1_it N) (ItsOk.nil))

noncomputable def blocks_Of_s1 (N : Nat) (b_1 : (List Int)) (y : ((List (List Int)) × Unit)) (rec : (List Int) → Option (List Int)) (k0 : (List Int) → Option (List Int)) : Option (List Int) :=
  (blocks_split N b_1 y.1).bind fun y1 =>
  rec y1

noncomputable def blocks_Of_fit1 (N : Nat) (b : (List Int)) (x7 : ((List (List Int)) × (Int × Unit))) : Option (List ((List (List Int)) × Unit)) := (slices_Chunk1 N x7.1 x7.2.1)

noncomputable def blocks_Of_i1 (N : Nat) (b : (List Int)) (x7 : ((List (List Int)) × (Int × Unit))) : Unit := ()

noncomputable def blocks_Of_v1 (N : Nat) (b : (List Int)) (x7 : ((List (List Int)) × (Int × Unit))) : (List Int) := b

noncomputable def blocks_Of_p1 (N : Nat) (b : (List Int)) (x7 : ((List (List Int)) × (Int × Unit))) (k0 : (List Int) → Option (List Int)) : Option (List Int) :=
  (blocks_Of_fit1 N b x7).bind fun ys => iterL (fun (y : ((List (List Int)) × Unit)) (v : (List Int)) r => blocks_Of_s1 N v y (fun b_1 => (r b_1)) k0) (fun (v : (List Int)) => k0 v) ys b

noncomputable def blocks_Of_g1 (N : Nat) (y : ((List (List Int)) × Unit)) (i : Unit) (v : (List Int)) (r : (List Int) → Option (List Int)) (K : Ex → List A → Option (List Int)) : Option (List Int) :=
  blocks_Of_s1 N v y (fun b_1 => (r b_1)) (fun a0 => (K .normal (mkS [(3, .box (.sl (.int .i64)))] 9 (a0, ()))))

noncomputable def blocks_Of_h1 (N : Nat) : Hd (List Int) := fun st K => (unS [(3, .box (.sl (.int .i64))), (3, .v (.fn 65 (.pair (.ptr (.sl (.arr 4 (.int .u64)))) (.pair (.ptr (.int .i64)) .unit))))] 5 (restr [7, 3] 0 st)).bind fun x => ((fun x => blocks_Of_fit1 N x.1 x.2.1) x).bind fun xs => iterL (fun y v r => blocks_Of_g1 N y ((fun x => blocks_Of_i1 N x.1 x.2.1) x) v r K) (fun v => K .normal (mkS [(3, .box (.sl (.int .i64)))] 9 ((fun i v => (v, ())) ((fun x => blocks_Of_i1 N x.1 x.2.1) x) v))) xs ((fun x => blocks_Of_v1 N x.1 x.2.1) x)

noncomputable def blocks_Of_t1 (N : Nat) : Tab (List Int) := []

theorem blocks_Of_ok1 {N : Nat} {c : Ctx} (hb : Base Go.Proofs.Try.prog (blocks_Of_E N) c) : CodeOk Go.Proofs.Try.prog c (nodeAt blocks_Of_body [0, 1, 0, 1, 1]) (blocks_Of_h1 N) :=
  rf_ok (ts := [(.sl (.arr 4 (.int .u64)))]) (s := [(3, .box (.sl (.int .i64))), (3, .v (.fn 65 (.pair (.ptr (.sl (.arr 4 (.int .u64)))) (.pair (.ptr (.int .i64)) .unit))))]) (m := 5) (s2 := [(3, .box (.sl (.int .i64)))]) (m2 := 9) [7, 3] (fun x => blocks_Of_fit1 N x.1 x.2.1) (fun x => blocks_Of_i1 N x.1 x.2.1) (fun x => blocks_Of_v1 N x.1 x.2.1) (fun i v => (v, ())) (rfF (blocks_Of_E N) N [(.sl (.arr 4 (.int .u64)))] (nodeAt blocks_Of_body [0, 1, 0, 1, 1])) (blocks_Of_g1 N) (evN_sound hb N [] blocks_Of_L blocks_Of_body TabOk.nil [0, 1, 0, 1, 1] _ rfl) (fun x K => by kernel_rfl) (fun y i v r K => by kernel_rfl)

noncomputable def blocks_Of (N : Nat) (sets : (List (List Int))) : Option (List Int) :=
  blocks_Of_p1 N (List.replicate 256 (0 : Int)) (sets, ((256 : Int), ()))
  (fun b_1 => some b_1)

noncomputable def blocks_Of_t (N : Nat) : Tab (List Int) := [([0, 1, 0, 1, 1], blocks_Of_h1 N)]

theorem blocks_Of_link (N : Nat) (x : denS [(0, .v (.sl (.arr 4 (.int .u64))))]) : evFX (blocks_Of_E N) N (blocks_Of_t N) blocks_Of_L Go.Proofs.Try.f12 (mkS [(0, .v (.sl (.arr 4 (.int .u64))))] 0 x) (kRes (.v (.sl (.int .i64))) 1) = blocks_Of N x.1 := by kernel_rfl

noncomputable def blocks_Of_res (N : Nat) : List A → Res := resOf [(0, .v (.sl (.arr 4 (.int .u64))))] (fun x => blocks_Of N x.1) (oRes (.v (.sl (.int .i64))) 1)

theorem blocks_Of_ct (N : Nat) : Contract Go.Proofs.Try.prog noGlob 12 (blocks_Of_res N) :=
  Contract.of (E := blocks_Of_E N) (H := blocks_Of_t N) (L := blocks_Of_L) (N := N) (body := blocks_Of_body) (K := (kRes (.v (.sl (.int .i64))) 1)) (blocks_Of_Eok N) Go.Proofs.Try.func12 (by kernel_rfl) (by decide) (fun _ hb => (TabOk.cons (blocks_Of_ok1 hb) TabOk.nil)) (fun x y h => by rw [blocks_Of_link]; exact h) (kRes_ok (s := (.v (.sl (.int .i64)))) (m := 1))

abbrev blocks_Right_R : Type := Bool

noncomputable def blocks_Right_body : Code := (Go.Proofs.Try.f15.body).getD .skip

noncomputable def blocks_Right_L : List (List Nat × List Nat) := [([0], [0]), ([0, 0, 1], [14, 0]), ([1, 0, 1], [0]), ([0, 0, 1, 0, 1], [2]), ([1, 0, 1, 0, 1], [2]), ([0, 1, 1], [0, 3]), ([0, 0, 1, 1, 1], [17, 16, 15, 3]), ([0, 1, 0, 1, 1, 1], [17, 16, 15, 3]), ([0, 0, 0, 1, 0, 1, 1, 1], [18, 15, 17, 3, 16]), ([0, 1, 0, 0, 1, 0, 1, 1, 1], [15, 17, 3, 16]), ([1, 0, 1, 0, 0, 1, 0, 1, 1, 1], []), ([0, 0, 0, 1, 1, 0, 0, 1, 0, 1, 1, 1], [5, 3, 17, 16, 15]), ([0, 0, 1, 0, 0, 1, 1, 0, 0, 1, 0, 1, 1, 1], [28, 3, 5, 17, 16, 15]), ([1, 0, 1, 0, 0, 1, 1, 0, 0, 1, 0, 1, 1, 1], [3, 5, 17, 16, 15]), ([0, 0, 1, 0, 1, 0, 0, 1, 1, 0, 0, 1, 0, 1, 1, 1], [2]), ([1, 0, 1, 0, 1, 0, 0, 1, 1, 0, 0, 1, 0, 1, 1, 1], [2]), ([1, 1, 0, 0, 1, 1, 0, 0, 1, 0, 1, 1, 1], [17, 16, 15, 3]), ([0, 1, 1, 0, 0, 1, 0, 1, 1, 1], [17, 16, 15, 3]), ([1, 1, 1, 0, 0, 1, 0, 1, 1, 1], [17, 16, 15, 3]), ([1, 0, 1, 1, 1], []), ([0, 1, 1, 1, 1], [2]), ([1, 1, 1, 1, 1], [2])]

noncomputable def blocks_Right_E (N : Nat) : Env := mkEnv tys noGlob [] [] [] [] false [] [(65, slices_Chunk1_itr N)]

theorem blocks_Right_Eok (N : Nat) : EnvOk Go.Proofs.Try.prog (blocks_Right_E N) := mkEnv_ok mixed tys_ok (FnsOk.nil) (ItsOk.cons (slices_Chunk1_it N) (ItsOk.nil))

noncomputable def blocks_Right_p2 (N : Nat) (b : (List Int)) (k0 : Bool → Option Bool) : Option Bool :=
  cond ((((List.length b) : Nat) : Int) != (256 : Int))
  (k0 true)
  (cond (Go.Lift.inR (0 : Int) (List.length b))
    (k0 ((List.getD b 0 (0 : Int)) != (0 : Int)))
    (none))

noncomputable def blocks_Right_g2 (N : Nat) (x : denS [(0, .v (.sl (.int .i64)))]) (K : Ex → List A → Option Bool) : Option Bool :=
  blocks_Right_p2 N x.1 (fun a1 => (K .normal (mkS [(0, .v (.sl (.int .i64))), (13, .v .bool)] 18 (x.1, a1, ()))))

noncomputable def blocks_Right_h2 (N : Nat) : Hd Bool := fun st K => (unS [(0, .v (.sl (.int .i64)))] 32 (restr [0] 0 st)).bind fun x => blocks_Right_g2 N x K

noncomputable def blocks_Right_t2 (N : Nat) : Tab Bool := []

theorem blocks_Right_ok2 {N : Nat} {c : Ctx} (hb : Base Go.Proofs.Try.prog (blocks_Right_E N) c) : CodeOk Go.Proofs.Try.prog c (nodeAt blocks_Right_body [0, 0, 1]) (blocks_Right_h2 N) :=
  piece_ok (s := [(0, .v (.sl (.int .i64)))]) (m := 32) (g := blocks_Right_g2 N) [0] (evN_sound hb N (blocks_Right_t2 N) blocks_Right_L blocks_Right_body TabOk.nil [0, 0, 1] _ rfl) (fun x K => by kernel_rfl)

noncomputable def blocks_Right_p1 (N : Nat) (b : (List Int)) (k0 : Bool → Option Bool) (k1 : Option Bool) : Option Bool :=
  blocks_Right_p2 N b
  (fun x14 => cond x14
    (k0 false)
    (k1))

noncomputable def blocks_Right_g1 (N : Nat) (x : denS [(0, .v (.sl (.int .i64)))]) (K : Ex → List A → Option Bool) : Option Bool :=
  blocks_Right_p1 N x.1 (fun a0 => (K .ret (mkS [(2, .v .bool)] 30 (a0, ())))) (K .normal (mkS [(0, .v (.sl (.int .i64)))] 32 (x.1, ())))

noncomputable def blocks_Right_h1 (N : Nat) : Hd Bool := fun st K => (unS [(0, .v (.sl (.int .i64)))] 32 (restr [0] 0 st)).bind fun x => blocks_Right_g1 N x K

noncomputable def blocks_Right_t1 (N : Nat) : Tab Bool := [([0, 0, 1], blocks_Right_h2 N)]

theorem blocks_Right_ok1 {N : Nat} {c : Ctx} (hb : Base Go.Proofs.Try.prog (blocks_Right_E N) c) : CodeOk Go.Proofs.Try.prog c (nodeAt blocks_Right_body [0, 1]) (blocks_Right_h1 N) :=
  piece_ok (s := [(0, .v (.sl (.int .i64)))]) (m := 32) (g := blocks_Right_g1 N) [0] (evN_sound hb N (blocks_Right_t1 N) blocks_Right_L blocks_Right_body (TabOk.cons (blocks_Right_ok2 hb) TabOk.nil) [0, 1] _ rfl) (fun x K => by kernel_rfl)

noncomputable def blocks_Right_p5 (N : Nat) (most : Int) (class_ : Int) (x15 : (List Int)) (x16 : Int) (x17 : Int) (k0 : Bool → Option Bool) : Option Bool :=
  cond (decide (class_ < (0 : Int)))
  (k0 true)
  (k0 (decide ((Go.IntKind.wrap Go.IntKind.i64 (most + (1 : Int))) < class_)))

noncomputable def blocks_Right_g5 (N : Nat) (x : denS [(3, .v (.int .i64)), (1, .v (.int .i64)), (9, .v (.sl (.int .i64))), (0, .v (.int .i64)), (0, .v (.int .i64))]) (K : Ex → List A → Option Bool) : Option Bool :=
  blocks_Right_p5 N x.1 x.2.1 x.2.2.1 x.2.2.2.1 x.2.2.2.2.1 (fun a5 => (K .normal (mkS [(3, .v (.int .i64)), (1, .v (.int .i64)), (9, .v (.sl (.int .i64))), (0, .v (.int .i64)), (0, .v (.int .i64)), (10, .v .bool)] 4 (x.1, x.2.1, x.2.2.1, x.2.2.2.1, x.2.2.2.2.1, a5, ()))))

noncomputable def blocks_Right_h5 (N : Nat) : Hd Bool := fun st K => (unS [(3, .v (.int .i64)), (1, .v (.int .i64)), (9, .v (.sl (.int .i64))), (0, .v (.int .i64)), (0, .v (.int .i64))] 15 (restr [5, 3, 17, 16, 15] 0 st)).bind fun x => blocks_Right_g5 N x K

noncomputable def blocks_Right_t5 (N : Nat) : Tab Bool := []

theorem blocks_Right_ok5 {N : Nat} {c : Ctx} (hb : Base Go.Proofs.Try.prog (blocks_Right_E N) c) : CodeOk Go.Proofs.Try.prog c (nodeAt blocks_Right_body [0, 0, 1, 0, 0, 1, 1, 0, 0, 1, 0, 1, 1, 1]) (blocks_Right_h5 N) :=
  piece_ok (s := [(3, .v (.int .i64)), (1, .v (.int .i64)), (9, .v (.sl (.int .i64))), (0, .v (.int .i64)), (0, .v (.int .i64))]) (m := 15) (g := blocks_Right_g5 N) [5, 3, 17, 16, 15] (evN_sound hb N (blocks_Right_t5 N) blocks_Right_L blocks_Right_body TabOk.nil [0, 0, 1, 0, 0, 1, 1, 0, 0, 1, 0, 1, 1, 1] _ rfl) (fun x K => by kernel_rfl)

noncomputable def blocks_Right_p4 (N : Nat) (most : Int) (class_ : Int) (x15 : (List Int)) (x16 : Int) (x17 : Int) (k0 : Bool → Option Bool) (k1 : Option Bool) : Option Bool :=
  blocks_Right_p5 N most class_ x15 x16 x17
  (fun x28 => cond x28
    (k0 false)
    (k1))

noncomputable def blocks_Right_g4 (N : Nat) (x : denS [(3, .v (.int .i64)), (1, .v (.int .i64)), (9, .v (.sl (.int .i64))), (0, .v (.int .i64)), (0, .v (.int .i64))]) (K : Ex → List A → Option Bool) : Option Bool :=
  blocks_Right_p4 N x.1 x.2.1 x.2.2.1 x.2.2.2.1 x.2.2.2.2.1 (fun a0 => (K .ret (mkS [(2, .v .bool)] 30 (a0, ())))) (K .normal (mkS [(3, .v (.int .i64)), (1, .v (.int .i64)), (9, .v (.sl (.int .i64))), (0, .v (.int .i64)), (0, .v (.int .i64))] 15 (x.1, x.2.1, x.2.2.1, x.2.2.2.1, x.2.2.2.2.1, ())))

noncomputable def blocks_Right_h4 (N : Nat) : Hd Bool := fun st K => (unS [(3, .v (.int .i64)), (1, .v (.int .i64)), (9, .v (.sl (.int .i64))), (0, .v (.int .i64)), (0, .v (.int .i64))] 15 (restr [5, 3, 17, 16, 15] 0 st)).bind fun x => blocks_Right_g4 N x K

noncomputable def blocks_Right_t4 (N : Nat) : Tab Bool := [([0, 0, 1, 0, 0, 1, 1, 0, 0, 1, 0, 1, 1, 1], blocks_Right_h5 N)]

theorem blocks_Right_ok4 {N : Nat} {c : Ctx} (hb : Base Go.Proofs.Try.prog (blocks_Right_E N) c) : CodeOk Go.Proofs.Try.prog c (nodeAt blocks_Right_body [0, 1, 0, 0, 1, 1, 0, 0, 1, 0, 1, 1, 1]) (blocks_Right_h4 N) :=
  piece_ok (s := [(3, .v (.int .i64)), (1, .v (.int .i64)), (9, .v (.sl (.int .i64))), (0, .v (.int .i64)), (0, .v (.int .i64))]) (m := 15) (g := blocks_Right_g4 N) [5, 3, 17, 16, 15] (evN_sound hb N (blocks_Right_t4 N) blocks_Right_L blocks_Right_body (TabOk.cons (blocks_Right_ok5 hb) TabOk.nil) [0, 1, 0, 0, 1, 1, 0, 0, 1, 0, 1, 1, 1] _ rfl) (fun x K => by kernel_rfl)

noncomputable def blocks_Right_s3 (N : Nat) (x15 : (List Int)) (x16 : Int) (most : Int) (x17 : Int) (rec : Int → Int → Option Bool) (k0 : Bool → Option Bool) (k1 : Option Bool) : Option Bool :=
  cond (decide (x17 < x16))
  (cond (Go.Lift.inR x17 (List.length x15))
    (blocks_Right_p4 N most (List.getD x15 (Int.toNat x17) (0 : Int)) x15 x16 x17
      (fun x2 => k0 x2)
      (rec (if ((List.getD x15 (Int.toNat x17) (0 : Int)) > most) then (List.getD x15 (Int.toNat x17) (0 : Int)) else most) (Go.IntKind.wrap Go.IntKind.i64 (x17 + (1 : Int)))))
    (none))
  (k1)

noncomputable def blocks_Right_p3 (N : Nat) (most : Int) (x15 : (List Int)) (x16 : Int) (x17 : Int) (k0 : Bool → Option Bool) (k1 : Option Bool) : Option Bool :=
  iter (fun (v : (Int × Int)) r => blocks_Right_s3 N x15 x16 v.1 v.2 (fun most x17 => (r (most, x17))) k0 k1) N (most, x17)

noncomputable def blocks_Right_g3 (N : Nat) (i : ((List Int) × Int)) (v : (Int × Int)) (r : (Int × Int) → Option Bool) (K : Ex → List A → Option Bool) : Option Bool :=
  blocks_Right_s3 N i.1 i.2 v.1 v.2 (fun most x17 => (r (most, x17))) (fun a0 => (K .ret (mkS [(2, .v .bool)] 30 (a0, ())))) (K (.exit 0) (mkS [] 33 ()))

noncomputable def blocks_Right_h3 (N : Nat) : Hd Bool := fun st K => (unS [(3, .v (.int .i64)), (11, .v (.sl (.int .i64))), (0, .v (.int .i64)), (0, .v (.int .i64))] 15 (restr [17, 16, 15, 3] 0 st)).bind fun x => iter (fun v r => blocks_Right_g3 N ((fun x => (x.2.1, x.2.2.1)) x) v r K) N ((fun x => (x.1, x.2.2.2.1)) x)

noncomputable def blocks_Right_t3 (N : Nat) : Tab Bool := [([0, 1, 0, 0, 1, 1, 0, 0, 1, 0, 1, 1, 1], blocks_Right_h4 N)]

theorem blocks_Right_ok3 {N : Nat} {c : Ctx} (hb : Base Go.Proofs.Try.prog (blocks_Right_E N) c) : CodeOk Go.Proofs.Try.prog c (nodeAt blocks_Right_body [0, 1, 0, 1, 1, 1]) (blocks_Right_h3 N) :=
  loop_ok (s := [(3, .v (.int .i64)), (11, .v (.sl (.int .i64))), (0, .v (.int .i64)), (0, .v (.int .i64))]) (m := 15) (blocks_Right_g3 N) [17, 16, 15, 3] N (fun x => (x.2.1, x.2.2.1)) (fun x => (x.1, x.2.2.2.1)) (fun i v => (v.1, i.1, i.2, v.2, ())) (fun _ => rfl) (evN_sound hb N (blocks_Right_t3 N) blocks_Right_L blocks_Right_body (TabOk.cons (blocks_Right_ok4 hb) TabOk.nil) [0, 0, 1, 0, 1, 1, 1] _ rfl) (fun i v r K => by kernel_rfl)

noncomputable def blocks_Right (N : Nat) (b : (List Int)) : Option Bool :=
  blocks_Right_p1 N b
  (fun x2 => some x2)
  (blocks_Right_p3 N (0 : Int) b (((List.length b) : Nat) : Int) (0 : Int)
    (fun x21 => some x21)
    (some true))

noncomputable def blocks_Right_t (N : Nat) : Tab Bool := [([0, 1], blocks_Right_h1 N), ([0, 1, 0, 1, 1, 1], blocks_Right_h3 N)]

theorem blocks_Right_link (N : Nat) (x : denS [(0, .v (.sl (.int .i64)))]) : evFX (blocks_Right_E N) N (blocks_Right_t N) blocks_Right_L Go.Proofs.Try.f15 (mkS [(0, .v (.sl (.int .i64)))] 0 x) (kRes (.v .bool) 1) = blocks_Right N x.1 := by kernel_rfl

noncomputable def blocks_Right_res (N : Nat) : List A → Res := resOf [(0, .v (.sl (.int .i64)))] (fun x => blocks_Right N x.1) (oRes (.v .bool) 1)

theorem blocks_Right_ct (N : Nat) : Contract Go.Proofs.Try.prog noGlob 15 (blocks_Right_res N) :=
  Contract.of (E := blocks_Right_E N) (H := blocks_Right_t N) (L := blocks_Right_L) (N := N) (body := blocks_Right_body) (K := (kRes (.v .bool) 1)) (blocks_Right_Eok N) Go.Proofs.Try.func15 (by kernel_rfl) (by decide) (fun _ hb => (TabOk.cons (blocks_Right_ok1 hb) (TabOk.cons (blocks_Right_ok3 hb) TabOk.nil))) (fun x y h => by rw [blocks_Right_link]; exact h) (kRes_ok (s := (.v .bool)) (m := 1))

abbrev slices_Max__intint_R : Type := Int

noncomputable def slices_Max__intint_body : Code := (Go.Proofs.Try.f48.body).getD .skip

noncomputable def slices_Max__intint_L : List (List Nat × List Nat) := [([0], [0]), ([0, 0, 1], [7, 0]), ([1, 0, 1], [0]), ([0, 1, 0, 1], [0]), ([0, 1, 1], [0, 3]), ([0, 0, 1, 1, 1], [4, 0, 3]), ([0, 1, 0, 1, 1, 1], [4, 0, 3]), ([0, 0, 0, 0, 1, 0, 1, 1, 1], [15, 3, 0, 4]), ([1, 0, 0, 0, 1, 0, 1, 1, 1], [3, 0, 4]), ([1, 1, 0, 0, 0, 1, 0, 1, 1, 1], [3]), ([0, 0, 1, 0, 0, 1, 0, 1, 1, 1], [4, 0, 3]), ([0, 1, 0, 0, 1, 0, 1, 1, 1], [4, 0, 3]), ([1, 1, 0, 0, 1, 0, 1, 1, 1], [4, 0, 3]), ([1, 0, 1, 1, 1], [3]), ([0, 1, 1, 1, 1], [2]), ([1, 1, 1, 1, 1], [2])]

noncomputable def slices_Max__intint_E (N : Nat) : Env := mkEnv tys noGlob [] [] [] [] false [] [(65, slices_Chunk1_itr N)]

theorem slices_Max__intint_Eok (N : Nat) : EnvOk Go.Proofs.Try.prog (slices_Max__intint_E N) := mkEnv_ok mixed tys_ok (FnsOk.nil) (ItsOk.cons (slices_Chunk1_it N) (ItsOk.nil))

noncomputable def slices_Max__intint_p1 (N : Nat) (x0 : (List Int)) (k0 : Option Int) : Option Int :=
  cond (decide ((((List.length x0) : Nat) : Int) < (1 : Int)))
  (none)
  (k0)

noncomputable def slices_Max__intint_g1 (N : Nat) (x : denS [(0, .v (.sl (.int .i64)))]) (K : Ex → List A → Option Int) : Option Int :=
  slices_Max__intint_p1 N x.1 (K .normal (mkS [(0, .v (.sl (.int .i64)))] 24 (x.1, ())))

noncomputable def slices_Max__intint_h1 (N : Nat) : Hd Int := fun st K => (unS [(0, .v (.sl (.int .i64)))] 24 (restr [0] 0 st)).bind fun x => slices_Max__intint_g1 N x K

noncomputable def slices_Max__intint_t1 (N : Nat) : Tab Int := []

theorem slices_Max__intint_ok1 {N : Nat} {c : Ctx} (hb : Base Go.Proofs.Try.prog (slices_Max__intint_E N) c) : CodeOk Go.Proofs.Try.prog c (nodeAt slices_Max__intint_body [0, 1]) (slices_Max__intint_h1 N) :=
  piece_ok (s := [(0, .v (.sl (.int .i64)))]) (m := 24) (g := slices_Max__intint_g1 N) [0] (evN_sound hb N (slices_Max__intint_t1 N) slices_Max__intint_L slices_Max__intint_body TabOk.nil [0, 1] _ rfl) (fun x K => by kernel_rfl)

noncomputable def slices_Max__intint_s2 (N : Nat) (x0 : (List Int)) (m : Int) (i : Int) (rec : Int → Int → Option Int) (k0 : Int → Option Int) : Option Int :=
  cond (decide (i < (((List.length x0) : Nat) : Int)))
  (cond (Go.Lift.inR i (List.length x0))
    (rec (if ((List.getD x0 (Int.toNat i) (0 : Int)) > m) then (List.getD x0 (Int.toNat i) (0 : Int)) else m) (Go.IntKind.wrap Go.IntKind.i64 (i + (1 : Int))))
    (none))
  (k0 m)

noncomputable def slices_Max__intint_p2 (N : Nat) (x0 : (List Int)) (m : Int) (i : Int) (k0 : Int → Option Int) : Option Int :=
  iter (fun (v : (Int × Int)) r => slices_Max__intint_s2 N x0 v.1 v.2 (fun m i => (r (m, i))) k0) N (m, i)

noncomputable def slices_Max__intint_g2 (N : Nat) (i : (List Int)) (v : (Int × Int)) (r : (Int × Int) → Option Int) (K : Ex → List A → Option Int) : Option Int :=
  slices_Max__intint_s2 N i v.1 v.2 (fun m i => (r (m, i))) (fun a0 => (K (.exit 0) (mkS [(3, .v (.int .i64))] 21 (a0, ()))))

noncomputable def slices_Max__intint_h2 (N : Nat) : Hd Int := fun st K => (unS [(0, .v (.sl (.int .i64))), (2, .v (.int .i64)), (0, .v (.int .i64))] 20 (restr [4, 0, 3] 0 st)).bind fun x => iter (fun v r => slices_Max__intint_g2 N ((fun x => x.1) x) v r K) N ((fun x => (x.2.1, x.2.2.1)) x)

noncomputable def slices_Max__intint_t2 (N : Nat) : Tab Int := []

theorem slices_Max__intint_ok2 {N : Nat} {c : Ctx} (hb : Base Go.Proofs.Try.prog (slices_Max__intint_E N) c) : CodeOk Go.Proofs.Try.prog c (nodeAt slices_Max__intint_body [0, 1, 0, 1, 1, 1]) (slices_Max__intint_h2 N) :=
  loop_ok (s := [(0, .v (.sl (.int .i64))), (2, .v (.int .i64)), (0, .v (.int .i64))]) (m := 20) (slices_Max__intint_g2 N) [4, 0, 3] N (fun x => x.1) (fun x => (x.2.1, x.2.2.1)) (fun i v => (i, v.1, v.2, ())) (fun _ => rfl) (evN_sound hb N (slices_Max__intint_t2 N) slices_Max__intint_L slices_Max__intint_body TabOk.nil [0, 0, 1, 0, 1, 1, 1] _ rfl) (fun i v r K => by kernel_rfl)

noncomputable def slices_Max__intint (N : Nat) (x0 : (List Int)) : Option Int :=
  slices_Max__intint_p1 N x0
  (cond (Go.Lift.inR (0 : Int) (List.length x0))
    (slices_Max__intint_p2 N x0 (List.getD x0 0 (0 : Int)) (1 : Int)
      (fun m => some m))
    (none))

noncomputable def slices_Max__intint_t (N : Nat) : Tab Int := [([0, 1], slices_Max__intint_h1 N), ([0, 1, 0, 1, 1, 1], slices_Max__intint_h2 N)]

theorem slices_Max__intint_link (N : Nat) (x : denS [(0, .v (.sl (.int .i64)))]) : evFX (slices_Max__intint_E N) N (slices_Max__intint_t N) slices_Max__intint_L Go.Proofs.Try.f48 (mkS [(0, .v (.sl (.int .i64)))] 0 x) (kRes (.v (.int .i64)) 1) = slices_Max__intint N x.1 := by kernel_rfl

noncomputable def slices_Max__intint_res (N : Nat) : List A → Res := resOf [(0, .v (.sl (.int .i64)))] (fun x => slices_Max__intint N x.1) (oRes (.v (.int .i64)) 1)

theorem slices_Max__intint_ct (N : Nat) : Contract Go.Proofs.Try.prog noGlob 48 (slices_Max__intint_res N) :=
  Contract.of (E := slices_Max__intint_E N) (H := slices_Max__intint_t N) (L := slices_Max__intint_L) (N := N) (body := slices_Max__intint_body) (K := (kRes (.v (.int .i64)) 1)) (slices_Max__intint_Eok N) Go.Proofs.Try.func48 (by kernel_rfl) (by decide) (fun _ hb => (TabOk.cons (slices_Max__intint_ok1 hb) (TabOk.cons (slices_Max__intint_ok2 hb) TabOk.nil))) (fun x y h => by rw [slices_Max__intint_link]; exact h) (kRes_ok (s := (.v (.int .i64))) (m := 1))

abbrev blocks_Count_R : Type := Int

noncomputable def blocks_Count_body : Code := (Go.Proofs.Try.f17.body).getD .skip

noncomputable def blocks_Count_L : List (List Nat × List Nat) := [([0], [0]), ([0, 0, 1], [5, 0]), ([1, 0, 1], [0]), ([0, 0, 1, 0, 1], [2]), ([1, 0, 1, 0, 1], [2]), ([0, 1, 1], [2]), ([1, 1, 1], [2])]

noncomputable def blocks_Count_E (N : Nat) : Env := mkEnv tys noGlob [(48, slices_Max__intint_res N), (15, blocks_Right_res N)] [] [] [] false [] [(65, slices_Chunk1_itr N)]

theorem blocks_Count_Eok (N : Nat) : EnvOk Go.Proofs.Try.prog (blocks_Count_E N) := mkEnv_ok mixed tys_ok (FnsOk.cons (slices_Max__intint_ct N) (FnsOk.cons (blocks_Right_ct N) (FnsOk.nil))) (ItsOk.cons (slices_Chunk1_it N) (ItsOk.nil))

noncomputable def blocks_Count (N : Nat) (b : (List Int)) : Option Int :=
  (blocks_Right N b).bind fun y =>
  cond (!y)
  (some (0 : Int))
  ((slices_Max__intint N b).bind fun y1 =>
    some (Go.IntKind.wrap Go.IntKind.i64 (y1 + (1 : Int))))

noncomputable def blocks_Count_t (N : Nat) : Tab Int := []

theorem blocks_Count_link (N : Nat) (x : denS [(0, .v (.sl (.int .i64)))]) : evFX (blocks_Count_E N) N (blocks_Count_t N) blocks_Count_L Go.Proofs.Try.f17 (mkS [(0, .v (.sl (.int .i64)))] 0 x) (kRes (.v (.int .i64)) 1) = blocks_Count N x.1 := by kernel_rfl

noncomputable def blocks_Count_res (N : Nat) : List A → Res := resOf [(0, .v (.sl (.int .i64)))] (fun x => blocks_Count N x.1) (oRes (.v (.int .i64)) 1)

theorem blocks_Count_ct (N : Nat) : Contract Go.Proofs.Try.prog noGlob 17 (blocks_Count_res N) :=
  Contract.of (E := blocks_Count_E N) (H := blocks_Count_t N) (L := blocks_Count_L) (N := N) (body := blocks_Count_body) (K := (kRes (.v (.int .i64)) 1)) (blocks_Count_Eok N) Go.Proofs.Try.func17 (by kernel_rfl) (by decide) (fun _ hb => TabOk.nil) (fun x y h => by rw [blocks_Count_link]; exact h) (kRes_ok (s := (.v (.int .i64))) (m := 1))

abbrev slices_Index__intint_R : Type := Int

noncomputable def slices_Index__intint_body : Code := (Go.Proofs.Try.f49.body).getD .skip

noncomputable def slices_Index__intint_L : List (List Nat × List Nat) := [([0], [0, 1]), ([0, 0, 1], [8, 7, 1, 0]), ([0, 1, 0, 1], [8, 7, 1, 0]), ([0, 0, 0, 1, 0, 1], [9, 8, 1, 0, 7]), ([0, 1, 0, 0, 1, 0, 1], [8, 1, 0, 7]), ([1, 0, 1, 0, 0, 1, 0, 1], []), ([0, 0, 0, 1, 1, 0, 0, 1, 0, 1], [1, 0, 5, 8, 7]), ([0, 1, 0, 0, 1, 1, 0, 0, 1, 0, 1], [16, 5, 8, 7, 1, 0]), ([1, 1, 0, 0, 1, 1, 0, 0, 1, 0, 1], [8, 7, 1, 0]), ([0, 0, 1, 1, 0, 0, 1, 1, 0, 0, 1, 0, 1], [4]), ([1, 0, 1, 1, 0, 0, 1, 1, 0, 0, 1, 0, 1], [4]), ([0, 1, 1, 0, 0, 1, 0, 1], [8, 7, 1, 0]), ([1, 1, 1, 0, 0, 1, 0, 1], [8, 7, 1, 0]), ([1, 0, 1], []), ([0, 1, 1], [4]), ([1, 1, 1], [4])]

noncomputable def slices_Index__intint_E (N : Nat) : Env := mkEnv tys noGlob [] [] [] [] false [] [(65, slices_Chunk1_itr N)]

theorem slices_Index__intint_Eok (N : Nat) : EnvOk Go.Proofs.Try.prog (slices_Index__intint_E N) := mkEnv_ok mixed tys_ok (FnsOk.nil) (ItsOk.cons (slices_Chunk1_it N) (ItsOk.nil))

noncomputable def slices_Index__intint_s1 (N : Nat) (s : (List Int)) (v_ : Int) (x7 : Int) (x8 : Int) (rec : Int → Option Int) (k0 : Int → Option Int) (k1 : Option Int) : Option Int :=
  cond (decide (x8 < x7))
  (cond (Go.Lift.inR x8 (List.length s))
    (cond (v_ == (List.getD s (Int.toNat x8) (0 : Int)))
      (k0 x8)
      (rec (Go.IntKind.wrap Go.IntKind.i64 (x8 + (1 : Int)))))
    (none))
  (k1)

noncomputable def slices_Index__intint_p1 (N : Nat) (s : (List Int)) (v_ : Int) (x7 : Int) (x8 : Int) (k0 : Int → Option Int) (k1 : Option Int) : Option Int :=
  iter (fun (v : Int) r => slices_Index__intint_s1 N s v_ x7 v (fun x8 => (r x8)) k0 k1) N x8

noncomputable def slices_Index__intint_g1 (N : Nat) (i : ((List Int) × Int × Int)) (v : Int) (r : Int → Option Int) (K : Ex → List A → Option Int) : Option Int :=
  slices_Index__intint_s1 N i.1 i.2.1 i.2.2 v (fun x8 => (r x8)) (fun a0 => (K .ret (mkS [(4, .v (.int .i64))] 14 (a0, ())))) (K (.exit 0) (mkS [] 19 ()))

noncomputable def slices_Index__intint_h1 (N : Nat) : Hd Int := fun st K => (unS [(0, .v (.sl (.int .i64))), (0, .v (.int .i64)), (5, .v (.int .i64)), (0, .v (.int .i64))] 10 (restr [8, 7, 1, 0] 0 st)).bind fun x => iter (fun v r => slices_Index__intint_g1 N ((fun x => (x.1, x.2.1, x.2.2.1)) x) v r K) N ((fun x => x.2.2.2.1) x)

noncomputable def slices_Index__intint_t1 (N : Nat) : Tab Int := []

theorem slices_Index__intint_ok1 {N : Nat} {c : Ctx} (hb : Base Go.Proofs.Try.prog (slices_Index__intint_E N) c) : CodeOk Go.Proofs.Try.prog c (nodeAt slices_Index__intint_body [0, 1, 0, 1]) (slices_Index__intint_h1 N) :=
  loop_ok (s := [(0, .v (.sl (.int .i64))), (0, .v (.int .i64)), (5, .v (.int .i64)), (0, .v (.int .i64))]) (m := 10) (slices_Index__intint_g1 N) [8, 7, 1, 0] N (fun x => (x.1, x.2.1, x.2.2.1)) (fun x => x.2.2.2.1) (fun i v => (i.1, i.2.1, i.2.2, v, ())) (fun _ => rfl) (evN_sound hb N (slices_Index__intint_t1 N) slices_Index__intint_L slices_Index__intint_body TabOk.nil [0, 0, 1, 0, 1] _ rfl) (fun i v r K => by kernel_rfl)

noncomputable def slices_Index__intint (N : Nat) (s : (List Int)) (v_ : Int) : Option Int :=
  slices_Index__intint_p1 N s v_ (((List.length s) : Nat) : Int) (0 : Int)
  (fun x4 => some x4)
  (some (-(1 : Int)))

noncomputable def slices_Index__intint_t (N : Nat) : Tab Int := [([0, 1, 0, 1], slices_Index__intint_h1 N)]

theorem slices_Index__intint_link (N : Nat) (x : denS [(0, .v (.sl (.int .i64))), (0, .v (.int .i64))]) : evFX (slices_Index__intint_E N) N (slices_Index__intint_t N) slices_Index__intint_L Go.Proofs.Try.f49 (mkS [(0, .v (.sl (.int .i64))), (0, .v (.int .i64))] 0 x) (kRes (.v (.int .i64)) 2) = slices_Index__intint N x.1 x.2.1 := by kernel_rfl

noncomputable def slices_Index__intint_res (N : Nat) : List A → Res := resOf [(0, .v (.sl (.int .i64))), (0, .v (.int .i64))] (fun x => slices_Index__intint N x.1 x.2.1) (oRes (.v (.int .i64)) 2)

theorem slices_Index__intint_ct (N : Nat) : Contract Go.Proofs.Try.prog noGlob 49 (slices_Index__intint_res N) :=
  Contract.of (E := slices_Index__intint_E N) (H := slices_Index__intint_t N) (L := slices_Index__intint_L) (N := N) (body := slices_Index__intint_body) (K := (kRes (.v (.int .i64)) 2)) (slices_Index__intint_Eok N) Go.Proofs.Try.func49 (by kernel_rfl) (by decide) (fun _ hb => (TabOk.cons (slices_Index__intint_ok1 hb) TabOk.nil)) (fun x y h => by rw [slices_Index__intint_link]; exact h) (kRes_ok (s := (.v (.int .i64))) (m := 2))

abbrev blocks_First_R : Type := Int

noncomputable def blocks_First_body : Code := (Go.Proofs.Try.f19.body).getD .skip

noncomputable def blocks_First_L : List (List Nat × List Nat) := [([0], [0, 1]), ([0, 0, 1], [7, 0, 1]), ([1, 0, 1], [0, 1]), ([0, 0, 1, 0, 1], [4]), ([1, 0, 1, 0, 1], [4]), ([0, 1, 1], [4]), ([1, 1, 1], [4])]

noncomputable def blocks_First_E (N : Nat) : Env := mkEnv tys noGlob [(49, slices_Index__intint_res N), (15, blocks_Right_res N)] [] [] [] false [] [(65, slices_Chunk1_itr N)]

theorem blocks_First_Eok (N : Nat) : EnvOk Go.Proofs.Try.prog (blocks_First_E N) := mkEnv_ok mixed tys_ok (FnsOk.cons (slices_Index__intint_ct N) (FnsOk.cons (blocks_Right_ct N) (FnsOk.nil))) (ItsOk.cons (slices_Chunk1_it N) (ItsOk.nil))

noncomputable def blocks_First (N : Nat) (b : (List Int)) (k : Int) : Option Int :=
  (blocks_Right N b).bind fun y =>
  cond (!y)
  (some (-(1 : Int)))
  ((slices_Index__intint N b k).bind fun y1 =>
    some y1)

noncomputable def blocks_First_t (N : Nat) : Tab Int := []

theorem blocks_First_link (N : Nat) (x : denS [(0, .v (.sl (.int .i64))), (0, .v (.int .i64))]) : evFX (blocks_First_E N) N (blocks_First_t N) blocks_First_L Go.Proofs.Try.f19 (mkS [(0, .v (.sl (.int .i64))), (0, .v (.int .i64))] 0 x) (kRes (.v (.int .i64)) 2) = blocks_First N x.1 x.2.1 := by kernel_rfl

noncomputable def blocks_First_res (N : Nat) : List A → Res := resOf [(0, .v (.sl (.int .i64))), (0, .v (.int .i64))] (fun x => blocks_First N x.1 x.2.1) (oRes (.v (.int .i64)) 2)

theorem blocks_First_ct (N : Nat) : Contract Go.Proofs.Try.prog noGlob 19 (blocks_First_res N) :=
  Contract.of (E := blocks_First_E N) (H := blocks_First_t N) (L := blocks_First_L) (N := N) (body := blocks_First_body) (K := (kRes (.v (.int .i64)) 2)) (blocks_First_Eok N) Go.Proofs.Try.func19 (by kernel_rfl) (by decide) (fun _ hb => TabOk.nil) (fun x y h => by rw [blocks_First_link]; exact h) (kRes_ok (s := (.v (.int .i64))) (m := 2))

abbrev porterlaw17_works_R : Type := Bool

noncomputable def porterlaw17_works_body : Code := (Go.Proofs.Try.f11.body).getD .skip

noncomputable def porterlaw17_works_L : List (List Nat × List Nat) := [([0], []), ([0, 1], [1]), ([0, 1, 1], [0]), ([1, 1, 1], [0])]

noncomputable def porterlaw17_works_E (N : Nat) : Env := mkEnv tys noGlob [(19, blocks_First_res N), (17, blocks_Count_res N), (12, blocks_Of_res N)] [] [] [] false [] [(65, slices_Chunk1_itr N)]

theorem porterlaw17_works_Eok (N : Nat) : EnvOk Go.Proofs.Try.prog (porterlaw17_works_E N) := mkEnv_ok mixed tys_ok (FnsOk.cons (blocks_First_ct N) (FnsOk.cons (blocks_Count_ct N) (FnsOk.cons (blocks_Of_ct N) (FnsOk.nil)))) (ItsOk.cons (slices_Chunk1_it N) (ItsOk.nil))

noncomputable def porterlaw17_works (N : Nat) : Option Bool :=
  (blocks_Of N ([([(0 : Int), (25769803776 : Int), (0 : Int), (0 : Int)] : List Int)] : List (List Int))).bind fun y =>
  cond ((((List.length y) : Nat) : Int) == (256 : Int))
  (cond (Go.Lift.inR (0 : Int) (List.length y))
    (cond ((List.getD y 0 (0 : Int)) == (0 : Int))
      (cond (Go.Lift.inR (97 : Int) (List.length y))
        (cond ((List.getD y 97 (0 : Int)) == (1 : Int))
          (cond (Go.Lift.inR (98 : Int) (List.length y))
            (cond ((List.getD y 98 (0 : Int)) == (1 : Int))
              (cond (Go.Lift.inR (99 : Int) (List.length y))
                (cond ((List.getD y 99 (0 : Int)) == (0 : Int))
                  ((blocks_Count N y).bind fun y1 =>
                    cond (y1 == (2 : Int))
                    ((blocks_First N y (1 : Int)).bind fun y2 =>
                      some (y2 == (97 : Int)))
                    (some false))
                  (some false))
                (none))
              (some false))
            (none))
          (some false))
        (none))
      (some false))
    (none))
  (some false)

noncomputable def porterlaw17_works_t (N : Nat) : Tab Bool := []

theorem porterlaw17_works_link (N : Nat) (x : denS []) : evFX (porterlaw17_works_E N) N (porterlaw17_works_t N) porterlaw17_works_L Go.Proofs.Try.f11 (mkS [] 0 x) (kRes (.v .bool) 0) = porterlaw17_works N := by kernel_rfl

noncomputable def porterlaw17_works_res (N : Nat) : List A → Res := resOf [] (fun x => porterlaw17_works N) (oRes (.v .bool) 0)

theorem porterlaw17_works_ct (N : Nat) : Contract Go.Proofs.Try.prog noGlob 11 (porterlaw17_works_res N) :=
  Contract.of (E := porterlaw17_works_E N) (H := porterlaw17_works_t N) (L := porterlaw17_works_L) (N := N) (body := porterlaw17_works_body) (K := (kRes (.v .bool) 0)) (porterlaw17_works_Eok N) Go.Proofs.Try.func11 (by kernel_rfl) (by decide) (fun _ hb => TabOk.nil) (fun x y h => by rw [porterlaw17_works_link]; exact h) (kRes_ok (s := (.v .bool)) (m := 0))

abbrev porterref12_Has_R : Type := Bool

noncomputable def porterref12_Has_body : Code := (Go.Proofs.Try.f68.body).getD .skip

noncomputable def porterref12_Has_L : List (List Nat × List Nat) := [([0], [1, 2]), ([0, 1], [1, 5]), ([0, 0, 1, 1], [6, 1, 5]), ([0, 1, 0, 1, 1], [6, 1, 5]), ([0, 0, 0, 0, 1, 0, 1, 1], [14, 5, 6, 1]), ([1, 0, 0, 0, 1, 0, 1, 1], [5, 6, 1]), ([1, 1, 0, 0, 0, 1, 0, 1, 1], [5]), ([0, 0, 1, 0, 0, 1, 0, 1, 1], [6, 1, 5]), ([0, 1, 0, 0, 1, 0, 1, 1], [6, 1, 5]), ([1, 1, 0, 0, 1, 0, 1, 1], [6, 1, 5]), ([1, 0, 1, 1], [5]), ([0, 1, 1, 1], [4]), ([1, 1, 1, 1], [4])]

noncomputable def porterref12_Has_E (N : Nat) : Env := mkEnv tys noGlob [] [] [] [] false [] [(65, slices_Chunk1_itr N)]

theorem porterref12_Has_Eok (N : Nat) : EnvOk Go.Proofs.Try.prog (porterref12_Has_E N) := mkEnv_ok mixed tys_ok (FnsOk.nil) (ItsOk.cons (slices_Chunk1_it N) (ItsOk.nil))

noncomputable def porterref12_Has_s1 (N : Nat) (b : Int) (w : Int) (i : Int) (rec : Int → Int → Option Bool) (k0 : Int → Option Bool) : Option Bool :=
  cond (decide (i < (Int.tmod b (64 : Int))))
  (rec (Go.IntKind.wrap Go.IntKind.u64 (Int.tdiv w (2 : Int))) (Go.IntKind.wrap Go.IntKind.i64 (i + (1 : Int))))
  (k0 w)

noncomputable def porterref12_Has_p1 (N : Nat) (b : Int) (w : Int) (i : Int) (k0 : Int → Option Bool) : Option Bool :=
  iter (fun (v : (Int × Int)) r => porterref12_Has_s1 N b v.1 v.2 (fun w i => (r (w, i))) k0) N (w, i)

noncomputable def porterref12_Has_g1 (N : Nat) (i : Int) (v : (Int × Int)) (r : (Int × Int) → Option Bool) (K : Ex → List A → Option Bool) : Option Bool :=
  porterref12_Has_s1 N i v.1 v.2 (fun w i => (r (w, i))) (fun a0 => (K (.exit 0) (mkS [(5, .v (.int .u64))] 16 (a0, ()))))

noncomputable def porterref12_Has_h1 (N : Nat) : Hd Bool := fun st K => (unS [(1, .v (.int .i64)), (3, .v (.int .u64)), (0, .v (.int .i64))] 15 (restr [6, 1, 5] 0 st)).bind fun x => iter (fun v r => porterref12_Has_g1 N ((fun x => x.1) x) v r K) N ((fun x => (x.2.1, x.2.2.1)) x)

noncomputable def porterref12_Has_t1 (N : Nat) : Tab Bool := []

theorem porterref12_Has_ok1 {N : Nat} {c : Ctx} (hb : Base Go.Proofs.Try.prog (porterref12_Has_E N) c) : CodeOk Go.Proofs.Try.prog c (nodeAt porterref12_Has_body [0, 1, 0, 1, 1]) (porterref12_Has_h1 N) :=
  loop_ok (s := [(1, .v (.int .i64)), (3, .v (.int .u64)), (0, .v (.int .i64))]) (m := 15) (porterref12_Has_g1 N) [6, 1, 5] N (fun x => x.1) (fun x => (x.2.1, x.2.2.1)) (fun i v => (i, v.1, v.2, ())) (fun _ => rfl) (evN_sound hb N (porterref12_Has_t1 N) porterref12_Has_L porterref12_Has_body TabOk.nil [0, 0, 1, 0, 1, 1] _ rfl) (fun i v r K => by kernel_rfl)

noncomputable def porterref12_Has (N : Nat) (s : (List Int)) (b : Int) : Option Bool :=
  cond (Go.Lift.inR (Go.IntKind.wrap Go.IntKind.i64 (Int.tdiv b (64 : Int))) 4)
  (cond (decide ((Int.toNat (Go.IntKind.wrap Go.IntKind.i64 (Int.tdiv b (64 : Int)))) < (List.length s)))
    (porterref12_Has_p1 N b (List.getD s (Int.toNat (Go.IntKind.wrap Go.IntKind.i64 (Int.tdiv b (64 : Int)))) (0 : Int)) (0 : Int)
      (fun w => some ((Int.tmod w (2 : Int)) == (1 : Int))))
    (none))
  (none)

noncomputable def porterref12_Has_t (N : Nat) : Tab Bool := [([0, 1, 0, 1, 1], porterref12_Has_h1 N)]

theorem porterref12_Has_link (N : Nat) (x : denS [(0, .v (.arr 4 (.int .u64))), (0, .v (.int .i64))]) : evFX (porterref12_Has_E N) N (porterref12_Has_t N) porterref12_Has_L Go.Proofs.Try.f68 (mkS [(0, .v (.arr 4 (.int .u64))), (0, .v (.int .i64))] 0 x) (kRes (.v .bool) 2) = porterref12_Has N x.1 x.2.1 := by kernel_rfl

noncomputable def porterref12_Has_res (N : Nat) : List A → Res := resOf [(0, .v (.arr 4 (.int .u64))), (0, .v (.int .i64))] (fun x => porterref12_Has N x.1 x.2.1) (oRes (.v .bool) 2)

theorem porterref12_Has_ct (N : Nat) : Contract Go.Proofs.Try.prog noGlob 68 (porterref12_Has_res N) :=
  Contract.of (E := porterref12_Has_E N) (H := porterref12_Has_t N) (L := porterref12_Has_L) (N := N) (body := porterref12_Has_body) (K := (kRes (.v .bool) 2)) (porterref12_Has_Eok N) Go.Proofs.Try.func68 (by kernel_rfl) (by decide) (fun _ hb => (TabOk.cons (porterref12_Has_ok1 hb) TabOk.nil)) (fun x y h => by rw [porterref12_Has_link]; exact h) (kRes_ok (s := (.v .bool)) (m := 2))

abbrev porterref17_alike_R : Type := Bool

noncomputable def porterref17_alike_body : Code := (Go.Proofs.Try.f47.body).getD .skip

noncomputable def porterref17_alike_L : List (List Nat × List Nat) := [([0], [0, 1, 2]), ([0, 0, 1], [7, 0, 1, 2]), ([0, 1, 0, 1], [7, 0, 1, 2]), ([0, 0, 0, 0, 1, 0, 1], [11, 0, 7, 1, 2]), ([1, 0, 0, 0, 1, 0, 1], [0, 7, 1, 2]), ([1, 1, 0, 0, 0, 1, 0, 1], []), ([0, 0, 0, 1, 0, 0, 1, 0, 1], [26, 7, 0, 1, 2]), ([1, 0, 0, 1, 0, 0, 1, 0, 1], [7, 0, 1, 2]), ([0, 0, 1, 0, 0, 1, 0, 0, 1, 0, 1], [6]), ([1, 0, 1, 0, 0, 1, 0, 0, 1, 0, 1], [6]), ([0, 1, 0, 0, 1, 0, 1], [7, 0, 1, 2]), ([1, 1, 0, 0, 1, 0, 1], [7, 0, 1, 2]), ([1, 0, 1], []), ([0, 1, 1], [6]), ([1, 1, 1], [6])]

noncomputable def porterref17_alike_E (N : Nat) : Env := mkEnv tys noGlob [(68, porterref12_Has_res N)] [] [] [] false [] [(65, slices_Chunk1_itr N)]

theorem porterref17_alike_Eok (N : Nat) : EnvOk Go.Proofs.Try.prog (porterref17_alike_E N) := mkEnv_ok mixed tys_ok (FnsOk.cons (porterref12_Has_ct N) (FnsOk.nil)) (ItsOk.cons (slices_Chunk1_it N) (ItsOk.nil))

noncomputable def porterref17_alike_s1 (N : Nat) (sets : (List (List Int))) (a : Int) (b : Int) (i : Int) (rec : Int → Option Bool) (k0 : Bool → Option Bool) (k1 : Option Bool) : Option Bool :=
  cond (decide (i < (((List.length sets) : Nat) : Int)))
  (cond (Go.Lift.inR i (List.length sets))
    ((porterref12_Has N (List.getD sets (Int.toNat i) ([] : List Int)) a).bind fun y =>
      cond (Go.Lift.inR i (List.length sets))
      ((porterref12_Has N (List.getD sets (Int.toNat i) ([] : List Int)) b).bind fun y1 =>
        cond (!(y == y1))
        (k0 false)
        (rec (Go.IntKind.wrap Go.IntKind.i64 (i + (1 : Int)))))
      (none))
    (none))
  (k1)

noncomputable def porterref17_alike_p1 (N : Nat) (sets : (List (List Int))) (a : Int) (b : Int) (i : Int) (k0 : Bool → Option Bool) (k1 : Option Bool) : Option Bool :=
  iter (fun (v : Int) r => porterref17_alike_s1 N sets a b v (fun i => (r i)) k0 k1) N i

noncomputable def porterref17_alike_g1 (N : Nat) (i : ((List (List Int)) × Int × Int)) (v : Int) (r : Int → Option Bool) (K : Ex → List A → Option Bool) : Option Bool :=
  porterref17_alike_s1 N i.1 i.2.1 i.2.2 v (fun i => (r i)) (fun a0 => (K .ret (mkS [(6, .v .bool)] 20 (a0, ())))) (K (.exit 0) (mkS [] 27 ()))

noncomputable def porterref17_alike_h1 (N : Nat) : Hd Bool := fun st K => (unS [(0, .v (.sl (.arr 4 (.int .u64)))), (0, .v (.int .i64)), (0, .v (.int .i64)), (4, .v (.int .i64))] 19 (restr [7, 0, 1, 2] 0 st)).bind fun x => iter (fun v r => porterref17_alike_g1 N ((fun x => (x.1, x.2.1, x.2.2.1)) x) v r K) N ((fun x => x.2.2.2.1) x)

noncomputable def porterref17_alike_t1 (N : Nat) : Tab Bool := []

theorem porterref17_alike_ok1 {N : Nat} {c : Ctx} (hb : Base Go.Proofs.Try.prog (porterref17_alike_E N) c) : CodeOk Go.Proofs.Try.prog c (nodeAt porterref17_alike_body [0, 1, 0, 1]) (porterref17_alike_h1 N) :=
  loop_ok (s := [(0, .v (.sl (.arr 4 (.int .u64)))), (0, .v (.int .i64)), (0, .v (.int .i64)), (4, .v (.int .i64))]) (m := 19) (porterref17_alike_g1 N) [7, 0, 1, 2] N (fun x => (x.1, x.2.1, x.2.2.1)) (fun x => x.2.2.2.1) (fun i v => (i.1, i.2.1, i.2.2, v, ())) (fun _ => rfl) (evN_sound hb N (porterref17_alike_t1 N) porterref17_alike_L porterref17_alike_body TabOk.nil [0, 0, 1, 0, 1] _ rfl) (fun i v r K => by kernel_rfl)

noncomputable def porterref17_alike (N : Nat) (sets : (List (List Int))) (a : Int) (b : Int) : Option Bool :=
  porterref17_alike_p1 N sets a b (0 : Int)
  (fun x6 => some x6)
  (some true)

noncomputable def porterref17_alike_t (N : Nat) : Tab Bool := [([0, 1, 0, 1], porterref17_alike_h1 N)]

theorem porterref17_alike_link (N : Nat) (x : denS [(0, .v (.sl (.arr 4 (.int .u64)))), (0, .v (.int .i64)), (0, .v (.int .i64))]) : evFX (porterref17_alike_E N) N (porterref17_alike_t N) porterref17_alike_L Go.Proofs.Try.f47 (mkS [(0, .v (.sl (.arr 4 (.int .u64)))), (0, .v (.int .i64)), (0, .v (.int .i64))] 0 x) (kRes (.v .bool) 3) = porterref17_alike N x.1 x.2.1 x.2.2.1 := by kernel_rfl

noncomputable def porterref17_alike_res (N : Nat) : List A → Res := resOf [(0, .v (.sl (.arr 4 (.int .u64)))), (0, .v (.int .i64)), (0, .v (.int .i64))] (fun x => porterref17_alike N x.1 x.2.1 x.2.2.1) (oRes (.v .bool) 3)

theorem porterref17_alike_ct (N : Nat) : Contract Go.Proofs.Try.prog noGlob 47 (porterref17_alike_res N) :=
  Contract.of (E := porterref17_alike_E N) (H := porterref17_alike_t N) (L := porterref17_alike_L) (N := N) (body := porterref17_alike_body) (K := (kRes (.v .bool) 3)) (porterref17_alike_Eok N) Go.Proofs.Try.func47 (by kernel_rfl) (by decide) (fun _ hb => (TabOk.cons (porterref17_alike_ok1 hb) TabOk.nil)) (fun x y h => by rw [porterref17_alike_link]; exact h) (kRes_ok (s := (.v .bool)) (m := 3))

abbrev porterref17_Of_R : Type := (List Int)

noncomputable def porterref17_Of_body : Code := (Go.Proofs.Try.f14.body).getD .skip

noncomputable def porterref17_Of_L : List (List Nat × List Nat) := [([0], [0]), ([0, 1], [0, 3]), ([0, 1, 1], [0, 3, 4]), ([0, 0, 1, 1, 1], [5, 0, 3, 4]), ([0, 1, 0, 1, 1, 1], [5, 0, 3, 4]), ([0, 0, 0, 0, 1, 0, 1, 1, 1], [9, 5, 0, 3, 4]), ([1, 0, 0, 0, 1, 0, 1, 1, 1], [5, 0, 3, 4]), ([1, 1, 0, 0, 0, 1, 0, 1, 1, 1], [3]), ([0, 0, 0, 1, 0, 0, 1, 0, 1, 1, 1], [5, 6, 0, 3, 4]), ([0, 0, 1, 0, 0, 1, 0, 0, 1, 0, 1, 1, 1], [7, 5, 6, 0, 3, 4]), ([0, 1, 0, 1, 0, 0, 1, 0, 0, 1, 0, 1, 1, 1], [7, 5, 6, 0, 3, 4]), ([0, 0, 0, 0, 1, 0, 1, 0, 0, 1, 0, 0, 1, 0, 1, 1, 1], [18, 0, 7, 5, 3, 4, 6]), ([1, 0, 0, 0, 1, 0, 1, 0, 0, 1, 0, 0, 1, 0, 1, 1, 1], [0, 7, 5, 3, 4, 6]), ([1, 1, 0, 0, 0, 1, 0, 1, 0, 0, 1, 0, 0, 1, 0, 1, 1, 1], [6, 4, 3, 5, 0]), ([0, 0, 0, 1, 0, 0, 1, 0, 1, 0, 0, 1, 0, 0, 1, 0, 1, 1, 1], [24, 3, 7, 5, 0, 4, 6]), ([1, 0, 0, 1, 0, 0, 1, 0, 1, 0, 0, 1, 0, 0, 1, 0, 1, 1, 1], [7, 5, 6, 0, 3, 4]), ([0, 1, 0, 0, 1, 0, 0, 1, 0, 1, 0, 0, 1, 0, 0, 1, 0, 1, 1, 1], [7, 5, 6, 0, 3, 4]), ([0, 1, 0, 0, 1, 0, 1, 0, 0, 1, 0, 0, 1, 0, 1, 1, 1], [7, 5, 6, 0, 3, 4]), ([1, 1, 0, 0, 1, 0, 1, 0, 0, 1, 0, 0, 1, 0, 1, 1, 1], [7, 5, 6, 0, 3, 4]), ([1, 0, 1, 0, 0, 1, 0, 0, 1, 0, 1, 1, 1], [6, 4, 3, 5, 0]), ([0, 0, 1, 1, 0, 0, 1, 0, 0, 1, 0, 1, 1, 1], [30, 4, 3, 5, 0, 6]), ([1, 0, 1, 1, 0, 0, 1, 0, 0, 1, 0, 1, 1, 1], [3, 6, 5, 0, 4]), ([0, 0, 1, 0, 1, 1, 0, 0, 1, 0, 0, 1, 0, 1, 1, 1], [4, 3, 6, 5, 0]), ([1, 0, 1, 0, 1, 1, 0, 0, 1, 0, 0, 1, 0, 1, 1, 1], [3, 6, 5, 0, 4]), ([1, 1, 1, 0, 0, 1, 0, 0, 1, 0, 1, 1, 1], [5, 0, 3, 4]), ([0, 1, 0, 0, 1, 0, 1, 1, 1], [5, 0, 3, 4]), ([1, 1, 0, 0, 1, 0, 1, 1, 1], [5, 0, 3, 4]), ([1, 0, 1, 1, 1], [3]), ([0, 1, 1, 1, 1], [2]), ([1, 1, 1, 1, 1], [2])]

noncomputable def porterref17_Of_E (N : Nat) : Env := mkEnv tys noGlob [(47, porterref17_alike_res N)] [(3, (.int .i64)), (2, (.int .i64))] [] [] false [] [(65, slices_Chunk1_itr N)]

theorem porterref17_Of_Eok (N : Nat) : EnvOk Go.Proofs.Try.prog (porterref17_Of_E N) := mkEnv_ok mixed tys_ok (FnsOk.cons (porterref17_alike_ct N) (FnsOk.nil)) (ItsOk.cons (slices_Chunk1_it N) (ItsOk.nil))

noncomputable def porterref17_Of_p5 (N : Nat) (sets : (List (List Int))) (out : (List Int)) (many : Int) (b : Int) (at_ : Int) (k : Int) (k0 : Option (List Int)) (k1 : Option (List Int)) : Option (List Int) :=
  cond (decide (k < b))
  (cond (decide (at_ < (0 : Int)))
    (k0)
    (k1))
  (k1)

noncomputable def porterref17_Of_g5 (N : Nat) (x : denS [(0, .v (.sl (.arr 4 (.int .u64)))), (2, .row (.int .i64)), (0, .v (.int .i64)), (0, .v (.int .i64)), (0, .v (.int .i64)), (0, .v (.int .i64))]) (K : Ex → List A → Option (List Int)) : Option (List Int) :=
  porterref17_Of_p5 N x.1 x.2.1 x.2.2.1 x.2.2.2.1 x.2.2.2.2.1 x.2.2.2.2.2.1 (K .normal (mkS [(0, .v (.sl (.arr 4 (.int .u64)))), (2, .row (.int .i64)), (0, .v (.int .i64)), (0, .v (.int .i64)), (0, .v (.int .i64)), (0, .v (.int .i64))] 31 (x.1, x.2.1, x.2.2.1, x.2.2.2.1, x.2.2.2.2.1, x.2.2.2.2.2.1, ()))) (K (.exit 2) (mkS [(0, .v (.sl (.arr 4 (.int .u64)))), (2, .row (.int .i64)), (0, .v (.int .i64)), (0, .v (.int .i64)), (0, .v (.int .i64))] 32 (x.1, x.2.1, x.2.2.1, x.2.2.2.1, x.2.2.2.2.1, ())))

noncomputable def porterref17_Of_h5 (N : Nat) : Hd (List Int) := fun st K => (unS [(0, .v (.sl (.arr 4 (.int .u64)))), (2, .row (.int .i64)), (0, .v (.int .i64)), (0, .v (.int .i64)), (0, .v (.int .i64)), (0, .v (.int .i64))] 31 (restr [7, 5, 6, 0, 3, 4] 0 st)).bind fun x => porterref17_Of_g5 N x K

noncomputable def porterref17_Of_t5 (N : Nat) : Tab (List Int) := []

theorem porterref17_Of_ok5 {N : Nat} {c : Ctx} (hb : Base Go.Proofs.Try.prog (porterref17_Of_E N) c) : CodeOk Go.Proofs.Try.prog c (nodeAt porterref17_Of_body [0, 0, 0, 1, 0, 1, 0, 0, 1, 0, 0, 1, 0, 1, 1, 1]) (porterref17_Of_h5 N) :=
  piece_ok (s := [(0, .v (.sl (.arr 4 (.int .u64)))), (2, .row (.int .i64)), (0, .v (.int .i64)), (0, .v (.int .i64)), (0, .v (.int .i64)), (0, .v (.int .i64))]) (m := 31) (g := porterref17_Of_g5 N) [7, 5, 6, 0, 3, 4] (evN_sound hb N (porterref17_Of_t5 N) porterref17_Of_L porterref17_Of_body TabOk.nil [0, 0, 0, 1, 0, 1, 0, 0, 1, 0, 0, 1, 0, 1, 1, 1] _ rfl) (fun x K => by kernel_rfl)

noncomputable def porterref17_Of_p6 (N : Nat) (sets : (List (List Int))) (out : (List Int)) (many : Int) (b : Int) (at_ : Int) (k : Int) (k0 : Int → Option (List Int)) : Option (List Int) :=
  (porterref17_alike N sets k b).bind fun y =>
  cond y
  (cond (Go.Lift.inR k (List.length out))
    (cond (decide ((Int.toNat k) < (List.length out)))
      (k0 (List.getD out (Int.toNat k) (0 : Int)))
      (none))
    (none))
  (k0 at_)

noncomputable def porterref17_Of_g6 (N : Nat) (x : denS [(0, .v (.sl (.arr 4 (.int .u64)))), (2, .row (.int .i64)), (0, .v (.int .i64)), (0, .v (.int .i64)), (0, .v (.int .i64)), (0, .v (.int .i64))]) (K : Ex → List A → Option (List Int)) : Option (List Int) :=
  porterref17_Of_p6 N x.1 x.2.1 x.2.2.1 x.2.2.2.1 x.2.2.2.2.1 x.2.2.2.2.2.1 (fun a4 => (K .normal (mkS [(0, .v (.sl (.arr 4 (.int .u64)))), (2, .row (.int .i64)), (0, .v (.int .i64)), (0, .v (.int .i64)), (0, .v (.int .i64)), (0, .v (.int .i64))] 31 (x.1, x.2.1, x.2.2.1, x.2.2.2.1, a4, x.2.2.2.2.2.1, ()))))

noncomputable def porterref17_Of_h6 (N : Nat) : Hd (List Int) := fun st K => (unS [(0, .v (.sl (.arr 4 (.int .u64)))), (2, .row (.int .i64)), (0, .v (.int .i64)), (0, .v (.int .i64)), (0, .v (.int .i64)), (0, .v (.int .i64))] 31 (restr [0, 7, 5, 3, 4, 6] 0 st)).bind fun x => porterref17_Of_g6 N x K

noncomputable def porterref17_Of_t6 (N : Nat) : Tab (List Int) := []

theorem porterref17_Of_ok6 {N : Nat} {c : Ctx} (hb : Base Go.Proofs.Try.prog (porterref17_Of_E N) c) : CodeOk Go.Proofs.Try.prog c (nodeAt porterref17_Of_body [0, 1, 0, 0, 1, 0, 1, 0, 0, 1, 0, 0, 1, 0, 1, 1, 1]) (porterref17_Of_h6 N) :=
  piece_ok (s := [(0, .v (.sl (.arr 4 (.int .u64)))), (2, .row (.int .i64)), (0, .v (.int .i64)), (0, .v (.int .i64)), (0, .v (.int .i64)), (0, .v (.int .i64))]) (m := 31) (g := porterref17_Of_g6 N) [0, 7, 5, 3, 4, 6] (evN_sound hb N (porterref17_Of_t6 N) porterref17_Of_L porterref17_Of_body TabOk.nil [0, 1, 0, 0, 1, 0, 1, 0, 0, 1, 0, 0, 1, 0, 1, 1, 1] _ rfl) (fun x K => by kernel_rfl)

noncomputable def porterref17_Of_s4 (N : Nat) (sets : (List (List Int))) (out : (List Int)) (many : Int) (b : Int) (at_ : Int) (k : Int) (rec : Int → Int → Option (List Int)) (k0 : Int → Option (List Int)) : Option (List Int) :=
  porterref17_Of_p5 N sets out many b at_ k
  (porterref17_Of_p6 N sets out many b at_ k
    (fun at_1 => rec at_1 (Go.IntKind.wrap Go.IntKind.i64 (k + (1 : Int)))))
  (k0 at_)

noncomputable def porterref17_Of_p4 (N : Nat) (sets : (List (List Int))) (out : (List Int)) (many : Int) (b : Int) (at_ : Int) (k : Int) (k0 : Int → Option (List Int)) : Option (List Int) :=
  iter (fun (v : (Int × Int)) r => porterref17_Of_s4 N sets out many b v.1 v.2 (fun at_ k => (r (at_, k))) k0) N (at_, k)

noncomputable def porterref17_Of_g4 (N : Nat) (i : ((List (List Int)) × (List Int) × Int × Int)) (v : (Int × Int)) (r : (Int × Int) → Option (List Int)) (K : Ex → List A → Option (List Int)) : Option (List Int) :=
  porterref17_Of_s4 N i.1 i.2.1 i.2.2.1 i.2.2.2 v.1 v.2 (fun at_ k => (r (at_, k))) (fun a4 => (K (.exit 2) (mkS [(0, .v (.sl (.arr 4 (.int .u64)))), (2, .row (.int .i64)), (0, .v (.int .i64)), (0, .v (.int .i64)), (0, .v (.int .i64))] 32 (i.1, i.2.1, i.2.2.1, i.2.2.2, a4, ()))))

noncomputable def porterref17_Of_h4 (N : Nat) : Hd (List Int) := fun st K => (unS [(0, .v (.sl (.arr 4 (.int .u64)))), (2, .row (.int .i64)), (0, .v (.int .i64)), (0, .v (.int .i64)), (0, .v (.int .i64)), (0, .v (.int .i64))] 31 (restr [7, 5, 6, 0, 3, 4] 0 st)).bind fun x => iter (fun v r => porterref17_Of_g4 N ((fun x => (x.1, x.2.1, x.2.2.1, x.2.2.2.1)) x) v r K) N ((fun x => (x.2.2.2.2.1, x.2.2.2.2.2.1)) x)

noncomputable def porterref17_Of_t4 (N : Nat) : Tab (List Int) := [([0, 0, 0, 1, 0, 1, 0, 0, 1, 0, 0, 1, 0, 1, 1, 1], porterref17_Of_h5 N), ([0, 1, 0, 0, 1, 0, 1, 0, 0, 1, 0, 0, 1, 0, 1, 1, 1], porterref17_Of_h6 N)]

theorem porterref17_Of_ok4 {N : Nat} {c : Ctx} (hb : Base Go.Proofs.Try.prog (porterref17_Of_E N) c) : CodeOk Go.Proofs.Try.prog c (nodeAt porterref17_Of_body [0, 1, 0, 1, 0, 0, 1, 0, 0, 1, 0, 1, 1, 1]) (porterref17_Of_h4 N) :=
  loop_ok (s := [(0, .v (.sl (.arr 4 (.int .u64)))), (2, .row (.int .i64)), (0, .v (.int .i64)), (0, .v (.int .i64)), (0, .v (.int .i64)), (0, .v (.int .i64))]) (m := 31) (porterref17_Of_g4 N) [7, 5, 6, 0, 3, 4] N (fun x => (x.1, x.2.1, x.2.2.1, x.2.2.2.1)) (fun x => (x.2.2.2.2.1, x.2.2.2.2.2.1)) (fun i v => (i.1, i.2.1, i.2.2.1, i.2.2.2, v.1, v.2, ())) (fun _ => rfl) (evN_sound hb N (porterref17_Of_t4 N) porterref17_Of_L porterref17_Of_body (TabOk.cons (porterref17_Of_ok5 hb) (TabOk.cons (porterref17_Of_ok6 hb) TabOk.nil)) [0, 0, 1, 0, 1, 0, 0, 1, 0, 0, 1, 0, 1, 1, 1] _ rfl) (fun i v r K => by kernel_rfl)

noncomputable def porterref17_Of_p3 (N : Nat) (sets : (List (List Int))) (out : (List Int)) (many : Int) (b : Int) (at_ : Int) (k0 : Int → Option (List Int)) : Option (List Int) :=
  porterref17_Of_p4 N sets out many b at_ (0 : Int)
  (fun at_1 => k0 at_1)

noncomputable def porterref17_Of_g3 (N : Nat) (x : denS [(0, .v (.sl (.arr 4 (.int .u64)))), (2, .row (.int .i64)), (0, .v (.int .i64)), (0, .v (.int .i64)), (0, .v (.int .i64))]) (K : Ex → List A → Option (List Int)) : Option (List Int) :=
  porterref17_Of_p3 N x.1 x.2.1 x.2.2.1 x.2.2.2.1 x.2.2.2.2.1 (fun a4 => (K .normal (mkS [(0, .v (.sl (.arr 4 (.int .u64)))), (2, .row (.int .i64)), (0, .v (.int .i64)), (0, .v (.int .i64)), (0, .v (.int .i64))] 32 (x.1, x.2.1, x.2.2.1, x.2.2.2.1, a4, ()))))

noncomputable def porterref17_Of_h3 (N : Nat) : Hd (List Int) := fun st K => (unS [(0, .v (.sl (.arr 4 (.int .u64)))), (2, .row (.int .i64)), (0, .v (.int .i64)), (0, .v (.int .i64)), (0, .v (.int .i64))] 32 (restr [5, 6, 0, 3, 4] 0 st)).bind fun x => porterref17_Of_g3 N x K

noncomputable def porterref17_Of_t3 (N : Nat) : Tab (List Int) := [([0, 1, 0, 1, 0, 0, 1, 0, 0, 1, 0, 1, 1, 1], porterref17_Of_h4 N)]

theorem porterref17_Of_ok3 {N : Nat} {c : Ctx} (hb : Base Go.Proofs.Try.prog (porterref17_Of_E N) c) : CodeOk Go.Proofs.Try.prog c (nodeAt porterref17_Of_body [0, 1, 0, 0, 1, 0, 0, 1, 0, 1, 1, 1]) (porterref17_Of_h3 N) :=
  piece_ok (s := [(0, .v (.sl (.arr 4 (.int .u64)))), (2, .row (.int .i64)), (0, .v (.int .i64)), (0, .v (.int .i64)), (0, .v (.int .i64))]) (m := 32) (g := porterref17_Of_g3 N) [5, 6, 0, 3, 4] (evN_sound hb N (porterref17_Of_t3 N) porterref17_Of_L porterref17_Of_body (TabOk.cons (porterref17_Of_ok4 hb) TabOk.nil) [0, 1, 0, 0, 1, 0, 0, 1, 0, 1, 1, 1] _ rfl) (fun x K => by kernel_rfl)

noncomputable def porterref17_Of_p7 (N : Nat) (sets : (List (List Int))) (out : (List Int)) (many : Int) (b : Int) (at_ : Int) (k0 : Int → Int → Option (List Int)) : Option (List Int) :=
  cond (decide (at_ < (0 : Int)))
  (k0 (Go.IntKind.wrap Go.IntKind.i64 (many + (1 : Int))) many)
  (k0 many at_)

noncomputable def porterref17_Of_g7 (N : Nat) (x : denS [(0, .v (.sl (.arr 4 (.int .u64)))), (2, .row (.int .i64)), (0, .v (.int .i64)), (0, .v (.int .i64)), (0, .v (.int .i64))]) (K : Ex → List A → Option (List Int)) : Option (List Int) :=
  porterref17_Of_p7 N x.1 x.2.1 x.2.2.1 x.2.2.2.1 x.2.2.2.2.1 (fun a2 a4 => (K .normal (mkS [(0, .v (.sl (.arr 4 (.int .u64)))), (2, .row (.int .i64)), (0, .v (.int .i64)), (0, .v (.int .i64)), (0, .v (.int .i64))] 32 (x.1, x.2.1, a2, x.2.2.2.1, a4, ()))))

noncomputable def porterref17_Of_h7 (N : Nat) : Hd (List Int) := fun st K => (unS [(0, .v (.sl (.arr 4 (.int .u64)))), (2, .row (.int .i64)), (0, .v (.int .i64)), (0, .v (.int .i64)), (0, .v (.int .i64))] 32 (restr [6, 4, 3, 5, 0] 0 st)).bind fun x => porterref17_Of_g7 N x K

noncomputable def porterref17_Of_t7 (N : Nat) : Tab (List Int) := []

theorem porterref17_Of_ok7 {N : Nat} {c : Ctx} (hb : Base Go.Proofs.Try.prog (porterref17_Of_E N) c) : CodeOk Go.Proofs.Try.prog c (nodeAt porterref17_Of_body [0, 1, 1, 0, 0, 1, 0, 0, 1, 0, 1, 1, 1]) (porterref17_Of_h7 N) :=
  piece_ok (s := [(0, .v (.sl (.arr 4 (.int .u64)))), (2, .row (.int .i64)), (0, .v (.int .i64)), (0, .v (.int .i64)), (0, .v (.int .i64))]) (m := 32) (g := porterref17_Of_g7 N) [6, 4, 3, 5, 0] (evN_sound hb N (porterref17_Of_t7 N) porterref17_Of_L porterref17_Of_body TabOk.nil [0, 1, 1, 0, 0, 1, 0, 0, 1, 0, 1, 1, 1] _ rfl) (fun x K => by kernel_rfl)

noncomputable def porterref17_Of_p2 (N : Nat) (sets : (List (List Int))) (out : (List Int)) (many : Int) (b : Int) (k0 : (List Int) → Int → Option (List Int)) : Option (List Int) :=
  porterref17_Of_p3 N sets out many b (-(1 : Int))
  (fun at_ => porterref17_Of_p7 N sets out many b at_
    (fun many1 at_1 => cond (decide ((((List.length out) + 1) * 8) ≤ 70368744177664))
      (k0 (out ++ ([at_1] : List Int)) many1)
      (none)))

noncomputable def porterref17_Of_g2 (N : Nat) (x : denS [(0, .v (.sl (.arr 4 (.int .u64)))), (2, .row (.int .i64)), (0, .v (.int .i64)), (0, .v (.int .i64))]) (K : Ex → List A → Option (List Int)) : Option (List Int) :=
  porterref17_Of_p2 N x.1 x.2.1 x.2.2.1 x.2.2.2.1 (fun a1 a2 => (K .normal (mkS [(0, .v (.sl (.arr 4 (.int .u64)))), (2, .row (.int .i64)), (0, .v (.int .i64)), (0, .v (.int .i64))] 33 (x.1, a1, a2, x.2.2.2.1, ()))))

noncomputable def porterref17_Of_h2 (N : Nat) : Hd (List Int) := fun st K => (unS [(0, .v (.sl (.arr 4 (.int .u64)))), (2, .row (.int .i64)), (0, .v (.int .i64)), (0, .v (.int .i64))] 33 (restr [5, 0, 3, 4] 0 st)).bind fun x => porterref17_Of_g2 N x K

noncomputable def porterref17_Of_t2 (N : Nat) : Tab (List Int) := [([0, 1, 0, 0, 1, 0, 0, 1, 0, 1, 1, 1], porterref17_Of_h3 N), ([0, 1, 1, 0, 0, 1, 0, 0, 1, 0, 1, 1, 1], porterref17_Of_h7 N)]

theorem porterref17_Of_ok2 {N : Nat} {c : Ctx} (hb : Base Go.Proofs.Try.prog (porterref17_Of_E N) c) : CodeOk Go.Proofs.Try.prog c (nodeAt porterref17_Of_body [0, 1, 0, 0, 1, 0, 1, 1, 1]) (porterref17_Of_h2 N) :=
  piece_ok (s := [(0, .v (.sl (.arr 4 (.int .u64)))), (2, .row (.int .i64)), (0, .v (.int .i64)), (0, .v (.int .i64))]) (m := 33) (g := porterref17_Of_g2 N) [5, 0, 3, 4] (evN_sound hb N (porterref17_Of_t2 N) porterref17_Of_L porterref17_Of_body (TabOk.cons (porterref17_Of_ok3 hb) (TabOk.cons (porterref17_Of_ok7 hb) TabOk.nil)) [0, 1, 0, 0, 1, 0, 1, 1, 1] _ rfl) (fun x K => by kernel_rfl)

noncomputable def porterref17_Of_s1 (N : Nat) (sets : (List (List Int))) (out : (List Int)) (many : Int) (b : Int) (rec : (List Int) → Int → Int → Option (List Int)) (k0 : (List Int) → Option (List Int)) : Option (List Int) :=
  cond (decide (b < (256 : Int)))
  (porterref17_Of_p2 N sets out many b
    (fun out1 many1 => rec out1 many1 (Go.IntKind.wrap Go.IntKind.i64 (b + (1 : Int)))))
  (k0 out)

noncomputable def porterref17_Of_p1 (N : Nat) (sets : (List (List Int))) (out : (List Int)) (many : Int) (b : Int) (k0 : (List Int) → Option (List Int)) : Option (List Int) :=
  iter (fun (v : ((List Int) × Int × Int)) r => porterref17_Of_s1 N sets v.1 v.2.1 v.2.2 (fun out many b => (r (out, many, b))) k0) N (out, many, b)

noncomputable def porterref17_Of_g1 (N : Nat) (i : (List (List Int))) (v : ((List Int) × Int × Int)) (r : ((List Int) × Int × Int) → Option (List Int)) (K : Ex → List A → Option (List Int)) : Option (List Int) :=
  porterref17_Of_s1 N i v.1 v.2.1 v.2.2 (fun out many b => (r (out, many, b))) (fun a0 => (K (.exit 0) (mkS [(3, .row (.int .i64))] 35 (a0, ()))))

noncomputable def porterref17_Of_h1 (N : Nat) : Hd (List Int) := fun st K => (unS [(0, .v (.sl (.arr 4 (.int .u64)))), (2, .row (.int .i64)), (0, .v (.int .i64)), (0, .v (.int .i64))] 33 (restr [5, 0, 3, 4] 0 st)).bind fun x => iter (fun v r => porterref17_Of_g1 N ((fun x => x.1) x) v r K) N ((fun x => (x.2.1, x.2.2.1, x.2.2.2.1)) x)

noncomputable def porterref17_Of_t1 (N : Nat) : Tab (List Int) := [([0, 1, 0, 0, 1, 0, 1, 1, 1], porterref17_Of_h2 N)]

theorem porterref17_Of_ok1 {N : Nat} {c : Ctx} (hb : Base Go.Proofs.Try.prog (porterref17_Of_E N) c) : CodeOk Go.Proofs.Try.prog c (nodeAt porterref17_Of_body [0, 1, 0, 1, 1, 1]) (porterref17_Of_h1 N) :=
  loop_ok (s := [(0, .v (.sl (.arr 4 (.int .u64)))), (2, .row (.int .i64)), (0, .v (.int .i64)), (0, .v (.int .i64))]) (m := 33) (porterref17_Of_g1 N) [5, 0, 3, 4] N (fun x => x.1) (fun x => (x.2.1, x.2.2.1, x.2.2.2.1)) (fun i v => (i, v.1, v.2.1, v.2.2, ())) (fun _ => rfl) (evN_sound hb N (porterref17_Of_t1 N) porterref17_Of_L porterref17_Of_body (TabOk.cons (porterref17_Of_ok2 hb) TabOk.nil) [0, 0, 1, 0, 1, 1, 1] _ rfl) (fun i v r K => by kernel_rfl)

noncomputable def porterref17_Of (N : Nat) (sets : (List (List Int))) : Option (List Int) :=
  porterref17_Of_p1 N sets ([] : List Int) (0 : Int) (0 : Int)
  (fun out => some out)

noncomputable def porterref17_Of_t (N : Nat) : Tab (List Int) := [([0, 1, 0, 1, 1, 1], porterref17_Of_h1 N)]

theorem porterref17_Of_link (N : Nat) (x : denS [(0, .v (.sl (.arr 4 (.int .u64))))]) : evFX (porterref17_Of_E N) N (porterref17_Of_t N) porterref17_Of_L Go.Proofs.Try.f14 (mkS [(0, .v (.sl (.arr 4 (.int .u64))))] 0 x) (kRes (.v (.sl (.int .i64))) 1) = porterref17_Of N x.1 := by kernel_rfl

noncomputable def porterref17_Of_res (N : Nat) : List A → Res := resOf [(0, .v (.sl (.arr 4 (.int .u64))))] (fun x => porterref17_Of N x.1) (oRes (.v (.sl (.int .i64))) 1)

theorem porterref17_Of_ct (N : Nat) : Contract Go.Proofs.Try.prog noGlob 14 (porterref17_Of_res N) :=
  Contract.of (E := porterref17_Of_E N) (H := porterref17_Of_t N) (L := porterref17_Of_L) (N := N) (body := porterref17_Of_body) (K := (kRes (.v (.sl (.int .i64))) 1)) (porterref17_Of_Eok N) Go.Proofs.Try.func14 (by kernel_rfl) (by decide) (fun _ hb => (TabOk.cons (porterref17_Of_ok1 hb) TabOk.nil)) (fun x y h => by rw [porterref17_Of_link]; exact h) (kRes_ok (s := (.v (.sl (.int .i64)))) (m := 1))

abbrev porterbase_SameInts_R : Type := Bool

noncomputable def porterbase_SameInts_body : Code := (Go.Proofs.Try.f13.body).getD .skip

noncomputable def porterbase_SameInts_L : List (List Nat × List Nat) := [([0], [0, 1]), ([0, 0, 1], [10, 0, 1]), ([1, 0, 1], [0, 1]), ([0, 0, 1, 0, 1], [4]), ([1, 0, 1, 0, 1], [4]), ([0, 0, 1, 1], [5, 0, 1]), ([0, 1, 0, 1, 1], [5, 0, 1]), ([0, 0, 0, 0, 1, 0, 1, 1], [14, 0, 5, 1]), ([1, 0, 0, 0, 1, 0, 1, 1], [0, 5, 1]), ([1, 1, 0, 0, 0, 1, 0, 1, 1], []), ([0, 0, 0, 1, 0, 0, 1, 0, 1, 1], [25, 5, 0, 1]), ([1, 0, 0, 1, 0, 0, 1, 0, 1, 1], [5, 0, 1]), ([0, 0, 1, 0, 0, 1, 0, 0, 1, 0, 1, 1], [4]), ([1, 0, 1, 0, 0, 1, 0, 0, 1, 0, 1, 1], [4]), ([0, 1, 0, 0, 1, 0, 1, 1], [5, 0, 1]), ([1, 1, 0, 0, 1, 0, 1, 1], [5, 0, 1]), ([1, 0, 1, 1], []), ([0, 1, 1, 1], [4]), ([1, 1, 1, 1], [4])]

noncomputable def porterbase_SameInts_E (N : Nat) : Env := mkEnv tys noGlob [] [] [] [] false [] [(65, slices_Chunk1_itr N)]

theorem porterbase_SameInts_Eok (N : Nat) : EnvOk Go.Proofs.Try.prog (porterbase_SameInts_E N) := mkEnv_ok mixed tys_ok (FnsOk.nil) (ItsOk.cons (slices_Chunk1_it N) (ItsOk.nil))

noncomputable def porterbase_SameInts_s1 (N : Nat) (a : (List Int)) (b : (List Int)) (i : Int) (rec : Int → Option Bool) (k0 : Bool → Option Bool) (k1 : Option Bool) : Option Bool :=
  cond (decide (i < (((List.length a) : Nat) : Int)))
  (cond (Go.Lift.inR i (List.length a))
    (cond (Go.Lift.inR i (List.length b))
      (cond ((List.getD a (Int.toNat i) (0 : Int)) != (List.getD b (Int.toNat i) (0 : Int)))
        (k0 false)
        (rec (Go.IntKind.wrap Go.IntKind.i64 (i + (1 : Int)))))
      (none))
    (none))
  (k1)

noncomputable def porterbase_SameInts_p1 (N : Nat) (a : (List Int)) (b : (List Int)) (i : Int) (k0 : Bool → Option Bool) (k1 : Option Bool) : Option Bool :=
  iter (fun (v : Int) r => porterbase_SameInts_s1 N a b v (fun i => (r i)) k0 k1) N i

noncomputable def porterbase_SameInts_g1 (N : Nat) (i : ((List Int) × (List Int))) (v : Int) (r : Int → Option Bool) (K : Ex → List A → Option Bool) : Option Bool :=
  porterbase_SameInts_s1 N i.1 i.2 v (fun i => (r i)) (fun a0 => (K .ret (mkS [(4, .v .bool)] 21 (a0, ())))) (K (.exit 0) (mkS [] 26 ()))

noncomputable def porterbase_SameInts_h1 (N : Nat) : Hd Bool := fun st K => (unS [(0, .v (.sl (.int .i64))), (0, .v (.sl (.int .i64))), (3, .v (.int .i64))] 20 (restr [5, 0, 1] 0 st)).bind fun x => iter (fun v r => porterbase_SameInts_g1 N ((fun x => (x.1, x.2.1)) x) v r K) N ((fun x => x.2.2.1) x)

noncomputable def porterbase_SameInts_t1 (N : Nat) : Tab Bool := []

theorem porterbase_SameInts_ok1 {N : Nat} {c : Ctx} (hb : Base Go.Proofs.Try.prog (porterbase_SameInts_E N) c) : CodeOk Go.Proofs.Try.prog c (nodeAt porterbase_SameInts_body [0, 1, 0, 1, 1]) (porterbase_SameInts_h1 N) :=
  loop_ok (s := [(0, .v (.sl (.int .i64))), (0, .v (.sl (.int .i64))), (3, .v (.int .i64))]) (m := 20) (porterbase_SameInts_g1 N) [5, 0, 1] N (fun x => (x.1, x.2.1)) (fun x => x.2.2.1) (fun i v => (i.1, i.2, v, ())) (fun _ => rfl) (evN_sound hb N (porterbase_SameInts_t1 N) porterbase_SameInts_L porterbase_SameInts_body TabOk.nil [0, 0, 1, 0, 1, 1] _ rfl) (fun i v r K => by kernel_rfl)

noncomputable def porterbase_SameInts (N : Nat) (a : (List Int)) (b : (List Int)) : Option Bool :=
  cond ((((List.length a) : Nat) : Int) != (((List.length b) : Nat) : Int))
  (some false)
  (porterbase_SameInts_p1 N a b (0 : Int)
    (fun x4 => some x4)
    (some true))

noncomputable def porterbase_SameInts_t (N : Nat) : Tab Bool := [([0, 1, 0, 1, 1], porterbase_SameInts_h1 N)]

theorem porterbase_SameInts_link (N : Nat) (x : denS [(0, .v (.sl (.int .i64))), (0, .v (.sl (.int .i64)))]) : evFX (porterbase_SameInts_E N) N (porterbase_SameInts_t N) porterbase_SameInts_L Go.Proofs.Try.f13 (mkS [(0, .v (.sl (.int .i64))), (0, .v (.sl (.int .i64)))] 0 x) (kRes (.v .bool) 2) = porterbase_SameInts N x.1 x.2.1 := by kernel_rfl

noncomputable def porterbase_SameInts_res (N : Nat) : List A → Res := resOf [(0, .v (.sl (.int .i64))), (0, .v (.sl (.int .i64)))] (fun x => porterbase_SameInts N x.1 x.2.1) (oRes (.v .bool) 2)

theorem porterbase_SameInts_ct (N : Nat) : Contract Go.Proofs.Try.prog noGlob 13 (porterbase_SameInts_res N) :=
  Contract.of (E := porterbase_SameInts_E N) (H := porterbase_SameInts_t N) (L := porterbase_SameInts_L) (N := N) (body := porterbase_SameInts_body) (K := (kRes (.v .bool) 2)) (porterbase_SameInts_Eok N) Go.Proofs.Try.func13 (by kernel_rfl) (by decide) (fun _ hb => (TabOk.cons (porterbase_SameInts_ok1 hb) TabOk.nil)) (fun x y h => by rw [porterbase_SameInts_link]; exact h) (kRes_ok (s := (.v .bool)) (m := 2))

abbrev porterlaw17_BlocksOf_R : Type := Bool

noncomputable def porterlaw17_BlocksOf_body : Code := (Go.Proofs.Try.f3.body).getD .skip

noncomputable def porterlaw17_BlocksOf_L : List (List Nat × List Nat) := [([0], [0]), ([0, 0, 1], [6, 0]), ([1, 0, 1], [0]), ([0, 0, 1, 0, 1], [2]), ([1, 0, 1, 0, 1], [2]), ([0, 1, 1], [3, 0]), ([0, 1, 1, 1], [2]), ([1, 1, 1, 1], [2])]

noncomputable def porterlaw17_BlocksOf_E (N : Nat) : Env := mkEnv tys noGlob [(13, porterbase_SameInts_res N), (14, porterref17_Of_res N), (11, porterlaw17_works_res N), (15, blocks_Right_res N), (12, blocks_Of_res N)] [] [] [] false [] [(65, slices_Chunk1_itr N)]

theorem porterlaw17_BlocksOf_Eok (N : Nat) : EnvOk Go.Proofs.Try.prog (porterlaw17_BlocksOf_E N) := mkEnv_ok mixed tys_ok (FnsOk.cons (porterbase_SameInts_ct N) (FnsOk.cons (porterref17_Of_ct N) (FnsOk.cons (porterlaw17_works_ct N) (FnsOk.cons (blocks_Right_ct N) (FnsOk.cons (blocks_Of_ct N) (FnsOk.nil)))))) (ItsOk.cons (slices_Chunk1_it N) (ItsOk.nil))

noncomputable def porterlaw17_BlocksOf (N : Nat) (l : (List (List Int))) : Option Bool :=
  cond (decide ((8 : Int) < (((List.length l) : Nat) : Int)))
  ((porterlaw17_works N).bind fun y =>
    some y)
  ((blocks_Of N l).bind fun y1 =>
    (porterref17_Of N l).bind fun y2 =>
    (porterbase_SameInts N y1 y2).bind fun y3 =>
    cond y3
    ((blocks_Right N y1).bind fun y4 =>
      cond y4
      ((porterlaw17_works N).bind fun y5 =>
        some y5)
      (some false))
    (some false))

noncomputable def porterlaw17_BlocksOf_t (N : Nat) : Tab Bool := []

theorem porterlaw17_BlocksOf_link (N : Nat) (x : denS [(0, .v (.sl (.arr 4 (.int .u64))))]) : evFX (porterlaw17_BlocksOf_E N) N (porterlaw17_BlocksOf_t N) porterlaw17_BlocksOf_L Go.Proofs.Try.f3 (mkS [(0, .v (.sl (.arr 4 (.int .u64))))] 0 x) (kRes (.v .bool) 1) = porterlaw17_BlocksOf N x.1 := by kernel_rfl

noncomputable def porterlaw17_BlocksOf_res (N : Nat) : List A → Res := resOf [(0, .v (.sl (.arr 4 (.int .u64))))] (fun x => porterlaw17_BlocksOf N x.1) (oRes (.v .bool) 1)

theorem porterlaw17_BlocksOf_ct (N : Nat) : Contract Go.Proofs.Try.prog noGlob 3 (porterlaw17_BlocksOf_res N) :=
  Contract.of (E := porterlaw17_BlocksOf_E N) (H := porterlaw17_BlocksOf_t N) (L := porterlaw17_BlocksOf_L) (N := N) (body := porterlaw17_BlocksOf_body) (K := (kRes (.v .bool) 1)) (porterlaw17_BlocksOf_Eok N) Go.Proofs.Try.func3 (by kernel_rfl) (by decide) (fun _ hb => TabOk.nil) (fun x y h => by rw [porterlaw17_BlocksOf_link]; exact h) (kRes_ok (s := (.v .bool)) (m := 1))

abbrev porterref17_Right_R : Type := Bool

noncomputable def porterref17_Right_body : Code := (Go.Proofs.Try.f16.body).getD .skip

noncomputable def porterref17_Right_L : List (List Nat × List Nat) := [([0], [0]), ([0, 0, 1], [7, 0]), ([1, 0, 1], [0]), ([0, 0, 1, 0, 1], [2]), ([1, 0, 1, 0, 1], [2]), ([0, 1, 1], [0, 3]), ([0, 0, 1, 1, 1], [4, 0, 3]), ([0, 1, 0, 1, 1, 1], [4, 0, 3]), ([0, 0, 0, 0, 1, 0, 1, 1, 1], [9, 0, 4, 3]), ([1, 0, 0, 0, 1, 0, 1, 1, 1], [0, 4, 3]), ([1, 1, 0, 0, 0, 1, 0, 1, 1, 1], []), ([0, 0, 0, 0, 1, 0, 0, 1, 0, 1, 1, 1], [25, 0, 4, 3]), ([1, 0, 0, 0, 1, 0, 0, 1, 0, 1, 1, 1], [0, 4, 3]), ([0, 0, 1, 0, 0, 0, 1, 0, 0, 1, 0, 1, 1, 1], [2]), ([1, 0, 1, 0, 0, 0, 1, 0, 0, 1, 0, 1, 1, 1], [2]), ([0, 1, 0, 0, 1, 0, 0, 1, 0, 1, 1, 1], [31, 0, 4, 3]), ([1, 1, 0, 0, 1, 0, 0, 1, 0, 1, 1, 1], [4, 0, 3]), ([0, 1, 1, 0, 0, 1, 0, 0, 1, 0, 1, 1, 1], [4, 0, 3]), ([0, 1, 0, 0, 1, 0, 1, 1, 1], [4, 0, 3]), ([1, 1, 0, 0, 1, 0, 1, 1, 1], [4, 0, 3]), ([1, 0, 1, 1, 1], []), ([0, 1, 1, 1, 1], [2]), ([1, 1, 1, 1, 1], [2])]

noncomputable def porterref17_Right_E (N : Nat) : Env := mkEnv tys noGlob [] [] [] [] false [] [(65, slices_Chunk1_itr N)]

theorem porterref17_Right_Eok (N : Nat) : EnvOk Go.Proofs.Try.prog (porterref17_Right_E N) := mkEnv_ok mixed tys_ok (FnsOk.nil) (ItsOk.cons (slices_Chunk1_it N) (ItsOk.nil))

noncomputable def porterref17_Right_p4 (N : Nat) (b : (List Int)) (top : Int) (i : Int) (k0 : Bool → Option Bool) : Option Bool :=
  cond (Go.Lift.inR i (List.length b))
  (cond (decide ((List.getD b (Int.toNat i) (0 : Int)) < (0 : Int)))
    (k0 true)
    (cond (Go.Lift.inR i (List.length b))
      (k0 (decide ((Go.IntKind.wrap Go.IntKind.i64 (top + (1 : Int))) < (List.getD b (Int.toNat i) (0 : Int)))))
      (none)))
  (none)

noncomputable def porterref17_Right_g4 (N : Nat) (x : denS [(0, .v (.sl (.int .i64))), (2, .v (.int .i64)), (0, .v (.int .i64))]) (K : Ex → List A → Option Bool) : Option Bool :=
  porterref17_Right_p4 N x.1 x.2.1 x.2.2.1 (fun a3 => (K .normal (mkS [(0, .v (.sl (.int .i64))), (2, .v (.int .i64)), (0, .v (.int .i64)), (20, .v .bool)] 10 (x.1, x.2.1, x.2.2.1, a3, ()))))

noncomputable def porterref17_Right_h4 (N : Nat) : Hd Bool := fun st K => (unS [(0, .v (.sl (.int .i64))), (2, .v (.int .i64)), (0, .v (.int .i64))] 31 (restr [0, 4, 3] 0 st)).bind fun x => porterref17_Right_g4 N x K

noncomputable def porterref17_Right_t4 (N : Nat) : Tab Bool := []

theorem porterref17_Right_ok4 {N : Nat} {c : Ctx} (hb : Base Go.Proofs.Try.prog (porterref17_Right_E N) c) : CodeOk Go.Proofs.Try.prog c (nodeAt porterref17_Right_body [0, 0, 0, 0, 1, 0, 0, 1, 0, 1, 1, 1]) (porterref17_Right_h4 N) :=
  piece_ok (s := [(0, .v (.sl (.int .i64))), (2, .v (.int .i64)), (0, .v (.int .i64))]) (m := 31) (g := porterref17_Right_g4 N) [0, 4, 3] (evN_sound hb N (porterref17_Right_t4 N) porterref17_Right_L porterref17_Right_body TabOk.nil [0, 0, 0, 0, 1, 0, 0, 1, 0, 1, 1, 1] _ rfl) (fun x K => by kernel_rfl)

noncomputable def porterref17_Right_p3 (N : Nat) (b : (List Int)) (top : Int) (i : Int) (k0 : Bool → Option Bool) (k1 : Option Bool) : Option Bool :=
  porterref17_Right_p4 N b top i
  (fun x25 => cond x25
    (k0 false)
    (k1))

noncomputable def porterref17_Right_g3 (N : Nat) (x : denS [(0, .v (.sl (.int .i64))), (2, .v (.int .i64)), (0, .v (.int .i64))]) (K : Ex → List A → Option Bool) : Option Bool :=
  porterref17_Right_p3 N x.1 x.2.1 x.2.2.1 (fun a0 => (K .ret (mkS [(2, .v .bool)] 33 (a0, ())))) (K .normal (mkS [(0, .v (.sl (.int .i64))), (2, .v (.int .i64)), (0, .v (.int .i64))] 31 (x.1, x.2.1, x.2.2.1, ())))

noncomputable def porterref17_Right_h3 (N : Nat) : Hd Bool := fun st K => (unS [(0, .v (.sl (.int .i64))), (2, .v (.int .i64)), (0, .v (.int .i64))] 31 (restr [0, 4, 3] 0 st)).bind fun x => porterref17_Right_g3 N x K

noncomputable def porterref17_Right_t3 (N : Nat) : Tab Bool := [([0, 0, 0, 0, 1, 0, 0, 1, 0, 1, 1, 1], porterref17_Right_h4 N)]

theorem porterref17_Right_ok3 {N : Nat} {c : Ctx} (hb : Base Go.Proofs.Try.prog (porterref17_Right_E N) c) : CodeOk Go.Proofs.Try.prog c (nodeAt porterref17_Right_body [0, 0, 0, 1, 0, 0, 1, 0, 1, 1, 1]) (porterref17_Right_h3 N) :=
  piece_ok (s := [(0, .v (.sl (.int .i64))), (2, .v (.int .i64)), (0, .v (.int .i64))]) (m := 31) (g := porterref17_Right_g3 N) [0, 4, 3] (evN_sound hb N (porterref17_Right_t3 N) porterref17_Right_L porterref17_Right_body (TabOk.cons (porterref17_Right_ok4 hb) TabOk.nil) [0, 0, 0, 1, 0, 0, 1, 0, 1, 1, 1] _ rfl) (fun x K => by kernel_rfl)

noncomputable def porterref17_Right_p2 (N : Nat) (b : (List Int)) (top : Int) (i : Int) (k0 : Bool → Option Bool) (k1 : Int → Option Bool) : Option Bool :=
  porterref17_Right_p3 N b top i
  (fun x2 => k0 x2)
  (cond (Go.Lift.inR i (List.length b))
    (cond (decide (top < (List.getD b (Int.toNat i) (0 : Int))))
      (cond (Go.Lift.inR i (List.length b))
        (k1 (List.getD b (Int.toNat i) (0 : Int)))
        (none))
      (k1 top))
    (none))

noncomputable def porterref17_Right_g2 (N : Nat) (x : denS [(0, .v (.sl (.int .i64))), (2, .v (.int .i64)), (0, .v (.int .i64))]) (K : Ex → List A → Option Bool) : Option Bool :=
  porterref17_Right_p2 N x.1 x.2.1 x.2.2.1 (fun a0 => (K .ret (mkS [(2, .v .bool)] 33 (a0, ())))) (fun a1 => (K .normal (mkS [(0, .v (.sl (.int .i64))), (2, .v (.int .i64)), (0, .v (.int .i64))] 31 (x.1, a1, x.2.2.1, ()))))

noncomputable def porterref17_Right_h2 (N : Nat) : Hd Bool := fun st K => (unS [(0, .v (.sl (.int .i64))), (2, .v (.int .i64)), (0, .v (.int .i64))] 31 (restr [0, 4, 3] 0 st)).bind fun x => porterref17_Right_g2 N x K

noncomputable def porterref17_Right_t2 (N : Nat) : Tab Bool := [([0, 0, 0, 1, 0, 0, 1, 0, 1, 1, 1], porterref17_Right_h3 N)]

theorem porterref17_Right_ok2 {N : Nat} {c : Ctx} (hb : Base Go.Proofs.Try.prog (porterref17_Right_E N) c) : CodeOk Go.Proofs.Try.prog c (nodeAt porterref17_Right_body [0, 1, 0, 0, 1, 0, 1, 1, 1]) (porterref17_Right_h2 N) :=
  piece_ok (s := [(0, .v (.sl (.int .i64))), (2, .v (.int .i64)), (0, .v (.int .i64))]) (m := 31) (g := porterref17_Right_g2 N) [0, 4, 3] (evN_sound hb N (porterref17_Right_t2 N) porterref17_Right_L porterref17_Right_body (TabOk.cons (porterref17_Right_ok3 hb) TabOk.nil) [0, 1, 0, 0, 1, 0, 1, 1, 1] _ rfl) (fun x K => by kernel_rfl)

noncomputable def porterref17_Right_s1 (N : Nat) (b : (List Int)) (top : Int) (i : Int) (rec : Int → Int → Option Bool) (k0 : Bool → Option Bool) (k1 : Option Bool) : Option Bool :=
  cond (decide (i < (256 : Int)))
  (porterref17_Right_p2 N b top i
    (fun x2 => k0 x2)
    (fun top1 => rec top1 (Go.IntKind.wrap Go.IntKind.i64 (i + (1 : Int)))))
  (k1)

noncomputable def porterref17_Right_p1 (N : Nat) (b : (List Int)) (top : Int) (i : Int) (k0 : Bool → Option Bool) (k1 : Option Bool) : Option Bool :=
  iter (fun (v : (Int × Int)) r => porterref17_Right_s1 N b v.1 v.2 (fun top i => (r (top, i))) k0 k1) N (top, i)

noncomputable def porterref17_Right_g1 (N : Nat) (i : (List Int)) (v : (Int × Int)) (r : (Int × Int) → Option Bool) (K : Ex → List A → Option Bool) : Option Bool :=
  porterref17_Right_s1 N i v.1 v.2 (fun top i => (r (top, i))) (fun a0 => (K .ret (mkS [(2, .v .bool)] 33 (a0, ())))) (K (.exit 0) (mkS [] 36 ()))

noncomputable def porterref17_Right_h1 (N : Nat) : Hd Bool := fun st K => (unS [(0, .v (.sl (.int .i64))), (2, .v (.int .i64)), (0, .v (.int .i64))] 31 (restr [4, 0, 3] 0 st)).bind fun x => iter (fun v r => porterref17_Right_g1 N ((fun x => x.1) x) v r K) N ((fun x => (x.2.1, x.2.2.1)) x)

noncomputable def porterref17_Right_t1 (N : Nat) : Tab Bool := [([0, 1, 0, 0, 1, 0, 1, 1, 1], porterref17_Right_h2 N)]

theorem porterref17_Right_ok1 {N : Nat} {c : Ctx} (hb : Base Go.Proofs.Try.prog (porterref17_Right_E N) c) : CodeOk Go.Proofs.Try.prog c (nodeAt porterref17_Right_body [0, 1, 0, 1, 1, 1]) (porterref17_Right_h1 N) :=
  loop_ok (s := [(0, .v (.sl (.int .i64))), (2, .v (.int .i64)), (0, .v (.int .i64))]) (m := 31) (porterref17_Right_g1 N) [4, 0, 3] N (fun x => x.1) (fun x => (x.2.1, x.2.2.1)) (fun i v => (i, v.1, v.2, ())) (fun _ => rfl) (evN_sound hb N (porterref17_Right_t1 N) porterref17_Right_L porterref17_Right_body (TabOk.cons (porterref17_Right_ok2 hb) TabOk.nil) [0, 0, 1, 0, 1, 1, 1] _ rfl) (fun i v r K => by kernel_rfl)

noncomputable def porterref17_Right (N : Nat) (b : (List Int)) : Option Bool :=
  cond ((((List.length b) : Nat) : Int) != (256 : Int))
  (some false)
  (porterref17_Right_p1 N b (-(1 : Int)) (0 : Int)
    (fun x2 => some x2)
    (some true))

noncomputable def porterref17_Right_t (N : Nat) : Tab Bool := [([0, 1, 0, 1, 1, 1], porterref17_Right_h1 N)]

theorem porterref17_Right_link (N : Nat) (x : denS [(0, .v (.sl (.int .i64)))]) : evFX (porterref17_Right_E N) N (porterref17_Right_t N) porterref17_Right_L Go.Proofs.Try.f16 (mkS [(0, .v (.sl (.int .i64)))] 0 x) (kRes (.v .bool) 1) = porterref17_Right N x.1 := by kernel_rfl

noncomputable def porterref17_Right_res (N : Nat) : List A → Res := resOf [(0, .v (.sl (.int .i64)))] (fun x => porterref17_Right N x.1) (oRes (.v .bool) 1)

theorem porterref17_Right_ct (N : Nat) : Contract Go.Proofs.Try.prog noGlob 16 (porterref17_Right_res N) :=
  Contract.of (E := porterref17_Right_E N) (H := porterref17_Right_t N) (L := porterref17_Right_L) (N := N) (body := porterref17_Right_body) (K := (kRes (.v .bool) 1)) (porterref17_Right_Eok N) Go.Proofs.Try.func16 (by kernel_rfl) (by decide) (fun _ hb => (TabOk.cons (porterref17_Right_ok1 hb) TabOk.nil)) (fun x y h => by rw [porterref17_Right_link]; exact h) (kRes_ok (s := (.v .bool)) (m := 1))

abbrev porterref17_Count_R : Type := Int

noncomputable def porterref17_Count_body : Code := (Go.Proofs.Try.f18.body).getD .skip

noncomputable def porterref17_Count_L : List (List Nat × List Nat) := [([0], [0]), ([0, 1], [0, 3]), ([0, 0, 1, 1], [4, 0, 3]), ([0, 1, 0, 1, 1], [4, 0, 3]), ([0, 0, 0, 0, 1, 0, 1, 1], [12, 0, 4, 3]), ([1, 0, 0, 0, 1, 0, 1, 1], [0, 4, 3]), ([1, 1, 0, 0, 0, 1, 0, 1, 1], [3]), ([0, 0, 0, 1, 0, 0, 1, 0, 1, 1], [20, 0, 4, 3]), ([1, 0, 0, 1, 0, 0, 1, 0, 1, 1], [4, 0, 3]), ([0, 1, 0, 0, 1, 0, 0, 1, 0, 1, 1], [4, 0, 3]), ([0, 1, 0, 0, 1, 0, 1, 1], [4, 0, 3]), ([1, 1, 0, 0, 1, 0, 1, 1], [4, 0, 3]), ([1, 0, 1, 1], [3]), ([0, 1, 1, 1], [2]), ([1, 1, 1, 1], [2])]

noncomputable def porterref17_Count_E (N : Nat) : Env := mkEnv tys noGlob [(16, porterref17_Right_res N)] [] [] [] false [] [(65, slices_Chunk1_itr N)]

theorem porterref17_Count_Eok (N : Nat) : EnvOk Go.Proofs.Try.prog (porterref17_Count_E N) := mkEnv_ok mixed tys_ok (FnsOk.cons (porterref17_Right_ct N) (FnsOk.nil)) (ItsOk.cons (slices_Chunk1_it N) (ItsOk.nil))

noncomputable def porterref17_Count_p3 (N : Nat) (b : (List Int)) (top : Int) (i : Int) (k0 : Option Int) (k1 : Option Int) : Option Int :=
  cond (decide (i < (((List.length b) : Nat) : Int)))
  ((porterref17_Right N b).bind fun y =>
    cond y
    (k0)
    (k1))
  (k1)

noncomputable def porterref17_Count_g3 (N : Nat) (x : denS [(0, .v (.sl (.int .i64))), (2, .v (.int .i64)), (0, .v (.int .i64))]) (K : Ex → List A → Option Int) : Option Int :=
  porterref17_Count_p3 N x.1 x.2.1 x.2.2.1 (K .normal (mkS [(0, .v (.sl (.int .i64))), (2, .v (.int .i64)), (0, .v (.int .i64))] 22 (x.1, x.2.1, x.2.2.1, ()))) (K (.exit 0) (mkS [(3, .v (.int .i64))] 23 (x.2.1, ())))

noncomputable def porterref17_Count_h3 (N : Nat) : Hd Int := fun st K => (unS [(0, .v (.sl (.int .i64))), (2, .v (.int .i64)), (0, .v (.int .i64))] 22 (restr [4, 0, 3] 0 st)).bind fun x => porterref17_Count_g3 N x K

noncomputable def porterref17_Count_t3 (N : Nat) : Tab Int := []

theorem porterref17_Count_ok3 {N : Nat} {c : Ctx} (hb : Base Go.Proofs.Try.prog (porterref17_Count_E N) c) : CodeOk Go.Proofs.Try.prog c (nodeAt porterref17_Count_body [0, 0, 0, 1, 0, 1, 1]) (porterref17_Count_h3 N) :=
  piece_ok (s := [(0, .v (.sl (.int .i64))), (2, .v (.int .i64)), (0, .v (.int .i64))]) (m := 22) (g := porterref17_Count_g3 N) [4, 0, 3] (evN_sound hb N (porterref17_Count_t3 N) porterref17_Count_L porterref17_Count_body TabOk.nil [0, 0, 0, 1, 0, 1, 1] _ rfl) (fun x K => by kernel_rfl)

noncomputable def porterref17_Count_p4 (N : Nat) (b : (List Int)) (top : Int) (i : Int) (k0 : Int → Option Int) : Option Int :=
  cond (Go.Lift.inR i (List.length b))
  (cond (decide (top < (List.getD b (Int.toNat i) (0 : Int))))
    (cond (Go.Lift.inR i (List.length b))
      (k0 (List.getD b (Int.toNat i) (0 : Int)))
      (none))
    (k0 top))
  (none)

noncomputable def porterref17_Count_g4 (N : Nat) (x : denS [(0, .v (.sl (.int .i64))), (2, .v (.int .i64)), (0, .v (.int .i64))]) (K : Ex → List A → Option Int) : Option Int :=
  porterref17_Count_p4 N x.1 x.2.1 x.2.2.1 (fun a1 => (K .normal (mkS [(0, .v (.sl (.int .i64))), (2, .v (.int .i64)), (0, .v (.int .i64))] 22 (x.1, a1, x.2.2.1, ()))))

noncomputable def porterref17_Count_h4 (N : Nat) : Hd Int := fun st K => (unS [(0, .v (.sl (.int .i64))), (2, .v (.int .i64)), (0, .v (.int .i64))] 22 (restr [0, 4, 3] 0 st)).bind fun x => porterref17_Count_g4 N x K

noncomputable def porterref17_Count_t4 (N : Nat) : Tab Int := []

theorem porterref17_Count_ok4 {N : Nat} {c : Ctx} (hb : Base Go.Proofs.Try.prog (porterref17_Count_E N) c) : CodeOk Go.Proofs.Try.prog c (nodeAt porterref17_Count_body [0, 1, 0, 0, 1, 0, 1, 1]) (porterref17_Count_h4 N) :=
  piece_ok (s := [(0, .v (.sl (.int .i64))), (2, .v (.int .i64)), (0, .v (.int .i64))]) (m := 22) (g := porterref17_Count_g4 N) [0, 4, 3] (evN_sound hb N (porterref17_Count_t4 N) porterref17_Count_L porterref17_Count_body TabOk.nil [0, 1, 0, 0, 1, 0, 1, 1] _ rfl) (fun x K => by kernel_rfl)

noncomputable def porterref17_Count_s2 (N : Nat) (b : (List Int)) (top : Int) (i : Int) (rec : Int → Int → Option Int) (k0 : Int → Option Int) : Option Int :=
  porterref17_Count_p3 N b top i
  (porterref17_Count_p4 N b top i
    (fun top1 => rec top1 (Go.IntKind.wrap Go.IntKind.i64 (i + (1 : Int)))))
  (k0 top)

noncomputable def porterref17_Count_p2 (N : Nat) (b : (List Int)) (top : Int) (i : Int) (k0 : Int → Option Int) : Option Int :=
  iter (fun (v : (Int × Int)) r => porterref17_Count_s2 N b v.1 v.2 (fun top i => (r (top, i))) k0) N (top, i)

noncomputable def porterref17_Count_g2 (N : Nat) (i : (List Int)) (v : (Int × Int)) (r : (Int × Int) → Option Int) (K : Ex → List A → Option Int) : Option Int :=
  porterref17_Count_s2 N i v.1 v.2 (fun top i => (r (top, i))) (fun a0 => (K (.exit 0) (mkS [(3, .v (.int .i64))] 23 (a0, ()))))

noncomputable def porterref17_Count_h2 (N : Nat) : Hd Int := fun st K => (unS [(0, .v (.sl (.int .i64))), (2, .v (.int .i64)), (0, .v (.int .i64))] 22 (restr [4, 0, 3] 0 st)).bind fun x => iter (fun v r => porterref17_Count_g2 N ((fun x => x.1) x) v r K) N ((fun x => (x.2.1, x.2.2.1)) x)

noncomputable def porterref17_Count_t2 (N : Nat) : Tab Int := [([0, 0, 0, 1, 0, 1, 1], porterref17_Count_h3 N), ([0, 1, 0, 0, 1, 0, 1, 1], porterref17_Count_h4 N)]

theorem porterref17_Count_ok2 {N : Nat} {c : Ctx} (hb : Base Go.Proofs.Try.prog (porterref17_Count_E N) c) : CodeOk Go.Proofs.Try.prog c (nodeAt porterref17_Count_body [0, 1, 0, 1, 1]) (porterref17_Count_h2 N) :=
  loop_ok (s := [(0, .v (.sl (.int .i64))), (2, .v (.int .i64)), (0, .v (.int .i64))]) (m := 22) (porterref17_Count_g2 N) [4, 0, 3] N (fun x => x.1) (fun x => (x.2.1, x.2.2.1)) (fun i v => (i, v.1, v.2, ())) (fun _ => rfl) (evN_sound hb N (porterref17_Count_t2 N) porterref17_Count_L porterref17_Count_body (TabOk.cons (porterref17_Count_ok3 hb) (TabOk.cons (porterref17_Count_ok4 hb) TabOk.nil)) [0, 0, 1, 0, 1, 1] _ rfl) (fun i v r K => by kernel_rfl)

noncomputable def porterref17_Count_p1 (N : Nat) (b : (List Int)) (top : Int) (k0 : Int → Option Int) : Option Int :=
  porterref17_Count_p2 N b top (0 : Int)
  (fun top1 => k0 top1)

noncomputable def porterref17_Count_g1 (N : Nat) (x : denS [(0, .v (.sl (.int .i64))), (2, .v (.int .i64))]) (K : Ex → List A → Option Int) : Option Int :=
  porterref17_Count_p1 N x.1 x.2.1 (fun a0 => (K .normal (mkS [(3, .v (.int .i64))] 23 (a0, ()))))

noncomputable def porterref17_Count_h1 (N : Nat) : Hd Int := fun st K => (unS [(0, .v (.sl (.int .i64))), (2, .v (.int .i64))] 23 (restr [0, 3] 0 st)).bind fun x => porterref17_Count_g1 N x K

noncomputable def porterref17_Count_t1 (N : Nat) : Tab Int := [([0, 1, 0, 1, 1], porterref17_Count_h2 N)]

theorem porterref17_Count_ok1 {N : Nat} {c : Ctx} (hb : Base Go.Proofs.Try.prog (porterref17_Count_E N) c) : CodeOk Go.Proofs.Try.prog c (nodeAt porterref17_Count_body [0, 1, 1]) (porterref17_Count_h1 N) :=
  piece_ok (s := [(0, .v (.sl (.int .i64))), (2, .v (.int .i64))]) (m := 23) (g := porterref17_Count_g1 N) [0, 3] (evN_sound hb N (porterref17_Count_t1 N) porterref17_Count_L porterref17_Count_body (TabOk.cons (porterref17_Count_ok2 hb) TabOk.nil) [0, 1, 1] _ rfl) (fun x K => by kernel_rfl)

noncomputable def porterref17_Count (N : Nat) (b : (List Int)) : Option Int :=
  porterref17_Count_p1 N b (-(1 : Int))
  (fun top => some (Go.IntKind.wrap Go.IntKind.i64 (top + (1 : Int))))

noncomputable def porterref17_Count_t (N : Nat) : Tab Int := [([0, 1, 1], porterref17_Count_h1 N)]

theorem porterref17_Count_link (N : Nat) (x : denS [(0, .v (.sl (.int .i64)))]) : evFX (porterref17_Count_E N) N (porterref17_Count_t N) porterref17_Count_L Go.Proofs.Try.f18 (mkS [(0, .v (.sl (.int .i64)))] 0 x) (kRes (.v (.int .i64)) 1) = porterref17_Count N x.1 := by kernel_rfl

noncomputable def porterref17_Count_res (N : Nat) : List A → Res := resOf [(0, .v (.sl (.int .i64)))] (fun x => porterref17_Count N x.1) (oRes (.v (.int .i64)) 1)

theorem porterref17_Count_ct (N : Nat) : Contract Go.Proofs.Try.prog noGlob 18 (porterref17_Count_res N) :=
  Contract.of (E := porterref17_Count_E N) (H := porterref17_Count_t N) (L := porterref17_Count_L) (N := N) (body := porterref17_Count_body) (K := (kRes (.v (.int .i64)) 1)) (porterref17_Count_Eok N) Go.Proofs.Try.func18 (by kernel_rfl) (by decide) (fun _ hb => (TabOk.cons (porterref17_Count_ok1 hb) TabOk.nil)) (fun x y h => by rw [porterref17_Count_link]; exact h) (kRes_ok (s := (.v (.int .i64))) (m := 1))

abbrev blocks_number2_R : Type := (List Int)

noncomputable def blocks_number2_body : Code := (Go.Proofs.Try.f50.body).getD .skip

noncomputable def blocks_number2_L : List (List Nat × List Nat) := [([0], [0]), ([0, 1], [0, 3]), ([0, 1, 1], [0, 3, 4]), ([0, 0, 1, 1, 1], [15, 14, 13, 3, 4]), ([0, 1, 0, 1, 1, 1], [15, 14, 13, 3, 4]), ([0, 0, 0, 1, 0, 1, 1, 1], [16, 15, 13, 3, 4, 14]), ([0, 1, 0, 0, 1, 0, 1, 1, 1], [15, 13, 3, 4, 14]), ([1, 0, 1, 0, 0, 1, 0, 1, 1, 1], [4]), ([0, 0, 0, 1, 1, 0, 0, 1, 0, 1, 1, 1], [3, 6, 4, 5, 15, 14, 13]), ([0, 1, 0, 0, 1, 1, 0, 0, 1, 0, 1, 1, 1], [8, 3, 6, 4, 5, 15, 14, 13, 7]), ([0, 0, 1, 1, 0, 0, 1, 1, 0, 0, 1, 0, 1, 1, 1], [27, 3, 6, 4, 5, 15, 14, 13, 7]), ([1, 0, 1, 1, 0, 0, 1, 1, 0, 0, 1, 0, 1, 1, 1], [4, 5, 7, 15, 14, 13, 3]), ([0, 0, 1, 0, 1, 1, 0, 0, 1, 1, 0, 0, 1, 0, 1, 1, 1], [3, 6, 7, 4, 5, 15, 14, 13]), ([1, 0, 1, 0, 1, 1, 0, 0, 1, 1, 0, 0, 1, 0, 1, 1, 1], [4, 5, 7, 15, 14, 13, 3]), ([1, 1, 1, 0, 0, 1, 1, 0, 0, 1, 0, 1, 1, 1], [15, 14, 13, 3, 4]), ([0, 1, 1, 0, 0, 1, 0, 1, 1, 1], [15, 14, 13, 3, 4]), ([1, 1, 1, 0, 0, 1, 0, 1, 1, 1], [15, 14, 13, 3, 4]), ([1, 0, 1, 1, 1], [4]), ([0, 1, 1, 1, 1], [2]), ([1, 1, 1, 1, 1], [2])]

noncomputable def blocks_number2_E (N : Nat) : Env := mkEnv tys noGlob [] [(4, (.int .i64)), (2, (.int .i64))] [] [] false [] [(65, slices_Chunk1_itr N)]

theorem blocks_number2_Eok (N : Nat) : EnvOk Go.Proofs.Try.prog (blocks_number2_E N) := mkEnv_ok mixed tys_ok (FnsOk.nil) (ItsOk.cons (slices_Chunk1_it N) (ItsOk.nil))

noncomputable def blocks_number2_p2 (N : Nat) (classes : (Option (List ((List Int) × Int)))) (b : (List Int)) (i : Int) (key : (List Int)) (class_ : Int) (seen : Bool) (x13 : (List (List Int))) (x14 : Int) (x15 : Int) (k0 : (Option (List ((List Int) × Int))) → Int → Option (List Int)) : Option (List Int) :=
  cond (!seen)
  (cond (Option.isSome classes)
    (k0 (Option.some (Go.Lift.setM (Go.Lift.eqD (Go.Lift.T.arr 2 (Go.Lift.T.int Go.IntKind.i64))) key (((List.length (Option.getD classes ([] : List ((List Int) × Int)))) : Nat) : Int) (Option.getD classes ([] : List ((List Int) × Int))))) (((List.length (Option.getD classes ([] : List ((List Int) × Int)))) : Nat) : Int))
    (none))
  (k0 classes class_)

noncomputable def blocks_number2_g2 (N : Nat) (x : denS [(3, .ov (.mp (.arr 2 (.int .i64)) (.int .i64))), (0, .row (.int .i64)), (0, .v (.int .i64)), (0, .box (.arr 2 (.int .i64))), (0, .v (.int .i64)), (0, .v .bool), (4, .v (.sl (.arr 2 (.int .i64)))), (0, .v (.int .i64)), (0, .v (.int .i64))]) (K : Ex → List A → Option (List Int)) : Option (List Int) :=
  blocks_number2_p2 N x.1 x.2.1 x.2.2.1 x.2.2.2.1 x.2.2.2.2.1 x.2.2.2.2.2.1 x.2.2.2.2.2.2.1 x.2.2.2.2.2.2.2.1 x.2.2.2.2.2.2.2.2.1 (fun a0 a3 => (K .normal (mkS [(3, .ov (.mp (.arr 2 (.int .i64)) (.int .i64))), (0, .row (.int .i64)), (0, .v (.int .i64)), (1, .v (.int .i64)), (5, .v (.sl (.arr 2 (.int .i64)))), (0, .v (.int .i64)), (0, .v (.int .i64))] 23 (a0, x.2.1, x.2.2.1, a3, x.2.2.2.2.2.2.1, x.2.2.2.2.2.2.2.1, x.2.2.2.2.2.2.2.2.1, ()))))

noncomputable def blocks_number2_h2 (N : Nat) : Hd (List Int) := fun st K => (unS [(3, .ov (.mp (.arr 2 (.int .i64)) (.int .i64))), (0, .row (.int .i64)), (0, .v (.int .i64)), (0, .box (.arr 2 (.int .i64))), (0, .v (.int .i64)), (0, .v .bool), (4, .v (.sl (.arr 2 (.int .i64)))), (0, .v (.int .i64)), (0, .v (.int .i64))] 23 (restr [8, 3, 6, 4, 5, 15, 14, 13, 7] 0 st)).bind fun x => blocks_number2_g2 N x K

noncomputable def blocks_number2_t2 (N : Nat) : Tab (List Int) := []

theorem blocks_number2_ok2 {N : Nat} {c : Ctx} (hb : Base Go.Proofs.Try.prog (blocks_number2_E N) c) : CodeOk Go.Proofs.Try.prog c (nodeAt blocks_number2_body [0, 1, 1, 0, 0, 1, 1, 0, 0, 1, 0, 1, 1, 1]) (blocks_number2_h2 N) :=
  piece_ok (s := [(3, .ov (.mp (.arr 2 (.int .i64)) (.int .i64))), (0, .row (.int .i64)), (0, .v (.int .i64)), (0, .box (.arr 2 (.int .i64))), (0, .v (.int .i64)), (0, .v .bool), (4, .v (.sl (.arr 2 (.int .i64)))), (0, .v (.int .i64)), (0, .v (.int .i64))]) (m := 23) (g := blocks_number2_g2 N) [8, 3, 6, 4, 5, 15, 14, 13, 7] (evN_sound hb N (blocks_number2_t2 N) blocks_number2_L blocks_number2_body TabOk.nil [0, 1, 1, 0, 0, 1, 1, 0, 0, 1, 0, 1, 1, 1] _ rfl) (fun x K => by kernel_rfl)

noncomputable def blocks_number2_s1 (N : Nat) (x13 : (List (List Int))) (x14 : Int) (classes : (Option (List ((List Int) × Int)))) (b : (List Int)) (x15 : Int) (rec : (Option (List ((List Int) × Int))) → (List Int) → Int → Option (List Int)) (k0 : (List Int) → Option (List Int)) : Option (List Int) :=
  cond (decide (x15 < x14))
  (cond (Go.Lift.inR x15 (List.length x13))
    (blocks_number2_p2 N classes b x15 (List.getD x13 (Int.toNat x15) ([] : List Int)) (Option.getD (Go.Lift.lookM (Go.Lift.eqD (Go.Lift.T.arr 2 (Go.Lift.T.int Go.IntKind.i64))) (List.getD x13 (Int.toNat x15) ([] : List Int)) (Option.getD classes ([] : List ((List Int) × Int)))) (0 : Int)) (Option.isSome (Go.Lift.lookM (Go.Lift.eqD (Go.Lift.T.arr 2 (Go.Lift.T.int Go.IntKind.i64))) (List.getD x13 (Int.toNat x15) ([] : List Int)) (Option.getD classes ([] : List ((List Int) × Int))))) x13 x14 x15
      (fun classes1 class_ => cond (Go.Lift.inR x15 (List.length b))
        (cond (decide ((Int.toNat x15) < (List.length b)))
          (rec classes1 (List.set b (Int.toNat x15) class_) (Go.IntKind.wrap Go.IntKind.i64 (x15 + (1 : Int))))
          (none))
        (none)))
    (none))
  (k0 b)

noncomputable def blocks_number2_p1 (N : Nat) (classes : (Option (List ((List Int) × Int)))) (b : (List Int)) (x13 : (List (List Int))) (x14 : Int) (x15 : Int) (k0 : (List Int) → Option (List Int)) : Option (List Int) :=
  iter (fun (v : ((Option (List ((List Int) × Int))) × (List Int) × Int)) r => blocks_number2_s1 N x13 x14 v.1 v.2.1 v.2.2 (fun classes b x15 => (r (classes, b, x15))) k0) N (classes, b, x15)

noncomputable def blocks_number2_g1 (N : Nat) (i : ((List (List Int)) × Int)) (v : ((Option (List ((List Int) × Int))) × (List Int) × Int)) (r : ((Option (List ((List Int) × Int))) × (List Int) × Int) → Option (List Int)) (K : Ex → List A → Option (List Int)) : Option (List Int) :=
  blocks_number2_s1 N i.1 i.2 v.1 v.2.1 v.2.2 (fun classes b x15 => (r (classes, b, x15))) (fun a0 => (K (.exit 0) (mkS [(4, .row (.int .i64))] 34 (a0, ()))))

noncomputable def blocks_number2_h1 (N : Nat) : Hd (List Int) := fun st K => (unS [(3, .ov (.mp (.arr 2 (.int .i64)) (.int .i64))), (0, .row (.int .i64)), (8, .v (.sl (.arr 2 (.int .i64)))), (0, .v (.int .i64)), (0, .v (.int .i64))] 23 (restr [15, 14, 13, 3, 4] 0 st)).bind fun x => iter (fun v r => blocks_number2_g1 N ((fun x => (x.2.2.1, x.2.2.2.1)) x) v r K) N ((fun x => (x.1, x.2.1, x.2.2.2.2.1)) x)

noncomputable def blocks_number2_t1 (N : Nat) : Tab (List Int) := [([0, 1, 1, 0, 0, 1, 1, 0, 0, 1, 0, 1, 1, 1], blocks_number2_h2 N)]

theorem blocks_number2_ok1 {N : Nat} {c : Ctx} (hb : Base Go.Proofs.Try.prog (blocks_number2_E N) c) : CodeOk Go.Proofs.Try.prog c (nodeAt blocks_number2_body [0, 1, 0, 1, 1, 1]) (blocks_number2_h1 N) :=
  loop_ok (s := [(3, .ov (.mp (.arr 2 (.int .i64)) (.int .i64))), (0, .row (.int .i64)), (8, .v (.sl (.arr 2 (.int .i64)))), (0, .v (.int .i64)), (0, .v (.int .i64))]) (m := 23) (blocks_number2_g1 N) [15, 14, 13, 3, 4] N (fun x => (x.2.2.1, x.2.2.2.1)) (fun x => (x.1, x.2.1, x.2.2.2.2.1)) (fun i v => (v.1, v.2.1, i.1, i.2, v.2.2, ())) (fun _ => rfl) (evN_sound hb N (blocks_number2_t1 N) blocks_number2_L blocks_number2_body (TabOk.cons (blocks_number2_ok2 hb) TabOk.nil) [0, 0, 1, 0, 1, 1, 1] _ rfl) (fun i v r K => by kernel_rfl)

noncomputable def blocks_number2 (N : Nat) (keys : (List (List Int))) : Option (List Int) :=
  cond (decide (((0 : Int) ≤ (((List.length keys) : Nat) : Int)) ∧ (((((List.length keys) : Nat) : Int) ≤ (((List.length keys) : Nat) : Int)) ∧ ((((((List.length keys) : Nat) : Int) * (8 : Int)) ≤ (281474976710656 : Int)) ∧ ((((List.length keys) : Nat) : Int) ≤ (9223372036854775807 : Int))))))
  (blocks_number2_p1 N (Option.some ([] : List ((List Int) × Int))) (List.replicate (Int.toNat (((List.length keys) : Nat) : Int)) (0 : Int)) keys (((List.length keys) : Nat) : Int) (0 : Int)
    (fun b => some b))
  (none)

noncomputable def blocks_number2_t (N : Nat) : Tab (List Int) := [([0, 1, 0, 1, 1, 1], blocks_number2_h1 N)]

theorem blocks_number2_link (N : Nat) (x : denS [(0, .v (.sl (.arr 2 (.int .i64))))]) : evFX (blocks_number2_E N) N (blocks_number2_t N) blocks_number2_L Go.Proofs.Try.f50 (mkS [(0, .v (.sl (.arr 2 (.int .i64))))] 0 x) (kRes (.v (.sl (.int .i64))) 1) = blocks_number2 N x.1 := by kernel_rfl

noncomputable def blocks_number2_res (N : Nat) : List A → Res := resOf [(0, .v (.sl (.arr 2 (.int .i64))))] (fun x => blocks_number2 N x.1) (oRes (.v (.sl (.int .i64))) 1)

theorem blocks_number2_ct (N : Nat) : Contract Go.Proofs.Try.prog noGlob 50 (blocks_number2_res N) :=
  Contract.of (E := blocks_number2_E N) (H := blocks_number2_t N) (L := blocks_number2_L) (N := N) (body := blocks_number2_body) (K := (kRes (.v (.sl (.int .i64))) 1)) (blocks_number2_Eok N) Go.Proofs.Try.func50 (by kernel_rfl) (by decide) (fun _ hb => (TabOk.cons (blocks_number2_ok1 hb) TabOk.nil)) (fun x y h => by rw [blocks_number2_link]; exact h) (kRes_ok (s := (.v (.sl (.int .i64)))) (m := 1))

abbrev blocks_Meet_R : Type := (List Int)

noncomputable def blocks_Meet_body : Code := (Go.Proofs.Try.f20.body).getD .skip

noncomputable def blocks_Meet_L : List (List Nat × List Nat) := [([0], [0, 1]), ([0, 0, 1], [14, 0, 1]), ([1, 0, 1], [0, 1]), ([0, 0, 1, 0, 1], [4]), ([1, 0, 1, 0, 1], [4]), ([0, 1, 1], [5, 0, 1]), ([0, 0, 1, 1, 1], [18, 17, 5, 0, 1]), ([0, 1, 0, 1, 1, 1], [18, 17, 5, 0, 1]), ([0, 0, 0, 1, 0, 1, 1, 1], [19, 18, 5, 0, 1, 17]), ([0, 1, 0, 0, 1, 0, 1, 1, 1], [18, 5, 0, 1, 17]), ([1, 0, 1, 0, 0, 1, 0, 1, 1, 1], [5]), ([0, 0, 0, 1, 1, 0, 0, 1, 0, 1, 1, 1], [5, 6, 0, 1, 18, 17]), ([1, 0, 0, 1, 1, 0, 0, 1, 0, 1, 1, 1], [18, 17, 5, 0, 1]), ([0, 1, 1, 0, 0, 1, 0, 1, 1, 1], [18, 17, 5, 0, 1]), ([1, 1, 1, 0, 0, 1, 0, 1, 1, 1], [18, 17, 5, 0, 1]), ([1, 0, 1, 1, 1], [5]), ([0, 1, 1, 1, 1], [4]), ([1, 1, 1, 1, 1], [4])]

noncomputable def blocks_Meet_E (N : Nat) : Env := mkEnv tys noGlob [(50, blocks_number2_res N), (15, blocks_Right_res N)] [(5, (.arr 2 (.int .i64))), (4, (.int .i64))] [] [] false [] [(65, slices_Chunk1_itr N)]

theorem blocks_Meet_Eok (N : Nat) : EnvOk Go.Proofs.Try.prog (blocks_Meet_E N) := mkEnv_ok mixed tys_ok (FnsOk.cons (blocks_number2_ct N) (FnsOk.cons (blocks_Right_ct N) (FnsOk.nil))) (ItsOk.cons (slices_Chunk1_it N) (ItsOk.nil))

noncomputable def blocks_Meet_p2 (N : Nat) (a : (List Int)) (b : (List Int)) (k0 : Bool → Option (List Int)) : Option (List Int) :=
  (blocks_Right N a).bind fun y =>
  cond (!y)
  (k0 true)
  ((blocks_Right N b).bind fun y1 =>
    k0 (!y1))

noncomputable def blocks_Meet_g2 (N : Nat) (x : denS [(0, .v (.sl (.int .i64))), (0, .v (.sl (.int .i64)))]) (K : Ex → List A → Option (List Int)) : Option (List Int) :=
  blocks_Meet_p2 N x.1 x.2.1 (fun a2 => (K .normal (mkS [(0, .v (.sl (.int .i64))), (0, .v (.sl (.int .i64))), (12, .v .bool)] 21 (x.1, x.2.1, a2, ()))))

noncomputable def blocks_Meet_h2 (N : Nat) : Hd (List Int) := fun st K => (unS [(0, .v (.sl (.int .i64))), (0, .v (.sl (.int .i64)))] 34 (restr [0, 1] 0 st)).bind fun x => blocks_Meet_g2 N x K

noncomputable def blocks_Meet_t2 (N : Nat) : Tab (List Int) := []

theorem blocks_Meet_ok2 {N : Nat} {c : Ctx} (hb : Base Go.Proofs.Try.prog (blocks_Meet_E N) c) : CodeOk Go.Proofs.Try.prog c (nodeAt blocks_Meet_body [0, 0, 1]) (blocks_Meet_h2 N) :=
  piece_ok (s := [(0, .v (.sl (.int .i64))), (0, .v (.sl (.int .i64)))]) (m := 34) (g := blocks_Meet_g2 N) [0, 1] (evN_sound hb N (blocks_Meet_t2 N) blocks_Meet_L blocks_Meet_body TabOk.nil [0, 0, 1] _ rfl) (fun x K => by kernel_rfl)

noncomputable def blocks_Meet_p1 (N : Nat) (a : (List Int)) (b : (List Int)) (k0 : (List Int) → Option (List Int)) (k1 : Option (List Int)) : Option (List Int) :=
  blocks_Meet_p2 N a b
  (fun x14 => cond x14
    (k0 ([] : List Int))
    (k1))

noncomputable def blocks_Meet_g1 (N : Nat) (x : denS [(0, .v (.sl (.int .i64))), (0, .v (.sl (.int .i64)))]) (K : Ex → List A → Option (List Int)) : Option (List Int) :=
  blocks_Meet_p1 N x.1 x.2.1 (fun a0 => (K .ret (mkS [(4, .row (.int .i64))] 31 (a0, ())))) (K .normal (mkS [(0, .v (.sl (.int .i64))), (0, .v (.sl (.int .i64)))] 34 (x.1, x.2.1, ())))

noncomputable def blocks_Meet_h1 (N : Nat) : Hd (List Int) := fun st K => (unS [(0, .v (.sl (.int .i64))), (0, .v (.sl (.int .i64)))] 34 (restr [0, 1] 0 st)).bind fun x => blocks_Meet_g1 N x K

noncomputable def blocks_Meet_t1 (N : Nat) : Tab (List Int) := [([0, 0, 1], blocks_Meet_h2 N)]

theorem blocks_Meet_ok1 {N : Nat} {c : Ctx} (hb : Base Go.Proofs.Try.prog (blocks_Meet_E N) c) : CodeOk Go.Proofs.Try.prog c (nodeAt blocks_Meet_body [0, 1]) (blocks_Meet_h1 N) :=
  piece_ok (s := [(0, .v (.sl (.int .i64))), (0, .v (.sl (.int .i64)))]) (m := 34) (g := blocks_Meet_g1 N) [0, 1] (evN_sound hb N (blocks_Meet_t1 N) blocks_Meet_L blocks_Meet_body (TabOk.cons (blocks_Meet_ok2 hb) TabOk.nil) [0, 1] _ rfl) (fun x K => by kernel_rfl)

noncomputable def blocks_Meet_s3 (N : Nat) (a : (List Int)) (b : (List Int)) (x17 : Int) (pairs : (List (List Int))) (x18 : Int) (rec : (List (List Int)) → Int → Option (List Int)) (k0 : (List (List Int)) → Option (List Int)) : Option (List Int) :=
  cond (decide (x18 < x17))
  (cond (Go.Lift.inR x18 (List.length a))
    (cond (Go.Lift.inR x18 (List.length b))
      (cond (Go.Lift.inR x18 (List.length pairs))
        (cond (decide ((Int.toNat x18) < (List.length pairs)))
          (rec (List.set pairs (Int.toNat x18) ([(List.getD a (Int.toNat x18) (0 : Int)), (List.getD b (Int.toNat x18) (0 : Int))] : List Int)) (Go.IntKind.wrap Go.IntKind.i64 (x18 + (1 : Int))))
          (none))
        (none))
      (none))
    (none))
  (k0 pairs)

noncomputable def blocks_Meet_p3 (N : Nat) (a : (List Int)) (b : (List Int)) (pairs : (List (List Int))) (x17 : Int) (x18 : Int) (k0 : (List (List Int)) → Option (List Int)) : Option (List Int) :=
  iter (fun (v : ((List (List Int)) × Int)) r => blocks_Meet_s3 N a b x17 v.1 v.2 (fun pairs x18 => (r (pairs, x18))) k0) N (pairs, x18)

noncomputable def blocks_Meet_g3 (N : Nat) (i : ((List Int) × (List Int) × Int)) (v : ((List (List Int)) × Int)) (r : ((List (List Int)) × Int) → Option (List Int)) (K : Ex → List A → Option (List Int)) : Option (List Int) :=
  blocks_Meet_s3 N i.1 i.2.1 i.2.2 v.1 v.2 (fun pairs x18 => (r (pairs, x18))) (fun a0 => (K (.exit 0) (mkS [(5, .row (.arr 2 (.int .i64)))] 30 (a0, ()))))

noncomputable def blocks_Meet_h3 (N : Nat) : Hd (List Int) := fun st K => (unS [(0, .v (.sl (.int .i64))), (0, .v (.sl (.int .i64))), (3, .row (.arr 2 (.int .i64))), (11, .v (.int .i64)), (0, .v (.int .i64))] 17 (restr [18, 17, 5, 0, 1] 0 st)).bind fun x => iter (fun v r => blocks_Meet_g3 N ((fun x => (x.1, x.2.1, x.2.2.2.1)) x) v r K) N ((fun x => (x.2.2.1, x.2.2.2.2.1)) x)

noncomputable def blocks_Meet_t3 (N : Nat) : Tab (List Int) := []

theorem blocks_Meet_ok3 {N : Nat} {c : Ctx} (hb : Base Go.Proofs.Try.prog (blocks_Meet_E N) c) : CodeOk Go.Proofs.Try.prog c (nodeAt blocks_Meet_body [0, 1, 0, 1, 1, 1]) (blocks_Meet_h3 N) :=
  loop_ok (s := [(0, .v (.sl (.int .i64))), (0, .v (.sl (.int .i64))), (3, .row (.arr 2 (.int .i64))), (11, .v (.int .i64)), (0, .v (.int .i64))]) (m := 17) (blocks_Meet_g3 N) [18, 17, 5, 0, 1] N (fun x => (x.1, x.2.1, x.2.2.2.1)) (fun x => (x.2.2.1, x.2.2.2.2.1)) (fun i v => (i.1, i.2.1, v.1, i.2.2, v.2, ())) (fun _ => rfl) (evN_sound hb N (blocks_Meet_t3 N) blocks_Meet_L blocks_Meet_body TabOk.nil [0, 0, 1, 0, 1, 1, 1] _ rfl) (fun i v r K => by kernel_rfl)

noncomputable def blocks_Meet (N : Nat) (a : (List Int)) (b : (List Int)) : Option (List Int) :=
  blocks_Meet_p1 N a b
  (fun x4 => some x4)
  (blocks_Meet_p3 N a b (List.replicate 256 ([(0 : Int), (0 : Int)] : List Int)) (((List.length (List.replicate 256 ([(0 : Int), (0 : Int)] : List Int))) : Nat) : Int) (0 : Int)
    (fun pairs => (blocks_number2 N pairs).bind fun y =>
      some y))

noncomputable def blocks_Meet_t (N : Nat) : Tab (List Int) := [([0, 1], blocks_Meet_h1 N), ([0, 1, 0, 1, 1, 1], blocks_Meet_h3 N)]

theorem blocks_Meet_link (N : Nat) (x : denS [(0, .v (.sl (.int .i64))), (0, .v (.sl (.int .i64)))]) : evFX (blocks_Meet_E N) N (blocks_Meet_t N) blocks_Meet_L Go.Proofs.Try.f20 (mkS [(0, .v (.sl (.int .i64))), (0, .v (.sl (.int .i64)))] 0 x) (kRes (.v (.sl (.int .i64))) 2) = blocks_Meet N x.1 x.2.1 := by kernel_rfl

noncomputable def blocks_Meet_res (N : Nat) : List A → Res := resOf [(0, .v (.sl (.int .i64))), (0, .v (.sl (.int .i64)))] (fun x => blocks_Meet N x.1 x.2.1) (oRes (.v (.sl (.int .i64))) 2)

theorem blocks_Meet_ct (N : Nat) : Contract Go.Proofs.Try.prog noGlob 20 (blocks_Meet_res N) :=
  Contract.of (E := blocks_Meet_E N) (H := blocks_Meet_t N) (L := blocks_Meet_L) (N := N) (body := blocks_Meet_body) (K := (kRes (.v (.sl (.int .i64))) 2)) (blocks_Meet_Eok N) Go.Proofs.Try.func20 (by kernel_rfl) (by decide) (fun _ hb => (TabOk.cons (blocks_Meet_ok1 hb) (TabOk.cons (blocks_Meet_ok3 hb) TabOk.nil))) (fun x y h => by rw [blocks_Meet_link]; exact h) (kRes_ok (s := (.v (.sl (.int .i64)))) (m := 2))

abbrev porterref17_Meet_R : Type := (List Int)

noncomputable def porterref17_Meet_body : Code := (Go.Proofs.Try.f21.body).getD .skip

noncomputable def porterref17_Meet_L : List (List Nat × List Nat) := [([0], [0, 1]), ([0, 0, 1], [17, 0, 1]), ([1, 0, 1], [0, 1]), ([0, 0, 1, 0, 1], [4]), ([1, 0, 1, 0, 1], [4]), ([0, 1, 1], [0, 1, 5]), ([0, 1, 1, 1], [0, 1, 5, 6]), ([0, 0, 1, 1, 1, 1], [7, 0, 1, 5, 6]), ([0, 1, 0, 1, 1, 1, 1], [7, 0, 1, 5, 6]), ([0, 0, 0, 0, 1, 0, 1, 1, 1, 1], [19, 7, 0, 1, 5, 6]), ([1, 0, 0, 0, 1, 0, 1, 1, 1, 1], [7, 0, 1, 5, 6]), ([1, 1, 0, 0, 0, 1, 0, 1, 1, 1, 1], [5]), ([0, 0, 0, 1, 0, 0, 1, 0, 1, 1, 1, 1], [7, 8, 0, 1, 5, 6]), ([0, 0, 1, 0, 0, 1, 0, 0, 1, 0, 1, 1, 1, 1], [9, 7, 8, 0, 1, 5, 6]), ([0, 1, 0, 1, 0, 0, 1, 0, 0, 1, 0, 1, 1, 1, 1], [9, 7, 8, 0, 1, 5, 6]), ([0, 0, 0, 0, 1, 0, 1, 0, 0, 1, 0, 0, 1, 0, 1, 1, 1, 1], [28, 0, 9, 7, 1, 5, 6, 8]), ([1, 0, 0, 0, 1, 0, 1, 0, 0, 1, 0, 0, 1, 0, 1, 1, 1, 1], [0, 9, 7, 1, 5, 6, 8]), ([1, 1, 0, 0, 0, 1, 0, 1, 0, 0, 1, 0, 0, 1, 0, 1, 1, 1, 1], [8, 6, 5, 7, 0, 1]), ([0, 0, 0, 1, 0, 0, 1, 0, 1, 0, 0, 1, 0, 0, 1, 0, 1, 1, 1, 1], [50, 5, 9, 7, 0, 1, 6, 8]), ([1, 0, 0, 1, 0, 0, 1, 0, 1, 0, 0, 1, 0, 0, 1, 0, 1, 1, 1, 1], [9, 7, 8, 0, 1, 5, 6]), ([0, 1, 0, 0, 1, 0, 0, 1, 0, 1, 0, 0, 1, 0, 0, 1, 0, 1, 1, 1, 1], [9, 7, 8, 0, 1, 5, 6]), ([0, 1, 0, 0, 1, 0, 1, 0, 0, 1, 0, 0, 1, 0, 1, 1, 1, 1], [9, 7, 8, 0, 1, 5, 6]), ([1, 1, 0, 0, 1, 0, 1, 0, 0, 1, 0, 0, 1, 0, 1, 1, 1, 1], [9, 7, 8, 0, 1, 5, 6]), ([1, 0, 1, 0, 0, 1, 0, 0, 1, 0, 1, 1, 1, 1], [8, 6, 5, 7, 0, 1]), ([0, 0, 1, 1, 0, 0, 1, 0, 0, 1, 0, 1, 1, 1, 1], [56, 6, 5, 7, 0, 1, 8]), ([1, 0, 1, 1, 0, 0, 1, 0, 0, 1, 0, 1, 1, 1, 1], [5, 8, 7, 0, 1, 6]), ([0, 0, 1, 0, 1, 1, 0, 0, 1, 0, 0, 1, 0, 1, 1, 1, 1], [6, 5, 8, 7, 0, 1]), ([1, 0, 1, 0, 1, 1, 0, 0, 1, 0, 0, 1, 0, 1, 1, 1, 1], [5, 8, 7, 0, 1, 6]), ([1, 1, 1, 0, 0, 1, 0, 0, 1, 0, 1, 1, 1, 1], [7, 0, 1, 5, 6]), ([0, 1, 0, 0, 1, 0, 1, 1, 1, 1], [7, 0, 1, 5, 6]), ([1, 1, 0, 0, 1, 0, 1, 1, 1, 1], [7, 0, 1, 5, 6]), ([1, 0, 1, 1, 1, 1], [5]), ([0, 1, 1, 1, 1, 1], [4]), ([1, 1, 1, 1, 1, 1], [4])]

noncomputable def porterref17_Meet_E (N : Nat) : Env := mkEnv tys noGlob [(16, porterref17_Right_res N)] [(5, (.int .i64)), (4, (.int .i64))] [] [] false [] [(65, slices_Chunk1_itr N)]

theorem porterref17_Meet_Eok (N : Nat) : EnvOk Go.Proofs.Try.prog (porterref17_Meet_E N) := mkEnv_ok mixed tys_ok (FnsOk.cons (porterref17_Right_ct N) (FnsOk.nil)) (ItsOk.cons (slices_Chunk1_it N) (ItsOk.nil))

noncomputable def porterref17_Meet_p2 (N : Nat) (a : (List Int)) (b : (List Int)) (k0 : Bool → Option (List Int)) : Option (List Int) :=
  (porterref17_Right N a).bind fun y =>
  cond (!y)
  (k0 true)
  ((porterref17_Right N b).bind fun y1 =>
    k0 (!y1))

noncomputable def porterref17_Meet_g2 (N : Nat) (x : denS [(0, .v (.sl (.int .i64))), (0, .v (.sl (.int .i64)))]) (K : Ex → List A → Option (List Int)) : Option (List Int) :=
  porterref17_Meet_p2 N x.1 x.2.1 (fun a2 => (K .normal (mkS [(0, .v (.sl (.int .i64))), (0, .v (.sl (.int .i64))), (15, .v .bool)] 47 (x.1, x.2.1, a2, ()))))

noncomputable def porterref17_Meet_h2 (N : Nat) : Hd (List Int) := fun st K => (unS [(0, .v (.sl (.int .i64))), (0, .v (.sl (.int .i64)))] 63 (restr [0, 1] 0 st)).bind fun x => porterref17_Meet_g2 N x K

noncomputable def porterref17_Meet_t2 (N : Nat) : Tab (List Int) := []

theorem porterref17_Meet_ok2 {N : Nat} {c : Ctx} (hb : Base Go.Proofs.Try.prog (porterref17_Meet_E N) c) : CodeOk Go.Proofs.Try.prog c (nodeAt porterref17_Meet_body [0, 0, 1]) (porterref17_Meet_h2 N) :=
  piece_ok (s := [(0, .v (.sl (.int .i64))), (0, .v (.sl (.int .i64)))]) (m := 63) (g := porterref17_Meet_g2 N) [0, 1] (evN_sound hb N (porterref17_Meet_t2 N) porterref17_Meet_L porterref17_Meet_body TabOk.nil [0, 0, 1] _ rfl) (fun x K => by kernel_rfl)

noncomputable def porterref17_Meet_p1 (N : Nat) (a : (List Int)) (b : (List Int)) (k0 : (List Int) → Option (List Int)) (k1 : Option (List Int)) : Option (List Int) :=
  porterref17_Meet_p2 N a b
  (fun x17 => cond x17
    (k0 ([] : List Int))
    (k1))

noncomputable def porterref17_Meet_g1 (N : Nat) (x : denS [(0, .v (.sl (.int .i64))), (0, .v (.sl (.int .i64)))]) (K : Ex → List A → Option (List Int)) : Option (List Int) :=
  porterref17_Meet_p1 N x.1 x.2.1 (fun a0 => (K .ret (mkS [(4, .row (.int .i64))] 60 (a0, ())))) (K .normal (mkS [(0, .v (.sl (.int .i64))), (0, .v (.sl (.int .i64)))] 63 (x.1, x.2.1, ())))

noncomputable def porterref17_Meet_h1 (N : Nat) : Hd (List Int) := fun st K => (unS [(0, .v (.sl (.int .i64))), (0, .v (.sl (.int .i64)))] 63 (restr [0, 1] 0 st)).bind fun x => porterref17_Meet_g1 N x K

noncomputable def porterref17_Meet_t1 (N : Nat) : Tab (List Int) := [([0, 0, 1], porterref17_Meet_h2 N)]

theorem porterref17_Meet_ok1 {N : Nat} {c : Ctx} (hb : Base Go.Proofs.Try.prog (porterref17_Meet_E N) c) : CodeOk Go.Proofs.Try.prog c (nodeAt porterref17_Meet_body [0, 1]) (porterref17_Meet_h1 N) :=
  piece_ok (s := [(0, .v (.sl (.int .i64))), (0, .v (.sl (.int .i64)))]) (m := 63) (g := porterref17_Meet_g1 N) [0, 1] (evN_sound hb N (porterref17_Meet_t1 N) porterref17_Meet_L porterref17_Meet_body (TabOk.cons (porterref17_Meet_ok2 hb) TabOk.nil) [0, 1] _ rfl) (fun x K => by kernel_rfl)

noncomputable def porterref17_Meet_p7 (N : Nat) (a : (List Int)) (b : (List Int)) (out : (List Int)) (many : Int) (i : Int) (at_ : Int) (k : Int) (k0 : Option (List Int)) (k1 : Option (List Int)) : Option (List Int) :=
  cond (decide (k < i))
  (cond (decide (at_ < (0 : Int)))
    (k0)
    (k1))
  (k1)

noncomputable def porterref17_Meet_g7 (N : Nat) (x : denS [(0, .v (.sl (.int .i64))), (0, .v (.sl (.int .i64))), (3, .row (.int .i64)), (0, .v (.int .i64)), (0, .v (.int .i64)), (0, .v (.int .i64)), (0, .v (.int .i64))]) (K : Ex → List A → Option (List Int)) : Option (List Int) :=
  porterref17_Meet_p7 N x.1 x.2.1 x.2.2.1 x.2.2.2.1 x.2.2.2.2.1 x.2.2.2.2.2.1 x.2.2.2.2.2.2.1 (K .normal (mkS [(0, .v (.sl (.int .i64))), (0, .v (.sl (.int .i64))), (3, .row (.int .i64)), (0, .v (.int .i64)), (0, .v (.int .i64)), (0, .v (.int .i64)), (0, .v (.int .i64))] 55 (x.1, x.2.1, x.2.2.1, x.2.2.2.1, x.2.2.2.2.1, x.2.2.2.2.2.1, x.2.2.2.2.2.2.1, ()))) (K (.exit 2) (mkS [(0, .v (.sl (.int .i64))), (0, .v (.sl (.int .i64))), (3, .row (.int .i64)), (0, .v (.int .i64)), (0, .v (.int .i64)), (0, .v (.int .i64))] 56 (x.1, x.2.1, x.2.2.1, x.2.2.2.1, x.2.2.2.2.1, x.2.2.2.2.2.1, ())))

noncomputable def porterref17_Meet_h7 (N : Nat) : Hd (List Int) := fun st K => (unS [(0, .v (.sl (.int .i64))), (0, .v (.sl (.int .i64))), (3, .row (.int .i64)), (0, .v (.int .i64)), (0, .v (.int .i64)), (0, .v (.int .i64)), (0, .v (.int .i64))] 55 (restr [9, 7, 8, 0, 1, 5, 6] 0 st)).bind fun x => porterref17_Meet_g7 N x K

noncomputable def porterref17_Meet_t7 (N : Nat) : Tab (List Int) := []

theorem porterref17_Meet_ok7 {N : Nat} {c : Ctx} (hb : Base Go.Proofs.Try.prog (porterref17_Meet_E N) c) : CodeOk Go.Proofs.Try.prog c (nodeAt porterref17_Meet_body [0, 0, 0, 1, 0, 1, 0, 0, 1, 0, 0, 1, 0, 1, 1, 1, 1]) (porterref17_Meet_h7 N) :=
  piece_ok (s := [(0, .v (.sl (.int .i64))), (0, .v (.sl (.int .i64))), (3, .row (.int .i64)), (0, .v (.int .i64)), (0, .v (.int .i64)), (0, .v (.int .i64)), (0, .v (.int .i64))]) (m := 55) (g := porterref17_Meet_g7 N) [9, 7, 8, 0, 1, 5, 6] (evN_sound hb N (porterref17_Meet_t7 N) porterref17_Meet_L porterref17_Meet_body TabOk.nil [0, 0, 0, 1, 0, 1, 0, 0, 1, 0, 0, 1, 0, 1, 1, 1, 1] _ rfl) (fun x K => by kernel_rfl)

noncomputable def porterref17_Meet_p9 (N : Nat) (a : (List Int)) (b : (List Int)) (out : (List Int)) (many : Int) (i : Int) (at_ : Int) (k : Int) (k0 : Bool → Option (List Int)) : Option (List Int) :=
  cond (Go.Lift.inR k (List.length a))
  (cond (Go.Lift.inR i (List.length a))
    (cond ((List.getD a (Int.toNat k) (0 : Int)) == (List.getD a (Int.toNat i) (0 : Int)))
      (cond (Go.Lift.inR k (List.length b))
        (cond (Go.Lift.inR i (List.length b))
          (k0 ((List.getD b (Int.toNat k) (0 : Int)) == (List.getD b (Int.toNat i) (0 : Int))))
          (none))
        (none))
      (k0 false))
    (none))
  (none)

noncomputable def porterref17_Meet_g9 (N : Nat) (x : denS [(0, .v (.sl (.int .i64))), (0, .v (.sl (.int .i64))), (3, .row (.int .i64)), (0, .v (.int .i64)), (0, .v (.int .i64)), (0, .v (.int .i64)), (0, .v (.int .i64))]) (K : Ex → List A → Option (List Int)) : Option (List Int) :=
  porterref17_Meet_p9 N x.1 x.2.1 x.2.2.1 x.2.2.2.1 x.2.2.2.2.1 x.2.2.2.2.2.1 x.2.2.2.2.2.2.1 (fun a7 => (K .normal (mkS [(0, .v (.sl (.int .i64))), (0, .v (.sl (.int .i64))), (3, .row (.int .i64)), (0, .v (.int .i64)), (0, .v (.int .i64)), (0, .v (.int .i64)), (0, .v (.int .i64)), (40, .v .bool)] 14 (x.1, x.2.1, x.2.2.1, x.2.2.2.1, x.2.2.2.2.1, x.2.2.2.2.2.1, x.2.2.2.2.2.2.1, a7, ()))))

noncomputable def porterref17_Meet_h9 (N : Nat) : Hd (List Int) := fun st K => (unS [(0, .v (.sl (.int .i64))), (0, .v (.sl (.int .i64))), (3, .row (.int .i64)), (0, .v (.int .i64)), (0, .v (.int .i64)), (0, .v (.int .i64)), (0, .v (.int .i64))] 55 (restr [0, 9, 7, 1, 5, 6, 8] 0 st)).bind fun x => porterref17_Meet_g9 N x K

noncomputable def porterref17_Meet_t9 (N : Nat) : Tab (List Int) := []

theorem porterref17_Meet_ok9 {N : Nat} {c : Ctx} (hb : Base Go.Proofs.Try.prog (porterref17_Meet_E N) c) : CodeOk Go.Proofs.Try.prog c (nodeAt porterref17_Meet_body [0, 0, 0, 1, 0, 0, 1, 0, 1, 0, 0, 1, 0, 0, 1, 0, 1, 1, 1, 1]) (porterref17_Meet_h9 N) :=
  piece_ok (s := [(0, .v (.sl (.int .i64))), (0, .v (.sl (.int .i64))), (3, .row (.int .i64)), (0, .v (.int .i64)), (0, .v (.int .i64)), (0, .v (.int .i64)), (0, .v (.int .i64))]) (m := 55) (g := porterref17_Meet_g9 N) [0, 9, 7, 1, 5, 6, 8] (evN_sound hb N (porterref17_Meet_t9 N) porterref17_Meet_L porterref17_Meet_body TabOk.nil [0, 0, 0, 1, 0, 0, 1, 0, 1, 0, 0, 1, 0, 0, 1, 0, 1, 1, 1, 1] _ rfl) (fun x K => by kernel_rfl)

noncomputable def porterref17_Meet_p8 (N : Nat) (a : (List Int)) (b : (List Int)) (out : (List Int)) (many : Int) (i : Int) (at_ : Int) (k : Int) (k0 : Int → Option (List Int)) : Option (List Int) :=
  porterref17_Meet_p9 N a b out many i at_ k
  (fun x50 => cond x50
    (cond (Go.Lift.inR k (List.length out))
      (cond (decide ((Int.toNat k) < (List.length out)))
        (k0 (List.getD out (Int.toNat k) (0 : Int)))
        (none))
      (none))
    (k0 at_))

noncomputable def porterref17_Meet_g8 (N : Nat) (x : denS [(0, .v (.sl (.int .i64))), (0, .v (.sl (.int .i64))), (3, .row (.int .i64)), (0, .v (.int .i64)), (0, .v (.int .i64)), (0, .v (.int .i64)), (0, .v (.int .i64))]) (K : Ex → List A → Option (List Int)) : Option (List Int) :=
  porterref17_Meet_p8 N x.1 x.2.1 x.2.2.1 x.2.2.2.1 x.2.2.2.2.1 x.2.2.2.2.2.1 x.2.2.2.2.2.2.1 (fun a5 => (K .normal (mkS [(0, .v (.sl (.int .i64))), (0, .v (.sl (.int .i64))), (3, .row (.int .i64)), (0, .v (.int .i64)), (0, .v (.int .i64)), (0, .v (.int .i64)), (0, .v (.int .i64))] 55 (x.1, x.2.1, x.2.2.1, x.2.2.2.1, x.2.2.2.2.1, a5, x.2.2.2.2.2.2.1, ()))))

noncomputable def porterref17_Meet_h8 (N : Nat) : Hd (List Int) := fun st K => (unS [(0, .v (.sl (.int .i64))), (0, .v (.sl (.int .i64))), (3, .row (.int .i64)), (0, .v (.int .i64)), (0, .v (.int .i64)), (0, .v (.int .i64)), (0, .v (.int .i64))] 55 (restr [0, 9, 7, 1, 5, 6, 8] 0 st)).bind fun x => porterref17_Meet_g8 N x K

noncomputable def porterref17_Meet_t8 (N : Nat) : Tab (List Int) := [([0, 0, 0, 1, 0, 0, 1, 0, 1, 0, 0, 1, 0, 0, 1, 0, 1, 1, 1, 1], porterref17_Meet_h9 N)]

theorem porterref17_Meet_ok8 {N : Nat} {c : Ctx} (hb : Base Go.Proofs.Try.prog (porterref17_Meet_E N) c) : CodeOk Go.Proofs.Try.prog c (nodeAt porterref17_Meet_body [0, 1, 0, 0, 1, 0, 1, 0, 0, 1, 0, 0, 1, 0, 1, 1, 1, 1]) (porterref17_Meet_h8 N) :=
  piece_ok (s := [(0, .v (.sl (.int .i64))), (0, .v (.sl (.int .i64))), (3, .row (.int .i64)), (0, .v (.int .i64)), (0, .v (.int .i64)), (0, .v (.int .i64)), (0, .v (.int .i64))]) (m := 55) (g := porterref17_Meet_g8 N) [0, 9, 7, 1, 5, 6, 8] (evN_sound hb N (porterref17_Meet_t8 N) porterref17_Meet_L porterref17_Meet_body (TabOk.cons (porterref17_Meet_ok9 hb) TabOk.nil) [0, 1, 0, 0, 1, 0, 1, 0, 0, 1, 0, 0, 1, 0, 1, 1, 1, 1] _ rfl) (fun x K => by kernel_rfl)

noncomputable def porterref17_Meet_s6 (N : Nat) (a : (List Int)) (b : (List Int)) (out : (List Int)) (many : Int) (i : Int) (at_ : Int) (k : Int) (rec : Int → Int → Option (List Int)) (k0 : Int → Option (List Int)) : Option (List Int) :=
  porterref17_Meet_p7 N a b out many i at_ k
  (porterref17_Meet_p8 N a b out many i at_ k
    (fun at_1 => rec at_1 (Go.IntKind.wrap Go.IntKind.i64 (k + (1 : Int)))))
  (k0 at_)

noncomputable def porterref17_Meet_p6 (N : Nat) (a : (List Int)) (b : (List Int)) (out : (List Int)) (many : Int) (i : Int) (at_ : Int) (k : Int) (k0 : Int → Option (List Int)) : Option (List Int) :=
  iter (fun (v : (Int × Int)) r => porterref17_Meet_s6 N a b out many i v.1 v.2 (fun at_ k => (r (at_, k))) k0) N (at_, k)

noncomputable def porterref17_Meet_g6 (N : Nat) (i : ((List Int) × (List Int) × (List Int) × Int × Int)) (v : (Int × Int)) (r : (Int × Int) → Option (List Int)) (K : Ex → List A → Option (List Int)) : Option (List Int) :=
  porterref17_Meet_s6 N i.1 i.2.1 i.2.2.1 i.2.2.2.1 i.2.2.2.2 v.1 v.2 (fun at_ k => (r (at_, k))) (fun a5 => (K (.exit 2) (mkS [(0, .v (.sl (.int .i64))), (0, .v (.sl (.int .i64))), (3, .row (.int .i64)), (0, .v (.int .i64)), (0, .v (.int .i64)), (0, .v (.int .i64))] 56 (i.1, i.2.1, i.2.2.1, i.2.2.2.1, i.2.2.2.2, a5, ()))))

noncomputable def porterref17_Meet_h6 (N : Nat) : Hd (List Int) := fun st K => (unS [(0, .v (.sl (.int .i64))), (0, .v (.sl (.int .i64))), (3, .row (.int .i64)), (0, .v (.int .i64)), (0, .v (.int .i64)), (0, .v (.int .i64)), (0, .v (.int .i64))] 55 (restr [9, 7, 8, 0, 1, 5, 6] 0 st)).bind fun x => iter (fun v r => porterref17_Meet_g6 N ((fun x => (x.1, x.2.1, x.2.2.1, x.2.2.2.1, x.2.2.2.2.1)) x) v r K) N ((fun x => (x.2.2.2.2.2.1, x.2.2.2.2.2.2.1)) x)

noncomputable def porterref17_Meet_t6 (N : Nat) : Tab (List Int) := [([0, 0, 0, 1, 0, 1, 0, 0, 1, 0, 0, 1, 0, 1, 1, 1, 1], porterref17_Meet_h7 N), ([0, 1, 0, 0, 1, 0, 1, 0, 0, 1, 0, 0, 1, 0, 1, 1, 1, 1], porterref17_Meet_h8 N)]

theorem porterref17_Meet_ok6 {N : Nat} {c : Ctx} (hb : Base Go.Proofs.Try.prog (porterref17_Meet_E N) c) : CodeOk Go.Proofs.Try.prog c (nodeAt porterref17_Meet_body [0, 1, 0, 1, 0, 0, 1, 0, 0, 1, 0, 1, 1, 1, 1]) (porterref17_Meet_h6 N) :=
  loop_ok (s := [(0, .v (.sl (.int .i64))), (0, .v (.sl (.int .i64))), (3, .row (.int .i64)), (0, .v (.int .i64)), (0, .v (.int .i64)), (0, .v (.int .i64)), (0, .v (.int .i64))]) (m := 55) (porterref17_Meet_g6 N) [9, 7, 8, 0, 1, 5, 6] N (fun x => (x.1, x.2.1, x.2.2.1, x.2.2.2.1, x.2.2.2.2.1)) (fun x => (x.2.2.2.2.2.1, x.2.2.2.2.2.2.1)) (fun i v => (i.1, i.2.1, i.2.2.1, i.2.2.2.1, i.2.2.2.2, v.1, v.2, ())) (fun _ => rfl) (evN_sound hb N (porterref17_Meet_t6 N) porterref17_Meet_L porterref17_Meet_body (TabOk.cons (porterref17_Meet_ok7 hb) (TabOk.cons (porterref17_Meet_ok8 hb) TabOk.nil)) [0, 0, 1, 0, 1, 0, 0, 1, 0, 0, 1, 0, 1, 1, 1, 1] _ rfl) (fun i v r K => by kernel_rfl)

noncomputable def porterref17_Meet_p5 (N : Nat) (a : (List Int)) (b : (List Int)) (out : (List Int)) (many : Int) (i : Int) (at_ : Int) (k0 : Int → Option (List Int)) : Option (List Int) :=
  porterref17_Meet_p6 N a b out many i at_ (0 : Int)
  (fun at_1 => k0 at_1)

noncomputable def porterref17_Meet_g5 (N : Nat) (x : denS [(0, .v (.sl (.int .i64))), (0, .v (.sl (.int .i64))), (3, .row (.int .i64)), (0, .v (.int .i64)), (0, .v (.int .i64)), (0, .v (.int .i64))]) (K : Ex → List A → Option (List Int)) : Option (List Int) :=
  porterref17_Meet_p5 N x.1 x.2.1 x.2.2.1 x.2.2.2.1 x.2.2.2.2.1 x.2.2.2.2.2.1 (fun a5 => (K .normal (mkS [(0, .v (.sl (.int .i64))), (0, .v (.sl (.int .i64))), (3, .row (.int .i64)), (0, .v (.int .i64)), (0, .v (.int .i64)), (0, .v (.int .i64))] 56 (x.1, x.2.1, x.2.2.1, x.2.2.2.1, x.2.2.2.2.1, a5, ()))))

noncomputable def porterref17_Meet_h5 (N : Nat) : Hd (List Int) := fun st K => (unS [(0, .v (.sl (.int .i64))), (0, .v (.sl (.int .i64))), (3, .row (.int .i64)), (0, .v (.int .i64)), (0, .v (.int .i64)), (0, .v (.int .i64))] 56 (restr [7, 8, 0, 1, 5, 6] 0 st)).bind fun x => porterref17_Meet_g5 N x K

noncomputable def porterref17_Meet_t5 (N : Nat) : Tab (List Int) := [([0, 1, 0, 1, 0, 0, 1, 0, 0, 1, 0, 1, 1, 1, 1], porterref17_Meet_h6 N)]

theorem porterref17_Meet_ok5 {N : Nat} {c : Ctx} (hb : Base Go.Proofs.Try.prog (porterref17_Meet_E N) c) : CodeOk Go.Proofs.Try.prog c (nodeAt porterref17_Meet_body [0, 1, 0, 0, 1, 0, 0, 1, 0, 1, 1, 1, 1]) (porterref17_Meet_h5 N) :=
  piece_ok (s := [(0, .v (.sl (.int .i64))), (0, .v (.sl (.int .i64))), (3, .row (.int .i64)), (0, .v (.int .i64)), (0, .v (.int .i64)), (0, .v (.int .i64))]) (m := 56) (g := porterref17_Meet_g5 N) [7, 8, 0, 1, 5, 6] (evN_sound hb N (porterref17_Meet_t5 N) porterref17_Meet_L porterref17_Meet_body (TabOk.cons (porterref17_Meet_ok6 hb) TabOk.nil) [0, 1, 0, 0, 1, 0, 0, 1, 0, 1, 1, 1, 1] _ rfl) (fun x K => by kernel_rfl)

noncomputable def porterref17_Meet_p10 (N : Nat) (a : (List Int)) (b : (List Int)) (out : (List Int)) (many : Int) (i : Int) (at_ : Int) (k0 : Int → Int → Option (List Int)) : Option (List Int) :=
  cond (decide (at_ < (0 : Int)))
  (k0 (Go.IntKind.wrap Go.IntKind.i64 (many + (1 : Int))) many)
  (k0 many at_)

noncomputable def porterref17_Meet_g10 (N : Nat) (x : denS [(0, .v (.sl (.int .i64))), (0, .v (.sl (.int .i64))), (3, .row (.int .i64)), (0, .v (.int .i64)), (0, .v (.int .i64)), (0, .v (.int .i64))]) (K : Ex → List A → Option (List Int)) : Option (List Int) :=
  porterref17_Meet_p10 N x.1 x.2.1 x.2.2.1 x.2.2.2.1 x.2.2.2.2.1 x.2.2.2.2.2.1 (fun a3 a5 => (K .normal (mkS [(0, .v (.sl (.int .i64))), (0, .v (.sl (.int .i64))), (3, .row (.int .i64)), (0, .v (.int .i64)), (0, .v (.int .i64)), (0, .v (.int .i64))] 56 (x.1, x.2.1, x.2.2.1, a3, x.2.2.2.2.1, a5, ()))))

noncomputable def porterref17_Meet_h10 (N : Nat) : Hd (List Int) := fun st K => (unS [(0, .v (.sl (.int .i64))), (0, .v (.sl (.int .i64))), (3, .row (.int .i64)), (0, .v (.int .i64)), (0, .v (.int .i64)), (0, .v (.int .i64))] 56 (restr [8, 6, 5, 7, 0, 1] 0 st)).bind fun x => porterref17_Meet_g10 N x K

noncomputable def porterref17_Meet_t10 (N : Nat) : Tab (List Int) := []

theorem porterref17_Meet_ok10 {N : Nat} {c : Ctx} (hb : Base Go.Proofs.Try.prog (porterref17_Meet_E N) c) : CodeOk Go.Proofs.Try.prog c (nodeAt porterref17_Meet_body [0, 1, 1, 0, 0, 1, 0, 0, 1, 0, 1, 1, 1, 1]) (porterref17_Meet_h10 N) :=
  piece_ok (s := [(0, .v (.sl (.int .i64))), (0, .v (.sl (.int .i64))), (3, .row (.int .i64)), (0, .v (.int .i64)), (0, .v (.int .i64)), (0, .v (.int .i64))]) (m := 56) (g := porterref17_Meet_g10 N) [8, 6, 5, 7, 0, 1] (evN_sound hb N (porterref17_Meet_t10 N) porterref17_Meet_L porterref17_Meet_body TabOk.nil [0, 1, 1, 0, 0, 1, 0, 0, 1, 0, 1, 1, 1, 1] _ rfl) (fun x K => by kernel_rfl)

noncomputable def porterref17_Meet_p4 (N : Nat) (a : (List Int)) (b : (List Int)) (out : (List Int)) (many : Int) (i : Int) (k0 : (List Int) → Int → Option (List Int)) : Option (List Int) :=
  porterref17_Meet_p5 N a b out many i (-(1 : Int))
  (fun at_ => porterref17_Meet_p10 N a b out many i at_
    (fun many1 at_1 => cond (decide ((((List.length out) + 1) * 8) ≤ 70368744177664))
      (k0 (out ++ ([at_1] : List Int)) many1)
      (none)))

noncomputable def porterref17_Meet_g4 (N : Nat) (x : denS [(0, .v (.sl (.int .i64))), (0, .v (.sl (.int .i64))), (3, .row (.int .i64)), (0, .v (.int .i64)), (0, .v (.int .i64))]) (K : Ex → List A → Option (List Int)) : Option (List Int) :=
  porterref17_Meet_p4 N x.1 x.2.1 x.2.2.1 x.2.2.2.1 x.2.2.2.2.1 (fun a2 a3 => (K .normal (mkS [(0, .v (.sl (.int .i64))), (0, .v (.sl (.int .i64))), (3, .row (.int .i64)), (0, .v (.int .i64)), (0, .v (.int .i64))] 57 (x.1, x.2.1, a2, a3, x.2.2.2.2.1, ()))))

noncomputable def porterref17_Meet_h4 (N : Nat) : Hd (List Int) := fun st K => (unS [(0, .v (.sl (.int .i64))), (0, .v (.sl (.int .i64))), (3, .row (.int .i64)), (0, .v (.int .i64)), (0, .v (.int .i64))] 57 (restr [7, 0, 1, 5, 6] 0 st)).bind fun x => porterref17_Meet_g4 N x K

noncomputable def porterref17_Meet_t4 (N : Nat) : Tab (List Int) := [([0, 1, 0, 0, 1, 0, 0, 1, 0, 1, 1, 1, 1], porterref17_Meet_h5 N), ([0, 1, 1, 0, 0, 1, 0, 0, 1, 0, 1, 1, 1, 1], porterref17_Meet_h10 N)]

theorem porterref17_Meet_ok4 {N : Nat} {c : Ctx} (hb : Base Go.Proofs.Try.prog (porterref17_Meet_E N) c) : CodeOk Go.Proofs.Try.prog c (nodeAt porterref17_Meet_body [0, 1, 0, 0, 1, 0, 1, 1, 1, 1]) (porterref17_Meet_h4 N) :=
  piece_ok (s := [(0, .v (.sl (.int .i64))), (0, .v (.sl (.int .i64))), (3, .row (.int .i64)), (0, .v (.int .i64)), (0, .v (.int .i64))]) (m := 57) (g := porterref17_Meet_g4 N) [7, 0, 1, 5, 6] (evN_sound hb N (porterref17_Meet_t4 N) porterref17_Meet_L porterref17_Meet_body (TabOk.cons (porterref17_Meet_ok5 hb) (TabOk.cons (porterref17_Meet_ok10 hb) TabOk.nil)) [0, 1, 0, 0, 1, 0, 1, 1, 1, 1] _ rfl) (fun x K => by kernel_rfl)

noncomputable def porterref17_Meet_s3 (N : Nat) (a : (List Int)) (b : (List Int)) (out : (List Int)) (many : Int) (i : Int) (rec : (List Int) → Int → Int → Option (List Int)) (k0 : (List Int) → Option (List Int)) : Option (List Int) :=
  cond (decide (i < (256 : Int)))
  (porterref17_Meet_p4 N a b out many i
    (fun out1 many1 => rec out1 many1 (Go.IntKind.wrap Go.IntKind.i64 (i + (1 : Int)))))
  (k0 out)

noncomputable def porterref17_Meet_p3 (N : Nat) (a : (List Int)) (b : (List Int)) (out : (List Int)) (many : Int) (i : Int) (k0 : (List Int) → Option (List Int)) : Option (List Int) :=
  iter (fun (v : ((List Int) × Int × Int)) r => porterref17_Meet_s3 N a b v.1 v.2.1 v.2.2 (fun out many i => (r (out, many, i))) k0) N (out, many, i)

noncomputable def porterref17_Meet_g3 (N : Nat) (i : ((List Int) × (List Int))) (v : ((List Int) × Int × Int)) (r : ((List Int) × Int × Int) → Option (List Int)) (K : Ex → List A → Option (List Int)) : Option (List Int) :=
  porterref17_Meet_s3 N i.1 i.2 v.1 v.2.1 v.2.2 (fun out many i => (r (out, many, i))) (fun a0 => (K (.exit 0) (mkS [(5, .row (.int .i64))] 59 (a0, ()))))

noncomputable def porterref17_Meet_h3 (N : Nat) : Hd (List Int) := fun st K => (unS [(0, .v (.sl (.int .i64))), (0, .v (.sl (.int .i64))), (3, .row (.int .i64)), (0, .v (.int .i64)), (0, .v (.int .i64))] 57 (restr [7, 0, 1, 5, 6] 0 st)).bind fun x => iter (fun v r => porterref17_Meet_g3 N ((fun x => (x.1, x.2.1)) x) v r K) N ((fun x => (x.2.2.1, x.2.2.2.1, x.2.2.2.2.1)) x)

noncomputable def porterref17_Meet_t3 (N : Nat) : Tab (List Int) := [([0, 1, 0, 0, 1, 0, 1, 1, 1, 1], porterref17_Meet_h4 N)]

theorem porterref17_Meet_ok3 {N : Nat} {c : Ctx} (hb : Base Go.Proofs.Try.prog (porterref17_Meet_E N) c) : CodeOk Go.Proofs.Try.prog c (nodeAt porterref17_Meet_body [0, 1, 0, 1, 1, 1, 1]) (porterref17_Meet_h3 N) :=
  loop_ok (s := [(0, .v (.sl (.int .i64))), (0, .v (.sl (.int .i64))), (3, .row (.int .i64)), (0, .v (.int .i64)), (0, .v (.int .i64))]) (m := 57) (porterref17_Meet_g3 N) [7, 0, 1, 5, 6] N (fun x => (x.1, x.2.1)) (fun x => (x.2.2.1, x.2.2.2.1, x.2.2.2.2.1)) (fun i v => (i.1, i.2, v.1, v.2.1, v.2.2, ())) (fun _ => rfl) (evN_sound hb N (porterref17_Meet_t3 N) porterref17_Meet_L porterref17_Meet_body (TabOk.cons (porterref17_Meet_ok4 hb) TabOk.nil) [0, 0, 1, 0, 1, 1, 1, 1] _ rfl) (fun i v r K => by kernel_rfl)

noncomputable def porterref17_Meet (N : Nat) (a : (List Int)) (b : (List Int)) : Option (List Int) :=
  porterref17_Meet_p1 N a b
  (fun x4 => some x4)
  (porterref17_Meet_p3 N a b ([] : List Int) (0 : Int) (0 : Int)
    (fun out => some out))

noncomputable def porterref17_Meet_t (N : Nat) : Tab (List Int) := [([0, 1], porterref17_Meet_h1 N), ([0, 1, 0, 1, 1, 1, 1], porterref17_Meet_h3 N)]

theorem porterref17_Meet_link (N : Nat) (x : denS [(0, .v (.sl (.int .i64))), (0, .v (.sl (.int .i64)))]) : evFX (porterref17_Meet_E N) N (porterref17_Meet_t N) porterref17_Meet_L Go.Proofs.Try.f21 (mkS [(0, .v (.sl (.int .i64))), (0, .v (.sl (.int .i64)))] 0 x) (kRes (.v (.sl (.int .i64))) 2) = porterref17_Meet N x.1 x.2.1 := by kernel_rfl

noncomputable def porterref17_Meet_res (N : Nat) : List A → Res := resOf [(0, .v (.sl (.int .i64))), (0, .v (.sl (.int .i64)))] (fun x => porterref17_Meet N x.1 x.2.1) (oRes (.v (.sl (.int .i64))) 2)

theorem porterref17_Meet_ct (N : Nat) : Contract Go.Proofs.Try.prog noGlob 21 (porterref17_Meet_res N) :=
  Contract.of (E := porterref17_Meet_E N) (H := porterref17_Meet_t N) (L := porterref17_Meet_L) (N := N) (body := porterref17_Meet_body) (K := (kRes (.v (.sl (.int .i64))) 2)) (porterref17_Meet_Eok N) Go.Proofs.Try.func21 (by kernel_rfl) (by decide) (fun _ hb => (TabOk.cons (porterref17_Meet_ok1 hb) (TabOk.cons (porterref17_Meet_ok3 hb) TabOk.nil))) (fun x y h => by rw [porterref17_Meet_link]; exact h) (kRes_ok (s := (.v (.sl (.int .i64)))) (m := 2))

abbrev porterlaw17_BlocksTell_R : Type := Bool

noncomputable def porterlaw17_BlocksTell_body : Code := (Go.Proofs.Try.f4.body).getD .skip

noncomputable def porterlaw17_BlocksTell_L : List (List Nat × List Nat) := [([0], [0, 1, 2]), ([0, 0, 1], [16, 0, 2, 1]), ([1, 0, 1], [0, 2, 1]), ([0, 0, 1, 0, 1], [6]), ([1, 0, 1, 0, 1], [6]), ([0, 1, 1], [0, 2, 7, 1]), ([0, 0, 1, 1, 1], [8, 0, 2, 7, 1]), ([0, 1, 0, 1, 1, 1], [8, 0, 2, 7, 1]), ([0, 0, 0, 0, 1, 0, 1, 1, 1], [22, 0, 8, 2, 1, 7]), ([1, 0, 0, 0, 1, 0, 1, 1, 1], [0, 8, 2, 1, 7]), ([1, 1, 0, 0, 0, 1, 0, 1, 1, 1], [0, 2, 7, 1]), ([0, 0, 0, 1, 0, 0, 1, 0, 1, 1, 1], [34, 8, 0, 2, 1, 7]), ([1, 0, 0, 1, 0, 0, 1, 0, 1, 1, 1], [8, 0, 2, 7, 1]), ([0, 1, 0, 0, 1, 0, 0, 1, 0, 1, 1, 1], [8, 0, 2, 7, 1]), ([0, 1, 0, 0, 1, 0, 1, 1, 1], [8, 0, 2, 7, 1]), ([1, 1, 0, 0, 1, 0, 1, 1, 1], [8, 0, 2, 7, 1]), ([1, 0, 1, 1, 1], [0, 2, 7, 1]), ([0, 1, 1, 1, 1], [6]), ([1, 1, 1, 1, 1], [6])]

noncomputable def porterlaw17_BlocksTell_E (N : Nat) : Env := mkEnv tys noGlob [(21, porterref17_Meet_res N), (20, blocks_Meet_res N), (18, porterref17_Count_res N), (16, porterref17_Right_res N), (13, porterbase_SameInts_res N), (11, porterlaw17_works_res N), (19, blocks_First_res N), (17, blocks_Count_res N), (15, blocks_Right_res N)] [] [] [] false [] [(65, slices_Chunk1_itr N)]

theorem porterlaw17_BlocksTell_Eok (N : Nat) : EnvOk Go.Proofs.Try.prog (porterlaw17_BlocksTell_E N) := mkEnv_ok mixed tys_ok (FnsOk.cons (porterref17_Meet_ct N) (FnsOk.cons (blocks_Meet_ct N) (FnsOk.cons (porterref17_Count_ct N) (FnsOk.cons (porterref17_Right_ct N) (FnsOk.cons (porterbase_SameInts_ct N) (FnsOk.cons (porterlaw17_works_ct N) (FnsOk.cons (blocks_First_ct N) (FnsOk.cons (blocks_Count_ct N) (FnsOk.cons (blocks_Right_ct N) (FnsOk.nil)))))))))) (ItsOk.cons (slices_Chunk1_it N) (ItsOk.nil))

noncomputable def porterlaw17_BlocksTell_p2 (N : Nat) (a : (List Int)) (b : (List Int)) (k : Int) (k0 : Bool → Option Bool) : Option Bool :=
  cond (decide ((300 : Int) < (((List.length a) : Nat) : Int)))
  (k0 true)
  (k0 (decide ((300 : Int) < (((List.length b) : Nat) : Int))))

noncomputable def porterlaw17_BlocksTell_g2 (N : Nat) (x : denS [(0, .v (.sl (.int .i64))), (0, .v (.sl (.int .i64))), (0, .v (.int .i64))]) (K : Ex → List A → Option Bool) : Option Bool :=
  porterlaw17_BlocksTell_p2 N x.1 x.2.1 x.2.2.1 (fun a3 => (K .normal (mkS [(0, .v (.sl (.int .i64))), (0, .v (.sl (.int .i64))), (0, .v (.int .i64)), (13, .v .bool)] 50 (x.1, x.2.1, x.2.2.1, a3, ()))))

noncomputable def porterlaw17_BlocksTell_h2 (N : Nat) : Hd Bool := fun st K => (unS [(0, .v (.sl (.int .i64))), (0, .v (.sl (.int .i64))), (0, .v (.int .i64))] 64 (restr [0, 1, 2] 0 st)).bind fun x => porterlaw17_BlocksTell_g2 N x K

noncomputable def porterlaw17_BlocksTell_t2 (N : Nat) : Tab Bool := []

theorem porterlaw17_BlocksTell_ok2 {N : Nat} {c : Ctx} (hb : Base Go.Proofs.Try.prog (porterlaw17_BlocksTell_E N) c) : CodeOk Go.Proofs.Try.prog c (nodeAt porterlaw17_BlocksTell_body [0, 0, 1]) (porterlaw17_BlocksTell_h2 N) :=
  piece_ok (s := [(0, .v (.sl (.int .i64))), (0, .v (.sl (.int .i64))), (0, .v (.int .i64))]) (m := 64) (g := porterlaw17_BlocksTell_g2 N) [0, 1, 2] (evN_sound hb N (porterlaw17_BlocksTell_t2 N) porterlaw17_BlocksTell_L porterlaw17_BlocksTell_body TabOk.nil [0, 0, 1] _ rfl) (fun x K => by kernel_rfl)

noncomputable def porterlaw17_BlocksTell_p1 (N : Nat) (a : (List Int)) (b : (List Int)) (k : Int) (k0 : Bool → Option Bool) (k1 : Option Bool) : Option Bool :=
  porterlaw17_BlocksTell_p2 N a b k
  (fun x16 => cond x16
    ((porterlaw17_works N).bind fun y =>
      k0 y)
    (k1))

noncomputable def porterlaw17_BlocksTell_g1 (N : Nat) (x : denS [(0, .v (.sl (.int .i64))), (0, .v (.sl (.int .i64))), (0, .v (.int .i64))]) (K : Ex → List A → Option Bool) : Option Bool :=
  porterlaw17_BlocksTell_p1 N x.1 x.2.1 x.2.2.1 (fun a0 => (K .ret (mkS [(6, .v .bool)] 60 (a0, ())))) (K .normal (mkS [(0, .v (.sl (.int .i64))), (0, .v (.sl (.int .i64))), (0, .v (.int .i64))] 64 (x.1, x.2.1, x.2.2.1, ())))

noncomputable def porterlaw17_BlocksTell_h1 (N : Nat) : Hd Bool := fun st K => (unS [(0, .v (.sl (.int .i64))), (0, .v (.sl (.int .i64))), (0, .v (.int .i64))] 64 (restr [0, 1, 2] 0 st)).bind fun x => porterlaw17_BlocksTell_g1 N x K

noncomputable def porterlaw17_BlocksTell_t1 (N : Nat) : Tab Bool := [([0, 0, 1], porterlaw17_BlocksTell_h2 N)]

theorem porterlaw17_BlocksTell_ok1 {N : Nat} {c : Ctx} (hb : Base Go.Proofs.Try.prog (porterlaw17_BlocksTell_E N) c) : CodeOk Go.Proofs.Try.prog c (nodeAt porterlaw17_BlocksTell_body [0, 1]) (porterlaw17_BlocksTell_h1 N) :=
  piece_ok (s := [(0, .v (.sl (.int .i64))), (0, .v (.sl (.int .i64))), (0, .v (.int .i64))]) (m := 64) (g := porterlaw17_BlocksTell_g1 N) [0, 1, 2] (evN_sound hb N (porterlaw17_BlocksTell_t1 N) porterlaw17_BlocksTell_L porterlaw17_BlocksTell_body (TabOk.cons (porterlaw17_BlocksTell_ok2 hb) TabOk.nil) [0, 1] _ rfl) (fun x K => by kernel_rfl)

noncomputable def porterlaw17_BlocksTell_p5 (N : Nat) (a : (List Int)) (b : (List Int)) (k : Int) (first : Int) (i : Int) (k0 : Bool → Option Bool) : Option Bool :=
  cond (Go.Lift.inR i (List.length a))
  (cond ((List.getD a (Int.toNat i) (0 : Int)) == k)
    ((porterref17_Right N a).bind fun y =>
      k0 y)
    (k0 false))
  (none)

noncomputable def porterlaw17_BlocksTell_g5 (N : Nat) (x : denS [(0, .v (.sl (.int .i64))), (0, .v (.sl (.int .i64))), (0, .v (.int .i64)), (4, .v (.int .i64)), (0, .v (.int .i64))]) (K : Ex → List A → Option Bool) : Option Bool :=
  porterlaw17_BlocksTell_p5 N x.1 x.2.1 x.2.2.1 x.2.2.2.1 x.2.2.2.2.1 (fun a5 => (K .normal (mkS [(0, .v (.sl (.int .i64))), (0, .v (.sl (.int .i64))), (0, .v (.int .i64)), (4, .v (.int .i64)), (0, .v (.int .i64)), (25, .v .bool)] 32 (x.1, x.2.1, x.2.2.1, x.2.2.2.1, x.2.2.2.2.1, a5, ()))))

noncomputable def porterlaw17_BlocksTell_h5 (N : Nat) : Hd Bool := fun st K => (unS [(0, .v (.sl (.int .i64))), (0, .v (.sl (.int .i64))), (0, .v (.int .i64)), (4, .v (.int .i64)), (0, .v (.int .i64))] 58 (restr [0, 8, 2, 1, 7] 0 st)).bind fun x => porterlaw17_BlocksTell_g5 N x K

noncomputable def porterlaw17_BlocksTell_t5 (N : Nat) : Tab Bool := []

theorem porterlaw17_BlocksTell_ok5 {N : Nat} {c : Ctx} (hb : Base Go.Proofs.Try.prog (porterlaw17_BlocksTell_E N) c) : CodeOk Go.Proofs.Try.prog c (nodeAt porterlaw17_BlocksTell_body [0, 0, 0, 1, 0, 0, 1, 0, 1, 1, 1]) (porterlaw17_BlocksTell_h5 N) :=
  piece_ok (s := [(0, .v (.sl (.int .i64))), (0, .v (.sl (.int .i64))), (0, .v (.int .i64)), (4, .v (.int .i64)), (0, .v (.int .i64))]) (m := 58) (g := porterlaw17_BlocksTell_g5 N) [0, 8, 2, 1, 7] (evN_sound hb N (porterlaw17_BlocksTell_t5 N) porterlaw17_BlocksTell_L porterlaw17_BlocksTell_body TabOk.nil [0, 0, 0, 1, 0, 0, 1, 0, 1, 1, 1] _ rfl) (fun x K => by kernel_rfl)

noncomputable def porterlaw17_BlocksTell_p4 (N : Nat) (a : (List Int)) (b : (List Int)) (k : Int) (first : Int) (i : Int) (k0 : Int → Option Bool) : Option Bool :=
  porterlaw17_BlocksTell_p5 N a b k first i
  (fun x34 => cond x34
    (k0 i)
    (k0 first))

noncomputable def porterlaw17_BlocksTell_g4 (N : Nat) (x : denS [(0, .v (.sl (.int .i64))), (0, .v (.sl (.int .i64))), (0, .v (.int .i64)), (4, .v (.int .i64)), (0, .v (.int .i64))]) (K : Ex → List A → Option Bool) : Option Bool :=
  porterlaw17_BlocksTell_p4 N x.1 x.2.1 x.2.2.1 x.2.2.2.1 x.2.2.2.2.1 (fun a3 => (K .normal (mkS [(0, .v (.sl (.int .i64))), (0, .v (.sl (.int .i64))), (0, .v (.int .i64)), (4, .v (.int .i64)), (0, .v (.int .i64))] 58 (x.1, x.2.1, x.2.2.1, a3, x.2.2.2.2.1, ()))))

noncomputable def porterlaw17_BlocksTell_h4 (N : Nat) : Hd Bool := fun st K => (unS [(0, .v (.sl (.int .i64))), (0, .v (.sl (.int .i64))), (0, .v (.int .i64)), (4, .v (.int .i64)), (0, .v (.int .i64))] 58 (restr [0, 8, 2, 1, 7] 0 st)).bind fun x => porterlaw17_BlocksTell_g4 N x K

noncomputable def porterlaw17_BlocksTell_t4 (N : Nat) : Tab Bool := [([0, 0, 0, 1, 0, 0, 1, 0, 1, 1, 1], porterlaw17_BlocksTell_h5 N)]

theorem porterlaw17_BlocksTell_ok4 {N : Nat} {c : Ctx} (hb : Base Go.Proofs.Try.prog (porterlaw17_BlocksTell_E N) c) : CodeOk Go.Proofs.Try.prog c (nodeAt porterlaw17_BlocksTell_body [0, 1, 0, 0, 1, 0, 1, 1, 1]) (porterlaw17_BlocksTell_h4 N) :=
  piece_ok (s := [(0, .v (.sl (.int .i64))), (0, .v (.sl (.int .i64))), (0, .v (.int .i64)), (4, .v (.int .i64)), (0, .v (.int .i64))]) (m := 58) (g := porterlaw17_BlocksTell_g4 N) [0, 8, 2, 1, 7] (evN_sound hb N (porterlaw17_BlocksTell_t4 N) porterlaw17_BlocksTell_L porterlaw17_BlocksTell_body (TabOk.cons (porterlaw17_BlocksTell_ok5 hb) TabOk.nil) [0, 1, 0, 0, 1, 0, 1, 1, 1] _ rfl) (fun x K => by kernel_rfl)

noncomputable def porterlaw17_BlocksTell_s3 (N : Nat) (a : (List Int)) (b : (List Int)) (k : Int) (first : Int) (i : Int) (rec : Int → Int → Option Bool) (k0 : Int → Option Bool) : Option Bool :=
  cond (decide ((0 : Int) ≤ i))
  (porterlaw17_BlocksTell_p4 N a b k first i
    (fun first1 => rec first1 (Go.IntKind.wrap Go.IntKind.i64 (i - (1 : Int)))))
  (k0 first)

noncomputable def porterlaw17_BlocksTell_p3 (N : Nat) (a : (List Int)) (b : (List Int)) (k : Int) (first : Int) (i : Int) (k0 : Int → Option Bool) : Option Bool :=
  iter (fun (v : (Int × Int)) r => porterlaw17_BlocksTell_s3 N a b k v.1 v.2 (fun first i => (r (first, i))) k0) N (first, i)

noncomputable def porterlaw17_BlocksTell_g3 (N : Nat) (i : ((List Int) × (List Int) × Int)) (v : (Int × Int)) (r : (Int × Int) → Option Bool) (K : Ex → List A → Option Bool) : Option Bool :=
  porterlaw17_BlocksTell_s3 N i.1 i.2.1 i.2.2 v.1 v.2 (fun first i => (r (first, i))) (fun a3 => (K (.exit 0) (mkS [(0, .v (.sl (.int .i64))), (0, .v (.sl (.int .i64))), (0, .v (.int .i64)), (4, .v (.int .i64))] 59 (i.1, i.2.1, i.2.2, a3, ()))))

noncomputable def porterlaw17_BlocksTell_h3 (N : Nat) : Hd Bool := fun st K => (unS [(0, .v (.sl (.int .i64))), (0, .v (.sl (.int .i64))), (0, .v (.int .i64)), (4, .v (.int .i64)), (0, .v (.int .i64))] 58 (restr [8, 0, 2, 7, 1] 0 st)).bind fun x => iter (fun v r => porterlaw17_BlocksTell_g3 N ((fun x => (x.1, x.2.1, x.2.2.1)) x) v r K) N ((fun x => (x.2.2.2.1, x.2.2.2.2.1)) x)

noncomputable def porterlaw17_BlocksTell_t3 (N : Nat) : Tab Bool := [([0, 1, 0, 0, 1, 0, 1, 1, 1], porterlaw17_BlocksTell_h4 N)]

theorem porterlaw17_BlocksTell_ok3 {N : Nat} {c : Ctx} (hb : Base Go.Proofs.Try.prog (porterlaw17_BlocksTell_E N) c) : CodeOk Go.Proofs.Try.prog c (nodeAt porterlaw17_BlocksTell_body [0, 1, 0, 1, 1, 1]) (porterlaw17_BlocksTell_h3 N) :=
  loop_ok (s := [(0, .v (.sl (.int .i64))), (0, .v (.sl (.int .i64))), (0, .v (.int .i64)), (4, .v (.int .i64)), (0, .v (.int .i64))]) (m := 58) (porterlaw17_BlocksTell_g3 N) [8, 0, 2, 7, 1] N (fun x => (x.1, x.2.1, x.2.2.1)) (fun x => (x.2.2.2.1, x.2.2.2.2.1)) (fun i v => (i.1, i.2.1, i.2.2, v.1, v.2, ())) (fun _ => rfl) (evN_sound hb N (porterlaw17_BlocksTell_t3 N) porterlaw17_BlocksTell_L porterlaw17_BlocksTell_body (TabOk.cons (porterlaw17_BlocksTell_ok4 hb) TabOk.nil) [0, 0, 1, 0, 1, 1, 1] _ rfl) (fun i v r K => by kernel_rfl)

noncomputable def porterlaw17_BlocksTell (N : Nat) (a : (List Int)) (b : (List Int)) (k : Int) : Option Bool :=
  porterlaw17_BlocksTell_p1 N a b k
  (fun x6 => some x6)
  (porterlaw17_BlocksTell_p3 N a b k (-(1 : Int)) (Go.IntKind.wrap Go.IntKind.i64 ((((List.length a) : Nat) : Int) - (1 : Int)))
    (fun first => (blocks_Right N a).bind fun y =>
      (porterref17_Right N a).bind fun y1 =>
      cond (y == y1)
      ((blocks_Count N a).bind fun y2 =>
        (porterref17_Count N a).bind fun y3 =>
        cond (y2 == y3)
        ((blocks_First N a k).bind fun y4 =>
          cond (y4 == first)
          ((blocks_Meet N a b).bind fun y5 =>
            (porterref17_Meet N a b).bind fun y6 =>
            (porterbase_SameInts N y5 y6).bind fun y7 =>
            cond y7
            ((porterlaw17_works N).bind fun y8 =>
              some y8)
            (some false))
          (some false))
        (some false))
      (some false)))

noncomputable def porterlaw17_BlocksTell_t (N : Nat) : Tab Bool := [([0, 1], porterlaw17_BlocksTell_h1 N), ([0, 1, 0, 1, 1, 1], porterlaw17_BlocksTell_h3 N)]

theorem porterlaw17_BlocksTell_link (N : Nat) (x : denS [(0, .v (.sl (.int .i64))), (0, .v (.sl (.int .i64))), (0, .v (.int .i64))]) : evFX (porterlaw17_BlocksTell_E N) N (porterlaw17_BlocksTell_t N) porterlaw17_BlocksTell_L Go.Proofs.Try.f4 (mkS [(0, .v (.sl (.int .i64))), (0, .v (.sl (.int .i64))), (0, .v (.int .i64))] 0 x) (kRes (.v .bool) 3) = porterlaw17_BlocksTell N x.1 x.2.1 x.2.2.1 := by kernel_rfl

noncomputable def porterlaw17_BlocksTell_res (N : Nat) : List A → Res := resOf [(0, .v (.sl (.int .i64))), (0, .v (.sl (.int .i64))), (0, .v (.int .i64))] (fun x => porterlaw17_BlocksTell N x.1 x.2.1 x.2.2.1) (oRes (.v .bool) 3)

theorem porterlaw17_BlocksTell_ct (N : Nat) : Contract Go.Proofs.Try.prog noGlob 4 (porterlaw17_BlocksTell_res N) :=
  Contract.of (E := porterlaw17_BlocksTell_E N) (H := porterlaw17_BlocksTell_t N) (L := porterlaw17_BlocksTell_L) (N := N) (body := porterlaw17_BlocksTell_body) (K := (kRes (.v .bool) 3)) (porterlaw17_BlocksTell_Eok N) Go.Proofs.Try.func4 (by kernel_rfl) (by decide) (fun _ hb => (TabOk.cons (porterlaw17_BlocksTell_ok1 hb) (TabOk.cons (porterlaw17_BlocksTell_ok3 hb) TabOk.nil))) (fun x y h => by rw [porterlaw17_BlocksTell_link]; exact h) (kRes_ok (s := (.v .bool)) (m := 3))

abbrev porterlaw17_BlocksMeet_R : Type := Bool

noncomputable def porterlaw17_BlocksMeet_body : Code := (Go.Proofs.Try.f5.body).getD .skip

noncomputable def porterlaw17_BlocksMeet_L : List (List Nat × List Nat) := [([0], [0, 1]), ([0, 0, 1], [15, 0, 1]), ([1, 0, 1], [0, 1]), ([0, 0, 1, 0, 1], [4]), ([1, 0, 1, 0, 1], [4]), ([0, 1, 1], [0, 1, 5, 6]), ([0, 1, 1, 1], [7, 5, 6]), ([0, 1, 1, 1, 1], [4]), ([1, 1, 1, 1, 1], [4])]

noncomputable def porterlaw17_BlocksMeet_E (N : Nat) : Env := mkEnv tys noGlob [(20, blocks_Meet_res N), (13, porterbase_SameInts_res N), (11, porterlaw17_works_res N), (12, blocks_Of_res N)] [(5, (.int .i64)), (6, (.int .i64)), (7, (.arr 4 (.int .u64)))] [] [] false [] [(65, slices_Chunk1_itr N)]

theorem porterlaw17_BlocksMeet_Eok (N : Nat) : EnvOk Go.Proofs.Try.prog (porterlaw17_BlocksMeet_E N) := mkEnv_ok mixed tys_ok (FnsOk.cons (blocks_Meet_ct N) (FnsOk.cons (porterbase_SameInts_ct N) (FnsOk.cons (porterlaw17_works_ct N) (FnsOk.cons (blocks_Of_ct N) (FnsOk.nil))))) (ItsOk.cons (slices_Chunk1_it N) (ItsOk.nil))

noncomputable def porterlaw17_BlocksMeet_p2 (N : Nat) (a : (List (List Int))) (b : (List (List Int))) (k0 : Bool → Option Bool) : Option Bool :=
  cond (decide ((8 : Int) < (((List.length a) : Nat) : Int)))
  (k0 true)
  (k0 (decide ((8 : Int) < (((List.length b) : Nat) : Int))))

noncomputable def porterlaw17_BlocksMeet_g2 (N : Nat) (x : denS [(0, .v (.sl (.arr 4 (.int .u64)))), (0, .v (.sl (.arr 4 (.int .u64))))]) (K : Ex → List A → Option Bool) : Option Bool :=
  porterlaw17_BlocksMeet_p2 N x.1 x.2.1 (fun a2 => (K .normal (mkS [(0, .v (.sl (.arr 4 (.int .u64)))), (0, .v (.sl (.arr 4 (.int .u64)))), (13, .v .bool)] 35 (x.1, x.2.1, a2, ()))))

noncomputable def porterlaw17_BlocksMeet_h2 (N : Nat) : Hd Bool := fun st K => (unS [(0, .v (.sl (.arr 4 (.int .u64)))), (0, .v (.sl (.arr 4 (.int .u64))))] 49 (restr [0, 1] 0 st)).bind fun x => porterlaw17_BlocksMeet_g2 N x K

noncomputable def porterlaw17_BlocksMeet_t2 (N : Nat) : Tab Bool := []

theorem porterlaw17_BlocksMeet_ok2 {N : Nat} {c : Ctx} (hb : Base Go.Proofs.Try.prog (porterlaw17_BlocksMeet_E N) c) : CodeOk Go.Proofs.Try.prog c (nodeAt porterlaw17_BlocksMeet_body [0, 0, 1]) (porterlaw17_BlocksMeet_h2 N) :=
  piece_ok (s := [(0, .v (.sl (.arr 4 (.int .u64)))), (0, .v (.sl (.arr 4 (.int .u64))))]) (m := 49) (g := porterlaw17_BlocksMeet_g2 N) [0, 1] (evN_sound hb N (porterlaw17_BlocksMeet_t2 N) porterlaw17_BlocksMeet_L porterlaw17_BlocksMeet_body TabOk.nil [0, 0, 1] _ rfl) (fun x K => by kernel_rfl)

noncomputable def porterlaw17_BlocksMeet_p1 (N : Nat) (a : (List (List Int))) (b : (List (List Int))) (k0 : Bool → Option Bool) (k1 : Option Bool) : Option Bool :=
  porterlaw17_BlocksMeet_p2 N a b
  (fun x15 => cond x15
    ((porterlaw17_works N).bind fun y =>
      k0 y)
    (k1))

noncomputable def porterlaw17_BlocksMeet_g1 (N : Nat) (x : denS [(0, .v (.sl (.arr 4 (.int .u64)))), (0, .v (.sl (.arr 4 (.int .u64))))]) (K : Ex → List A → Option Bool) : Option Bool :=
  porterlaw17_BlocksMeet_p1 N x.1 x.2.1 (fun a0 => (K .ret (mkS [(4, .v .bool)] 46 (a0, ())))) (K .normal (mkS [(0, .v (.sl (.arr 4 (.int .u64)))), (0, .v (.sl (.arr 4 (.int .u64))))] 49 (x.1, x.2.1, ())))

noncomputable def porterlaw17_BlocksMeet_h1 (N : Nat) : Hd Bool := fun st K => (unS [(0, .v (.sl (.arr 4 (.int .u64)))), (0, .v (.sl (.arr 4 (.int .u64))))] 49 (restr [0, 1] 0 st)).bind fun x => porterlaw17_BlocksMeet_g1 N x K

noncomputable def porterlaw17_BlocksMeet_t1 (N : Nat) : Tab Bool := [([0, 0, 1], porterlaw17_BlocksMeet_h2 N)]

theorem porterlaw17_BlocksMeet_ok1 {N : Nat} {c : Ctx} (hb : Base Go.Proofs.Try.prog (porterlaw17_BlocksMeet_E N) c) : CodeOk Go.Proofs.Try.prog c (nodeAt porterlaw17_BlocksMeet_body [0, 1]) (porterlaw17_BlocksMeet_h1 N) :=
  piece_ok (s := [(0, .v (.sl (.arr 4 (.int .u64)))), (0, .v (.sl (.arr 4 (.int .u64))))]) (m := 49) (g := porterlaw17_BlocksMeet_g1 N) [0, 1] (evN_sound hb N (porterlaw17_BlocksMeet_t1 N) porterlaw17_BlocksMeet_L porterlaw17_BlocksMeet_body (TabOk.cons (porterlaw17_BlocksMeet_ok2 hb) TabOk.nil) [0, 1] _ rfl) (fun x K => by kernel_rfl)

noncomputable def porterlaw17_BlocksMeet (N : Nat) (a : (List (List Int))) (b : (List (List Int))) : Option Bool :=
  porterlaw17_BlocksMeet_p1 N a b
  (fun x4 => some x4)
  ((blocks_Of N a).bind fun y =>
    (blocks_Of N b).bind fun y1 =>
    cond (decide (((0 + (List.length a)) * 32) ≤ 70368744177664))
    (cond (decide ((((List.length (([] : List (List Int)) ++ a)) + (List.length b)) * 32) ≤ 70368744177664))
      ((blocks_Of N ((([] : List (List Int)) ++ a) ++ b)).bind fun y2 =>
        (blocks_Meet N y y1).bind fun y3 =>
        (porterbase_SameInts N y2 y3).bind fun y4 =>
        cond y4
        ((blocks_Meet N y y1).bind fun y5 =>
          (blocks_Meet N y1 y).bind fun y6 =>
          (porterbase_SameInts N y5 y6).bind fun y7 =>
          cond y7
          ((blocks_Meet N y y).bind fun y8 =>
            (porterbase_SameInts N y8 y).bind fun y9 =>
            cond y9
            ((porterlaw17_works N).bind fun y10 =>
              some y10)
            (some false))
          (some false))
        (some false))
      (none))
    (none))

noncomputable def porterlaw17_BlocksMeet_t (N : Nat) : Tab Bool := [([0, 1], porterlaw17_BlocksMeet_h1 N)]

theorem porterlaw17_BlocksMeet_link (N : Nat) (x : denS [(0, .v (.sl (.arr 4 (.int .u64)))), (0, .v (.sl (.arr 4 (.int .u64))))]) : evFX (porterlaw17_BlocksMeet_E N) N (porterlaw17_BlocksMeet_t N) porterlaw17_BlocksMeet_L Go.Proofs.Try.f5 (mkS [(0, .v (.sl (.arr 4 (.int .u64)))), (0, .v (.sl (.arr 4 (.int .u64))))] 0 x) (kRes (.v .bool) 2) = porterlaw17_BlocksMeet N x.1 x.2.1 := by kernel_rfl

noncomputable def porterlaw17_BlocksMeet_res (N : Nat) : List A → Res := resOf [(0, .v (.sl (.arr 4 (.int .u64)))), (0, .v (.sl (.arr 4 (.int .u64))))] (fun x => porterlaw17_BlocksMeet N x.1 x.2.1) (oRes (.v .bool) 2)

theorem porterlaw17_BlocksMeet_ct (N : Nat) : Contract Go.Proofs.Try.prog noGlob 5 (porterlaw17_BlocksMeet_res N) :=
  Contract.of (E := porterlaw17_BlocksMeet_E N) (H := porterlaw17_BlocksMeet_t N) (L := porterlaw17_BlocksMeet_L) (N := N) (body := porterlaw17_BlocksMeet_body) (K := (kRes (.v .bool) 2)) (porterlaw17_BlocksMeet_Eok N) Go.Proofs.Try.func5 (by kernel_rfl) (by decide) (fun _ hb => (TabOk.cons (porterlaw17_BlocksMeet_ok1 hb) TabOk.nil)) (fun x y h => by rw [porterlaw17_BlocksMeet_link]; exact h) (kRes_ok (s := (.v .bool)) (m := 2))

end Go.Proofs.YtkpmnnabpiieoaaLg
