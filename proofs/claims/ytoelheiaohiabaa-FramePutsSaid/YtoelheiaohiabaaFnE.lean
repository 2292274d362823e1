/- The functions of the seat, as plain functions, and what their calls do. Printed by a program of mine; checked here. -/
import Derived.Test.YtoelheiaohiabaaLfW
import Derived.Test.YtoelheiaohiabaaChecked
import Derived.KernelRfl
set_option linter.all false
set_option maxRecDepth 100000
namespace Go.Proofs.YtoelheiaohiabaaLf
open Go Go.Lift

noncomputable def ty3 : TyI := ⟨(Go.TypeDesc.int Go.IntKind.i64), 1, 8, (.int .i64), (0 : Int), false⟩

theorem ty3_ok : TyOk Go.Proofs.Try.prog 3 ty3 := TyOk.of (by kernel_rfl) (by kernel_rfl) (by kernel_rfl) (by kernel_rfl)

noncomputable def ty4 : TyI := ⟨Go.TypeDesc.bool, 1, 1, .bool, false, false⟩

theorem ty4_ok : TyOk Go.Proofs.Try.prog 4 ty4 := TyOk.of (by kernel_rfl) (by kernel_rfl) (by kernel_rfl) (by kernel_rfl)

noncomputable def ty5 : TyI := ⟨(Go.TypeDesc.int Go.IntKind.u8), 1, 1, (.int .u8), (0 : Int), false⟩

theorem ty5_ok : TyOk Go.Proofs.Try.prog 5 ty5 := TyOk.of (by kernel_rfl) (by kernel_rfl) (by kernel_rfl) (by kernel_rfl)

noncomputable def ty9 : TyI := ⟨Go.TypeDesc.string, 1, 16, .str, ([] : List UInt8), false⟩

theorem ty9_ok : TyOk Go.Proofs.Try.prog 9 ty9 := TyOk.of (by kernel_rfl) (by kernel_rfl) (by kernel_rfl) (by kernel_rfl)

noncomputable def ty23 : TyI := ⟨(Go.TypeDesc.struct (List.toArray ([(Go.Field.mk "Mark" 3 0 false "" "" 0), (Go.Field.mk "Kind" 3 1 false "" "" 8), (Go.Field.mk "Text" 9 2 false "" "" 16)] : List Go.Field))), 3, 32, (.pair (.int .i64) (.pair (.int .i64) (.pair .str .unit))), ((0 : Int), (0 : Int), ([] : List UInt8), ()), true⟩

theorem ty23_ok : TyOk Go.Proofs.Try.prog 23 ty23 := TyOk.of (by kernel_rfl) (by kernel_rfl) (by kernel_rfl) (by kernel_rfl)

noncomputable def ty25 : TyI := ⟨(Go.TypeDesc.int Go.IntKind.i64), 1, 8, (.int .i64), (0 : Int), false⟩

theorem ty25_ok : TyOk Go.Proofs.Try.prog 25 ty25 := TyOk.of (by kernel_rfl) (by kernel_rfl) (by kernel_rfl) (by kernel_rfl)

noncomputable def ty38 : TyI := ⟨(Go.TypeDesc.slice 5), 1, 24, (.sl (.int .u8)), ([] : List Int), false⟩

theorem ty38_ok : TyOk Go.Proofs.Try.prog 38 ty38 := TyOk.of (by kernel_rfl) (by kernel_rfl) (by kernel_rfl) (by kernel_rfl)

noncomputable def ty42 : TyI := ⟨(Go.TypeDesc.int Go.IntKind.u64), 1, 8, (.int .u64), (0 : Int), false⟩

theorem ty42_ok : TyOk Go.Proofs.Try.prog 42 ty42 := TyOk.of (by kernel_rfl) (by kernel_rfl) (by kernel_rfl) (by kernel_rfl)

noncomputable def tys : List (Nat × TyI) := [(3, ty3), (4, ty4), (5, ty5), (9, ty9), (23, ty23), (25, ty25), (38, ty38), (42, ty42)]

theorem tys_ok : TysOk Go.Proofs.Try.prog tys := TysOk.cons ty3_ok (TysOk.cons ty4_ok (TysOk.cons ty5_ok (TysOk.cons ty9_ok (TysOk.cons ty23_ok (TysOk.cons ty25_ok (TysOk.cons ty38_ok (TysOk.cons ty42_ok (TysOk.nil))))))))

theorem mixed : Go.Proofs.Try.prog.follows .mixedOrders = true := by kernel_rfl

abbrev frame_littleEndian_R : Type := (List UInt8)

noncomputable def frame_littleEndian_body : Code := (Go.Proofs.Try.f14.body).getD .skip

noncomputable def frame_littleEndian_L : List (List Nat × List Nat) := [([0], [0]), ([0, 1], [3, 0]), ([0, 0, 1, 1], [6, 3, 0]), ([0, 1, 0, 1, 1], [6, 3, 0]), ([0, 0, 0, 1, 0, 1, 1], [7, 6, 3, 0]), ([0, 1, 0, 0, 1, 0, 1, 1], [6, 3, 0]), ([1, 0, 1, 0, 0, 1, 0, 1, 1], [3]), ([0, 0, 0, 1, 1, 0, 0, 1, 0, 1, 1], [3, 4, 0, 6]), ([1, 0, 0, 1, 1, 0, 0, 1, 0, 1, 1], [6, 3, 0]), ([0, 1, 1, 0, 0, 1, 0, 1, 1], [6, 3, 0]), ([1, 1, 1, 0, 0, 1, 0, 1, 1], [6, 3, 0]), ([1, 0, 1, 1], [3]), ([0, 1, 1, 1], [2]), ([1, 1, 1, 1], [2])]

noncomputable def frame_littleEndian_E (N : Nat) : Env := mkEnv tys noGlob [] [(3, (.int .u8))] [] [] false

theorem frame_littleEndian_Eok (N : Nat) : EnvOk Go.Proofs.Try.prog (frame_littleEndian_E N) := mkEnv_ok mixed tys_ok (FnsOk.nil)

noncomputable def frame_littleEndian_s1 (N : Nat) (n : Int) (out : (List Int)) (x6 : Int) (rec : (List Int) → Int → Option (List UInt8)) (k0 : (List Int) → Option (List UInt8)) : Option (List UInt8) :=
  cond (decide (x6 < (8 : Int)))
  (cond (decide ((0 : Int) ≤ (Go.IntKind.wrap Go.IntKind.i64 ((8 : Int) * x6))))
    (cond (Go.Lift.inR x6 (List.length out))
      (cond (decide ((Int.toNat x6) < (List.length out)))
        (rec (List.set out (Int.toNat x6) (Go.IntKind.wrap Go.IntKind.u8 (Go.Lift.shrI Go.IntKind.i64 n (Go.IntKind.wrap Go.IntKind.i64 ((8 : Int) * x6))))) (Go.IntKind.wrap Go.IntKind.i64 (x6 + (1 : Int))))
        (none))
      (none))
    (none))
  (k0 out)

noncomputable def frame_littleEndian_p1 (N : Nat) (n : Int) (out : (List Int)) (x6 : Int) (k0 : (List Int) → Option (List UInt8)) : Option (List UInt8) :=
  iter (fun (v : ((List Int) × Int)) r => frame_littleEndian_s1 N n v.1 v.2 (fun out x6 => (r (out, x6))) k0) N (out, x6)

noncomputable def frame_littleEndian_g1 (N : Nat) (i : Int) (v : ((List Int) × Int)) (r : ((List Int) × Int) → Option (List UInt8)) (K : Ex → List A → Option (List UInt8)) : Option (List UInt8) :=
  frame_littleEndian_s1 N i v.1 v.2 (fun out x6 => (r (out, x6))) (fun a0 => (K (.exit 0) (mkS [(3, .row (.int .u8))] 16 (a0, ()))))

noncomputable def frame_littleEndian_h1 (N : Nat) : Hd (List UInt8) := fun st K => (unS [(0, .v (.int .i64)), (2, .row (.int .u8)), (2, .v (.int .i64))] 13 (restr [6, 3, 0] 0 st)).bind fun x => iter (fun v r => frame_littleEndian_g1 N ((fun x => x.1) x) v r K) N ((fun x => (x.2.1, x.2.2.1)) x)

noncomputable def frame_littleEndian_t1 (N : Nat) : Tab (List UInt8) := []

theorem frame_littleEndian_ok1 {N : Nat} {c : Ctx} (hb : Base Go.Proofs.Try.prog (frame_littleEndian_E N) c) : CodeOk Go.Proofs.Try.prog c (nodeAt frame_littleEndian_body [0, 1, 0, 1, 1]) (frame_littleEndian_h1 N) :=
  loop_ok (s := [(0, .v (.int .i64)), (2, .row (.int .u8)), (2, .v (.int .i64))]) (m := 13) (frame_littleEndian_g1 N) [6, 3, 0] N (fun x => x.1) (fun x => (x.2.1, x.2.2.1)) (fun i v => (i, v.1, v.2, ())) (fun _ => rfl) (evN_sound hb N (frame_littleEndian_t1 N) frame_littleEndian_L frame_littleEndian_body TabOk.nil [0, 0, 1, 0, 1, 1] _ rfl) (fun i v r K => by kernel_rfl)

noncomputable def frame_littleEndian (N : Nat) (n : Int) : Option (List UInt8) :=
  frame_littleEndian_p1 N n ([(0 : Int), (0 : Int), (0 : Int), (0 : Int), (0 : Int), (0 : Int), (0 : Int), (0 : Int)] : List Int) (0 : Int)
  (fun out => some (Go.Lift.toStr out))

noncomputable def frame_littleEndian_t (N : Nat) : Tab (List UInt8) := [([0, 1, 0, 1, 1], frame_littleEndian_h1 N)]

theorem frame_littleEndian_link (N : Nat) (x : denS [(0, .v (.int .i64))]) : evFX (frame_littleEndian_E N) N (frame_littleEndian_t N) frame_littleEndian_L Go.Proofs.Try.f14 (mkS [(0, .v (.int .i64))] 0 x) (kRes (.v .str) 1) = frame_littleEndian N x.1 := by kernel_rfl

noncomputable def frame_littleEndian_res (N : Nat) : List A → Res := resOf [(0, .v (.int .i64))] (fun x => frame_littleEndian N x.1) (oRes (.v .str) 1)

theorem frame_littleEndian_ct (N : Nat) : Contract Go.Proofs.Try.prog noGlob 14 (frame_littleEndian_res N) :=
  Contract.of (E := frame_littleEndian_E N) (H := frame_littleEndian_t N) (L := frame_littleEndian_L) (N := N) (body := frame_littleEndian_body) (K := (kRes (.v .str) 1)) (frame_littleEndian_Eok N) Go.Proofs.Try.func14 (by kernel_rfl) (by decide) (fun _ hb => (TabOk.cons (frame_littleEndian_ok1 hb) TabOk.nil)) (fun x y h => by rw [frame_littleEndian_link]; exact h) (kRes_ok (s := (.v .str)) (m := 1))

abbrev octet_Pad_R : Type := (List UInt8)

noncomputable def octet_Pad_body : Code := (Go.Proofs.Try.f15.body).getD .skip

noncomputable def octet_Pad_L : List (List Nat × List Nat) := [([0], [1, 0]), ([0, 1], [1, 0]), ([0, 0, 1, 1], [10, 0, 1]), ([1, 0, 1, 1], [0, 1]), ([0, 0, 1, 0, 1, 1], [4]), ([1, 0, 1, 0, 1, 1], [4]), ([0, 1, 1, 1], [4]), ([1, 1, 1, 1], [4])]

noncomputable def octet_Pad_E (N : Nat) : Env := mkEnv tys noGlob [] [] [] [] false

theorem octet_Pad_Eok (N : Nat) : EnvOk Go.Proofs.Try.prog (octet_Pad_E N) := mkEnv_ok mixed tys_ok (FnsOk.nil)

noncomputable def octet_Pad (N : Nat) (s : (List UInt8)) (n : Int) : Option (List UInt8) :=
  cond (decide ((if ((65536 : Int) < n) then (65536 : Int) else n) ≤ (((List.length s) : Nat) : Int)))
  (some s)
  (cond (decide (((0 : Int) ≤ (Go.IntKind.wrap Go.IntKind.i64 ((if ((65536 : Int) < n) then (65536 : Int) else n) - (((List.length s) : Nat) : Int)))) ∧ (((Go.IntKind.wrap Go.IntKind.i64 ((if ((65536 : Int) < n) then (65536 : Int) else n) - (((List.length s) : Nat) : Int))) ≤ (Go.IntKind.wrap Go.IntKind.i64 ((if ((65536 : Int) < n) then (65536 : Int) else n) - (((List.length s) : Nat) : Int)))) ∧ ((((Go.IntKind.wrap Go.IntKind.i64 ((if ((65536 : Int) < n) then (65536 : Int) else n) - (((List.length s) : Nat) : Int))) * (1 : Int)) ≤ (281474976710656 : Int)) ∧ ((Go.IntKind.wrap Go.IntKind.i64 ((if ((65536 : Int) < n) then (65536 : Int) else n) - (((List.length s) : Nat) : Int))) ≤ (9223372036854775807 : Int))))))
    (cond (decide (((List.length s) + (List.length (Go.Lift.toStr (List.replicate (Int.toNat (Go.IntKind.wrap Go.IntKind.i64 ((if ((65536 : Int) < n) then (65536 : Int) else n) - (((List.length s) : Nat) : Int)))) (0 : Int))))) ≤ 9223372036854775807))
      (some (s ++ (Go.Lift.toStr (List.replicate (Int.toNat (Go.IntKind.wrap Go.IntKind.i64 ((if ((65536 : Int) < n) then (65536 : Int) else n) - (((List.length s) : Nat) : Int)))) (0 : Int)))))
      (none))
    (none))

noncomputable def octet_Pad_t (N : Nat) : Tab (List UInt8) := []

theorem octet_Pad_link (N : Nat) (x : denS [(0, .v .str), (0, .v (.int .i64))]) : evFX (octet_Pad_E N) N (octet_Pad_t N) octet_Pad_L Go.Proofs.Try.f15 (mkS [(0, .v .str), (0, .v (.int .i64))] 0 x) (kRes (.v .str) 2) = octet_Pad N x.1 x.2.1 := by kernel_rfl

noncomputable def octet_Pad_res (N : Nat) : List A → Res := resOf [(0, .v .str), (0, .v (.int .i64))] (fun x => octet_Pad N x.1 x.2.1) (oRes (.v .str) 2)

theorem octet_Pad_ct (N : Nat) : Contract Go.Proofs.Try.prog noGlob 15 (octet_Pad_res N) :=
  Contract.of (E := octet_Pad_E N) (H := octet_Pad_t N) (L := octet_Pad_L) (N := N) (body := octet_Pad_body) (K := (kRes (.v .str) 2)) (octet_Pad_Eok N) Go.Proofs.Try.func15 (by kernel_rfl) (by decide) (fun _ hb => TabOk.nil) (fun x y h => by rw [octet_Pad_link]; exact h) (kRes_ok (s := (.v .str)) (m := 2))

abbrev frame_Put_R : Type := ((List UInt8) × Int × Unit)

noncomputable def frame_Put_body : Code := (Go.Proofs.Try.f8.body).getD .skip

noncomputable def frame_Put_L : List (List Nat × List Nat) := [([0], [1]), ([0, 0, 1], [18, 1]), ([1, 0, 1], [1]), ([0, 0, 1, 0, 1], [2, 3]), ([1, 0, 1, 0, 1], [2, 3]), ([0, 0, 1, 1], [22, 1]), ([1, 0, 1, 1], [1]), ([0, 0, 1, 0, 1, 1], [2, 3]), ([1, 0, 1, 0, 1, 1], [2, 3]), ([0, 1, 1, 1], [1, 4]), ([0, 1, 1, 1, 1], [4, 5, 1]), ([0, 1, 1, 1, 1, 1], [2, 3]), ([1, 1, 1, 1, 1, 1], [2, 3])]

noncomputable def frame_Put_E (N : Nat) : Env := mkEnv tys noGlob [(15, octet_Pad_res N), (14, frame_littleEndian_res N)] [] [] [] false

theorem frame_Put_Eok (N : Nat) : EnvOk Go.Proofs.Try.prog (frame_Put_E N) := mkEnv_ok mixed tys_ok (FnsOk.cons (octet_Pad_ct N) (FnsOk.cons (frame_littleEndian_ct N) (FnsOk.nil)))

noncomputable def frame_Put_p2 (N : Nat) (f : (Int × (Int × ((List UInt8) × Unit)))) (k0 : Bool → Option ((List UInt8) × Int × Unit)) : Option ((List UInt8) × Int × Unit) :=
  cond (decide (f.1 < (1 : Int)))
  (k0 true)
  (cond (decide (f.2.1 < (0 : Int)))
    (k0 true)
    (k0 (decide ((255 : Int) < f.2.1))))

noncomputable def frame_Put_g2 (N : Nat) (x : denS [(1, .box (.pair (.int .i64) (.pair (.int .i64) (.pair .str .unit))))]) (K : Ex → List A → Option ((List UInt8) × Int × Unit)) : Option ((List UInt8) × Int × Unit) :=
  frame_Put_p2 N x.1 (fun a1 => (K .normal (mkS [(1, .box (.pair (.int .i64) (.pair (.int .i64) (.pair .str .unit)))), (16, .v .bool)] 25 (x.1, a1, ()))))

noncomputable def frame_Put_h2 (N : Nat) : Hd ((List UInt8) × Int × Unit) := fun st K => (unS [(1, .box (.pair (.int .i64) (.pair (.int .i64) (.pair .str .unit))))] 42 (restr [1] 0 st)).bind fun x => frame_Put_g2 N x K

noncomputable def frame_Put_t2 (N : Nat) : Tab ((List UInt8) × Int × Unit) := []

theorem frame_Put_ok2 {N : Nat} {c : Ctx} (hb : Base Go.Proofs.Try.prog (frame_Put_E N) c) : CodeOk Go.Proofs.Try.prog c (nodeAt frame_Put_body [0, 0, 1]) (frame_Put_h2 N) :=
  piece_ok (s := [(1, .box (.pair (.int .i64) (.pair (.int .i64) (.pair .str .unit))))]) (m := 42) (g := frame_Put_g2 N) [1] (evN_sound hb N (frame_Put_t2 N) frame_Put_L frame_Put_body TabOk.nil [0, 0, 1] _ rfl) (fun x K => by kernel_rfl)

noncomputable def frame_Put_p1 (N : Nat) (f : (Int × (Int × ((List UInt8) × Unit)))) (k0 : (List UInt8) → Int → Option ((List UInt8) × Int × Unit)) (k1 : Option ((List UInt8) × Int × Unit)) : Option ((List UInt8) × Int × Unit) :=
  frame_Put_p2 N f
  (fun x18 => cond x18
    (k0 ([] : List UInt8) (7 : Int))
    (k1))

noncomputable def frame_Put_g1 (N : Nat) (x : denS [(1, .box (.pair (.int .i64) (.pair (.int .i64) (.pair .str .unit))))]) (K : Ex → List A → Option ((List UInt8) × Int × Unit)) : Option ((List UInt8) × Int × Unit) :=
  frame_Put_p1 N x.1 (fun a0 a1 => (K .ret (mkS [(2, .v .str), (0, .v (.int .i64))] 40 (a0, a1, ())))) (K .normal (mkS [(1, .box (.pair (.int .i64) (.pair (.int .i64) (.pair .str .unit))))] 42 (x.1, ())))

noncomputable def frame_Put_h1 (N : Nat) : Hd ((List UInt8) × Int × Unit) := fun st K => (unS [(1, .box (.pair (.int .i64) (.pair (.int .i64) (.pair .str .unit))))] 42 (restr [1] 0 st)).bind fun x => frame_Put_g1 N x K

noncomputable def frame_Put_t1 (N : Nat) : Tab ((List UInt8) × Int × Unit) := [([0, 0, 1], frame_Put_h2 N)]

theorem frame_Put_ok1 {N : Nat} {c : Ctx} (hb : Base Go.Proofs.Try.prog (frame_Put_E N) c) : CodeOk Go.Proofs.Try.prog c (nodeAt frame_Put_body [0, 1]) (frame_Put_h1 N) :=
  piece_ok (s := [(1, .box (.pair (.int .i64) (.pair (.int .i64) (.pair .str .unit))))]) (m := 42) (g := frame_Put_g1 N) [1] (evN_sound hb N (frame_Put_t1 N) frame_Put_L frame_Put_body (TabOk.cons (frame_Put_ok2 hb) TabOk.nil) [0, 1] _ rfl) (fun x K => by kernel_rfl)

noncomputable def frame_Put (N : Nat) (f : (Int × (Int × ((List UInt8) × Unit)))) : Option ((List UInt8) × Int × Unit) :=
  frame_Put_p1 N f
  (fun x2 x3 => some (x2, (x3, ())))
  (cond (decide ((110 : Int) < (((List.length f.2.2.1) : Nat) : Int)))
    (some (([] : List UInt8), ((3 : Int), ())))
    ((frame_littleEndian N f.1).bind fun y =>
      cond (decide (((List.length y) + (List.length (Go.Lift.toStr ([(Go.IntKind.wrap Go.IntKind.u8 f.2.1), (Go.IntKind.wrap Go.IntKind.u8 (((List.length f.2.2.1) : Nat) : Int))] : List Int)))) ≤ 9223372036854775807))
      ((octet_Pad N f.2.2.1 (110 : Int)).bind fun y1 =>
        cond (decide (((List.length (y ++ (Go.Lift.toStr ([(Go.IntKind.wrap Go.IntKind.u8 f.2.1), (Go.IntKind.wrap Go.IntKind.u8 (((List.length f.2.2.1) : Nat) : Int))] : List Int)))) + (List.length y1)) ≤ 9223372036854775807))
        (cond (decide (((List.length ((y ++ (Go.Lift.toStr ([(Go.IntKind.wrap Go.IntKind.u8 f.2.1), (Go.IntKind.wrap Go.IntKind.u8 (((List.length f.2.2.1) : Nat) : Int))] : List Int))) ++ y1)) + (List.length y)) ≤ 9223372036854775807))
          (some ((((y ++ (Go.Lift.toStr ([(Go.IntKind.wrap Go.IntKind.u8 f.2.1), (Go.IntKind.wrap Go.IntKind.u8 (((List.length f.2.2.1) : Nat) : Int))] : List Int))) ++ y1) ++ y), ((0 : Int), ())))
          (none))
        (none))
      (none)))

noncomputable def frame_Put_t (N : Nat) : Tab ((List UInt8) × Int × Unit) := [([0, 1], frame_Put_h1 N)]

theorem frame_Put_link (N : Nat) (x : denS [(0, .v (.pair (.int .i64) (.pair (.int .i64) (.pair .str .unit))))]) : evFX (frame_Put_E N) N (frame_Put_t N) frame_Put_L Go.Proofs.Try.f8 (mkS [(0, .v (.pair (.int .i64) (.pair (.int .i64) (.pair .str .unit))))] 0 x) (kRes (.tup [.str, (.int .i64)]) 1) = frame_Put N x.1 := by kernel_rfl

noncomputable def frame_Put_res (N : Nat) : List A → Res := resOf [(0, .v (.pair (.int .i64) (.pair (.int .i64) (.pair .str .unit))))] (fun x => frame_Put N x.1) (oRes (.tup [.str, (.int .i64)]) 1)

theorem frame_Put_ct (N : Nat) : Contract Go.Proofs.Try.prog noGlob 8 (frame_Put_res N) :=
  Contract.of (E := frame_Put_E N) (H := frame_Put_t N) (L := frame_Put_L) (N := N) (body := frame_Put_body) (K := (kRes (.tup [.str, (.int .i64)]) 1)) (frame_Put_Eok N) Go.Proofs.Try.func8 (by kernel_rfl) (by decide) (fun _ hb => (TabOk.cons (frame_Put_ok1 hb) TabOk.nil)) (fun x y h => by rw [frame_Put_link]; exact h) (kRes_ok (s := (.tup [.str, (.int .i64)])) (m := 1))

abbrev frame_number_R : Type := Int

noncomputable def frame_number_body : Code := (Go.Proofs.Try.f20.body).getD .skip

noncomputable def frame_number_L : List (List Nat × List Nat) := [([0], [0]), ([0, 1], [3, 0]), ([0, 0, 1, 1], [5, 3, 0]), ([0, 1, 0, 1, 1], [5, 3, 0]), ([0, 0, 0, 1, 0, 1, 1], [6, 5, 3, 0]), ([0, 1, 0, 0, 1, 0, 1, 1], [5, 3, 0]), ([1, 0, 1, 0, 0, 1, 0, 1, 1], [3]), ([0, 0, 0, 1, 1, 0, 0, 1, 0, 1, 1], [3, 0, 4, 5]), ([1, 0, 0, 1, 1, 0, 0, 1, 0, 1, 1], [5, 3, 0]), ([0, 1, 1, 0, 0, 1, 0, 1, 1], [5, 3, 0]), ([1, 1, 1, 0, 0, 1, 0, 1, 1], [5, 3, 0]), ([1, 0, 1, 1], [3]), ([0, 1, 1, 1], [2]), ([1, 1, 1, 1], [2])]

noncomputable def frame_number_E (N : Nat) : Env := mkEnv tys noGlob [] [] [] [] false

theorem frame_number_Eok (N : Nat) : EnvOk Go.Proofs.Try.prog (frame_number_E N) := mkEnv_ok mixed tys_ok (FnsOk.nil)

noncomputable def frame_number_s1 (N : Nat) (s : (List UInt8)) (n : Int) (x5 : Int) (rec : Int → Int → Option Int) (k0 : Int → Option Int) : Option Int :=
  cond (decide (x5 < (8 : Int)))
  (cond (Go.Lift.inR x5 (List.length s))
    (cond (decide ((0 : Int) ≤ (Go.IntKind.wrap Go.IntKind.i64 ((8 : Int) * x5))))
      (rec (Go.Lift.bitsOp Go.BinOp.or Go.IntKind.u64 n (Go.Lift.shlI Go.IntKind.u64 (Go.IntKind.wrap Go.IntKind.u64 (((UInt8.toNat (List.getD s (Int.toNat x5) (0 : UInt8))) : Nat) : Int)) (Go.IntKind.wrap Go.IntKind.i64 ((8 : Int) * x5)))) (Go.IntKind.wrap Go.IntKind.i64 (x5 + (1 : Int))))
      (none))
    (none))
  (k0 n)

noncomputable def frame_number_p1 (N : Nat) (s : (List UInt8)) (n : Int) (x5 : Int) (k0 : Int → Option Int) : Option Int :=
  iter (fun (v : (Int × Int)) r => frame_number_s1 N s v.1 v.2 (fun n x5 => (r (n, x5))) k0) N (n, x5)

noncomputable def frame_number_g1 (N : Nat) (i : (List UInt8)) (v : (Int × Int)) (r : (Int × Int) → Option Int) (K : Ex → List A → Option Int) : Option Int :=
  frame_number_s1 N i v.1 v.2 (fun n x5 => (r (n, x5))) (fun a0 => (K (.exit 0) (mkS [(3, .v (.int .u64))] 16 (a0, ()))))

noncomputable def frame_number_h1 (N : Nat) : Hd Int := fun st K => (unS [(0, .v .str), (2, .v (.int .u64)), (1, .v (.int .i64))] 14 (restr [5, 3, 0] 0 st)).bind fun x => iter (fun v r => frame_number_g1 N ((fun x => x.1) x) v r K) N ((fun x => (x.2.1, x.2.2.1)) x)

noncomputable def frame_number_t1 (N : Nat) : Tab Int := []

theorem frame_number_ok1 {N : Nat} {c : Ctx} (hb : Base Go.Proofs.Try.prog (frame_number_E N) c) : CodeOk Go.Proofs.Try.prog c (nodeAt frame_number_body [0, 1, 0, 1, 1]) (frame_number_h1 N) :=
  loop_ok (s := [(0, .v .str), (2, .v (.int .u64)), (1, .v (.int .i64))]) (m := 14) (frame_number_g1 N) [5, 3, 0] N (fun x => x.1) (fun x => (x.2.1, x.2.2.1)) (fun i v => (i, v.1, v.2, ())) (fun _ => rfl) (evN_sound hb N (frame_number_t1 N) frame_number_L frame_number_body TabOk.nil [0, 0, 1, 0, 1, 1] _ rfl) (fun i v r K => by kernel_rfl)

noncomputable def frame_number (N : Nat) (s : (List UInt8)) : Option Int :=
  frame_number_p1 N s (0 : Int) (0 : Int)
  (fun n => some (Go.IntKind.wrap Go.IntKind.i64 n))

noncomputable def frame_number_t (N : Nat) : Tab Int := [([0, 1, 0, 1, 1], frame_number_h1 N)]

theorem frame_number_link (N : Nat) (x : denS [(0, .v .str)]) : evFX (frame_number_E N) N (frame_number_t N) frame_number_L Go.Proofs.Try.f20 (mkS [(0, .v .str)] 0 x) (kRes (.v (.int .i64)) 1) = frame_number N x.1 := by kernel_rfl

noncomputable def frame_number_res (N : Nat) : List A → Res := resOf [(0, .v .str)] (fun x => frame_number N x.1) (oRes (.v (.int .i64)) 1)

theorem frame_number_ct (N : Nat) : Contract Go.Proofs.Try.prog noGlob 20 (frame_number_res N) :=
  Contract.of (E := frame_number_E N) (H := frame_number_t N) (L := frame_number_L) (N := N) (body := frame_number_body) (K := (kRes (.v (.int .i64)) 1)) (frame_number_Eok N) Go.Proofs.Try.func20 (by kernel_rfl) (by decide) (fun _ hb => (TabOk.cons (frame_number_ok1 hb) TabOk.nil)) (fun x y h => by rw [frame_number_link]; exact h) (kRes_ok (s := (.v (.int .i64))) (m := 1))

abbrev frame_decode_R : Type := (Int × (Int × ((List UInt8) × Unit)))

noncomputable def frame_decode_body : Code := (Go.Proofs.Try.f19.body).getD .skip

noncomputable def frame_decode_L : List (List Nat × List Nat) := [([0], [0, 2]), ([0, 0, 1], [9, 2, 0]), ([1, 0, 1], [0, 2]), ([0, 0, 1, 0, 1], [2]), ([1, 0, 1, 0, 1], [2]), ([0, 1, 1], [3, 2, 0]), ([0, 0, 1, 1, 1], [15, 2, 0, 3]), ([1, 0, 1, 1, 1], [0, 3, 2]), ([0, 0, 1, 0, 1, 1, 1], [2]), ([1, 0, 1, 0, 1, 1, 1], [2]), ([0, 1, 1, 1, 1], [4, 0, 2]), ([0, 0, 1, 1, 1, 1, 1], [6, 5, 0, 2, 4]), ([0, 1, 0, 1, 1, 1, 1, 1], [39, 2, 4]), ([1, 1, 0, 1, 1, 1, 1, 1], [4, 2]), ([0, 0, 1, 1, 0, 1, 1, 1, 1, 1], [2]), ([1, 0, 1, 1, 0, 1, 1, 1, 1, 1], [2]), ([0, 1, 1, 1, 1, 1, 1], [2]), ([1, 1, 1, 1, 1, 1, 1], [2])]

noncomputable def frame_decode_E (N : Nat) : Env := mkEnv tys noGlob [(20, frame_number_res N), (8, frame_Put_res N)] [] [] [] false

theorem frame_decode_Eok (N : Nat) : EnvOk Go.Proofs.Try.prog (frame_decode_E N) := mkEnv_ok mixed tys_ok (FnsOk.cons (frame_number_ct N) (FnsOk.cons (frame_Put_ct N) (FnsOk.nil)))

noncomputable def frame_decode_p1 (N : Nat) (block : (List UInt8)) (x2 : (Int × (Int × ((List UInt8) × Unit)))) (f : (Int × (Int × ((List UInt8) × Unit)))) (same : (List UInt8)) (e : Int) (k0 : Bool → Option (Int × (Int × ((List UInt8) × Unit)))) : Option (Int × (Int × ((List UInt8) × Unit))) :=
  cond (e != (0 : Int))
  (k0 true)
  (k0 (!(same == block)))

noncomputable def frame_decode_g1 (N : Nat) (x : denS [(0, .v .str), (1, .box (.pair (.int .i64) (.pair (.int .i64) (.pair .str .unit)))), (1, .box (.pair (.int .i64) (.pair (.int .i64) (.pair .str .unit)))), (0, .v .str), (0, .v (.int .i64))]) (K : Ex → List A → Option (Int × (Int × ((List UInt8) × Unit)))) : Option (Int × (Int × ((List UInt8) × Unit))) :=
  frame_decode_p1 N x.1 x.2.1 x.2.2.1 x.2.2.2.1 x.2.2.2.2.1 (fun a2 => (K .normal (mkS [(2, .box (.pair (.int .i64) (.pair (.int .i64) (.pair .str .unit)))), (1, .box (.pair (.int .i64) (.pair (.int .i64) (.pair .str .unit)))), (34, .v .bool)] 2 (x.2.1, x.2.2.1, a2, ()))))

noncomputable def frame_decode_h1 (N : Nat) : Hd (Int × (Int × ((List UInt8) × Unit))) := fun st K => (unS [(0, .v .str), (1, .box (.pair (.int .i64) (.pair (.int .i64) (.pair .str .unit)))), (1, .box (.pair (.int .i64) (.pair (.int .i64) (.pair .str .unit)))), (0, .v .str), (0, .v (.int .i64))] 35 (restr [6, 5, 0, 2, 4] 0 st)).bind fun x => frame_decode_g1 N x K

noncomputable def frame_decode_t1 (N : Nat) : Tab (Int × (Int × ((List UInt8) × Unit))) := []

theorem frame_decode_ok1 {N : Nat} {c : Ctx} (hb : Base Go.Proofs.Try.prog (frame_decode_E N) c) : CodeOk Go.Proofs.Try.prog c (nodeAt frame_decode_body [0, 1, 0, 1, 1, 1, 1, 1]) (frame_decode_h1 N) :=
  piece_ok (s := [(0, .v .str), (1, .box (.pair (.int .i64) (.pair (.int .i64) (.pair .str .unit)))), (1, .box (.pair (.int .i64) (.pair (.int .i64) (.pair .str .unit)))), (0, .v .str), (0, .v (.int .i64))]) (m := 35) (g := frame_decode_g1 N) [6, 5, 0, 2, 4] (evN_sound hb N (frame_decode_t1 N) frame_decode_L frame_decode_body TabOk.nil [0, 1, 0, 1, 1, 1, 1, 1] _ rfl) (fun x K => by kernel_rfl)

noncomputable def frame_decode (N : Nat) (block : (List UInt8)) : Option (Int × (Int × ((List UInt8) × Unit))) :=
  cond ((((List.length block) : Nat) : Int) != (128 : Int))
  (some ((0 : Int), ((0 : Int), (([] : List UInt8), ()))))
  (cond (Go.Lift.inR (9 : Int) (List.length block))
    (cond (decide ((110 : Int) < (Go.IntKind.wrap Go.IntKind.i64 (((UInt8.toNat (List.getD block 9 (0 : UInt8))) : Nat) : Int))))
      (some ((0 : Int), ((0 : Int), (([] : List UInt8), ()))))
      (cond (decide (((0 : Int) ≤ (8 : Int)) ∧ ((8 : Int) ≤ (((List.length block) : Nat) : Int))))
        ((frame_number N (Go.Lift.cut block 0 8)).bind fun y =>
          cond (Go.Lift.inR (8 : Int) (List.length block))
          (cond (decide (((0 : Int) ≤ (Go.IntKind.wrap Go.IntKind.i64 ((10 : Int) + (Go.IntKind.wrap Go.IntKind.i64 (((UInt8.toNat (List.getD block 9 (0 : UInt8))) : Nat) : Int))))) ∧ ((Go.IntKind.wrap Go.IntKind.i64 ((10 : Int) + (Go.IntKind.wrap Go.IntKind.i64 (((UInt8.toNat (List.getD block 9 (0 : UInt8))) : Nat) : Int)))) ≤ (((List.length block) : Nat) : Int))))
            (cond (decide (((0 : Int) ≤ (10 : Int)) ∧ ((10 : Int) ≤ (Go.IntKind.wrap Go.IntKind.i64 ((10 : Int) + (Go.IntKind.wrap Go.IntKind.i64 (((UInt8.toNat (List.getD block 9 (0 : UInt8))) : Nat) : Int)))))))
              ((frame_Put N (y, ((Go.IntKind.wrap Go.IntKind.i64 (((UInt8.toNat (List.getD block 8 (0 : UInt8))) : Nat) : Int)), ((Go.Lift.cut block 10 (Int.toNat (Go.IntKind.wrap Go.IntKind.i64 ((10 : Int) + (Go.IntKind.wrap Go.IntKind.i64 (((UInt8.toNat (List.getD block 9 (0 : UInt8))) : Nat) : Int)))))), ())))).bind fun y1 =>
                frame_decode_p1 N block ((0 : Int), ((0 : Int), (([] : List UInt8), ()))) (y, ((Go.IntKind.wrap Go.IntKind.i64 (((UInt8.toNat (List.getD block 8 (0 : UInt8))) : Nat) : Int)), ((Go.Lift.cut block 10 (Int.toNat (Go.IntKind.wrap Go.IntKind.i64 ((10 : Int) + (Go.IntKind.wrap Go.IntKind.i64 (((UInt8.toNat (List.getD block 9 (0 : UInt8))) : Nat) : Int)))))), ()))) y1.1 y1.2.1
                (fun x39 => cond x39
                  (some ((0 : Int), ((0 : Int), (([] : List UInt8), ()))))
                  (some (y, ((Go.IntKind.wrap Go.IntKind.i64 (((UInt8.toNat (List.getD block 8 (0 : UInt8))) : Nat) : Int)), ((Go.Lift.cut block 10 (Int.toNat (Go.IntKind.wrap Go.IntKind.i64 ((10 : Int) + (Go.IntKind.wrap Go.IntKind.i64 (((UInt8.toNat (List.getD block 9 (0 : UInt8))) : Nat) : Int)))))), ()))))))
              (none))
            (none))
          (none))
        (none)))
    (none))

noncomputable def frame_decode_t (N : Nat) : Tab (Int × (Int × ((List UInt8) × Unit))) := [([0, 1, 0, 1, 1, 1, 1, 1], frame_decode_h1 N)]

theorem frame_decode_link (N : Nat) (x : denS [(0, .v .str)]) : evFX (frame_decode_E N) N (frame_decode_t N) frame_decode_L Go.Proofs.Try.f19 (mkS [(0, .v .str)] 0 x) (kRes (.v (.pair (.int .i64) (.pair (.int .i64) (.pair .str .unit)))) 1) = frame_decode N x.1 := by kernel_rfl

noncomputable def frame_decode_res (N : Nat) : List A → Res := resOf [(0, .v .str)] (fun x => frame_decode N x.1) (oRes (.v (.pair (.int .i64) (.pair (.int .i64) (.pair .str .unit)))) 1)

theorem frame_decode_ct (N : Nat) : Contract Go.Proofs.Try.prog noGlob 19 (frame_decode_res N) :=
  Contract.of (E := frame_decode_E N) (H := frame_decode_t N) (L := frame_decode_L) (N := N) (body := frame_decode_body) (K := (kRes (.v (.pair (.int .i64) (.pair (.int .i64) (.pair .str .unit)))) 1)) (frame_decode_Eok N) Go.Proofs.Try.func19 (by kernel_rfl) (by decide) (fun _ hb => (TabOk.cons (frame_decode_ok1 hb) TabOk.nil)) (fun x y h => by rw [frame_decode_link]; exact h) (kRes_ok (s := (.v (.pair (.int .i64) (.pair (.int .i64) (.pair .str .unit))))) (m := 1))

abbrev frame_Get_R : Type := ((Int × (Int × ((List UInt8) × Unit))) × Bool × Unit)

noncomputable def frame_Get_body : Code := (Go.Proofs.Try.f10.body).getD .skip

noncomputable def frame_Get_L : List (List Nat × List Nat) := [([0], [0, 2]), ([0, 1], [4, 2]), ([0, 1, 1], [2, 3]), ([1, 1, 1], [2, 3])]

noncomputable def frame_Get_E (N : Nat) : Env := mkEnv tys noGlob [(19, frame_decode_res N)] [] [] [] false

theorem frame_Get_Eok (N : Nat) : EnvOk Go.Proofs.Try.prog (frame_Get_E N) := mkEnv_ok mixed tys_ok (FnsOk.cons (frame_decode_ct N) (FnsOk.nil))

noncomputable def frame_Get (N : Nat) (block : (List UInt8)) : Option ((Int × (Int × ((List UInt8) × Unit))) × Bool × Unit) :=
  (frame_decode N block).bind fun y =>
  some (y, ((!(Go.Lift.eqD (Go.Lift.T.pair (Go.Lift.T.int Go.IntKind.i64) (Go.Lift.T.pair (Go.Lift.T.int Go.IntKind.i64) (Go.Lift.T.pair Go.Lift.T.str Go.Lift.T.unit))) y ((0 : Int), ((0 : Int), (([] : List UInt8), ()))))), ()))

noncomputable def frame_Get_t (N : Nat) : Tab ((Int × (Int × ((List UInt8) × Unit))) × Bool × Unit) := []

theorem frame_Get_link (N : Nat) (x : denS [(0, .v .str)]) : evFX (frame_Get_E N) N (frame_Get_t N) frame_Get_L Go.Proofs.Try.f10 (mkS [(0, .v .str)] 0 x) (kRes (.tup [(.pair (.int .i64) (.pair (.int .i64) (.pair .str .unit))), .bool]) 1) = frame_Get N x.1 := by kernel_rfl

noncomputable def frame_Get_res (N : Nat) : List A → Res := resOf [(0, .v .str)] (fun x => frame_Get N x.1) (oRes (.tup [(.pair (.int .i64) (.pair (.int .i64) (.pair .str .unit))), .bool]) 1)

theorem frame_Get_ct (N : Nat) : Contract Go.Proofs.Try.prog noGlob 10 (frame_Get_res N) :=
  Contract.of (E := frame_Get_E N) (H := frame_Get_t N) (L := frame_Get_L) (N := N) (body := frame_Get_body) (K := (kRes (.tup [(.pair (.int .i64) (.pair (.int .i64) (.pair .str .unit))), .bool]) 1)) (frame_Get_Eok N) Go.Proofs.Try.func10 (by kernel_rfl) (by decide) (fun _ hb => TabOk.nil) (fun x y h => by rw [frame_Get_link]; exact h) (kRes_ok (s := (.tup [(.pair (.int .i64) (.pair (.int .i64) (.pair .str .unit))), .bool])) (m := 1))

abbrev porterlaw42_works_R : Type := Bool

noncomputable def porterlaw42_works_body : Code := (Go.Proofs.Try.f7.body).getD .skip

noncomputable def porterlaw42_works_L : List (List Nat × List Nat) := [([0], []), ([0, 1], [1]), ([0, 1, 1], [2, 3, 1]), ([0, 1, 1, 1], [3, 2, 4, 1, 5]), ([0, 1, 1, 1, 1], [6, 3, 2, 4, 1, 5]), ([0, 1, 1, 1, 1, 1], [3, 2, 4, 1, 5, 8]), ([0, 1, 1, 1, 1, 1, 1], [0]), ([1, 1, 1, 1, 1, 1, 1], [0])]

noncomputable def porterlaw42_works_E (N : Nat) : Env := mkEnv tys noGlob [(10, frame_Get_res N), (8, frame_Put_res N)] [(6, (.int .u8))] [] [] false

theorem porterlaw42_works_Eok (N : Nat) : EnvOk Go.Proofs.Try.prog (porterlaw42_works_E N) := mkEnv_ok mixed tys_ok (FnsOk.cons (frame_Get_ct N) (FnsOk.cons (frame_Put_ct N) (FnsOk.nil)))

noncomputable def porterlaw42_works (N : Nat) : Option Bool :=
  (frame_Put N ((258 : Int), ((3 : Int), (([(97 : UInt8), (98 : UInt8)] : List UInt8), ())))).bind fun y =>
  (frame_Get N y.1).bind fun y1 =>
  (frame_Get N (Go.Lift.toStr (List.replicate 128 (0 : Int)))).bind fun y2 =>
  cond (y.2.1 == (0 : Int))
  (cond ((((List.length y.1) : Nat) : Int) == (128 : Int))
    (cond (decide (((0 : Int) ≤ (12 : Int)) ∧ ((12 : Int) ≤ (((List.length y.1) : Nat) : Int))))
      (cond ((Go.Lift.cut y.1 0 12) == ([(2 : UInt8), (1 : UInt8), (0 : UInt8), (0 : UInt8), (0 : UInt8), (0 : UInt8), (0 : UInt8), (0 : UInt8), (3 : UInt8), (2 : UInt8), (97 : UInt8), (98 : UInt8)] : List UInt8))
        (cond (decide (((0 : Int) ≤ (120 : Int)) ∧ ((120 : Int) ≤ (((List.length y.1) : Nat) : Int))))
          (cond (decide (((0 : Int) ≤ (8 : Int)) ∧ ((8 : Int) ≤ (((List.length y.1) : Nat) : Int))))
            (cond ((Go.Lift.cut y.1 120 (List.length y.1)) == (Go.Lift.cut y.1 0 8))
              (cond (Go.Lift.eqD (Go.Lift.T.pair (Go.Lift.T.int Go.IntKind.i64) (Go.Lift.T.pair (Go.Lift.T.int Go.IntKind.i64) (Go.Lift.T.pair Go.Lift.T.str Go.Lift.T.unit))) y1.1 ((258 : Int), ((3 : Int), (([(97 : UInt8), (98 : UInt8)] : List UInt8), ()))))
                (cond y1.2.1
                  (some (!y2.2.1))
                  (some false))
                (some false))
              (some false))
            (none))
          (none))
        (some false))
      (none))
    (some false))
  (some false)

noncomputable def porterlaw42_works_t (N : Nat) : Tab Bool := []

theorem porterlaw42_works_link (N : Nat) (x : denS []) : evFX (porterlaw42_works_E N) N (porterlaw42_works_t N) porterlaw42_works_L Go.Proofs.Try.f7 (mkS [] 0 x) (kRes (.v .bool) 0) = porterlaw42_works N := by kernel_rfl

noncomputable def porterlaw42_works_res (N : Nat) : List A → Res := resOf [] (fun x => porterlaw42_works N) (oRes (.v .bool) 0)

theorem porterlaw42_works_ct (N : Nat) : Contract Go.Proofs.Try.prog noGlob 7 (porterlaw42_works_res N) :=
  Contract.of (E := porterlaw42_works_E N) (H := porterlaw42_works_t N) (L := porterlaw42_works_L) (N := N) (body := porterlaw42_works_body) (K := (kRes (.v .bool) 0)) (porterlaw42_works_Eok N) Go.Proofs.Try.func7 (by kernel_rfl) (by decide) (fun _ hb => TabOk.nil) (fun x y h => by rw [porterlaw42_works_link]; exact h) (kRes_ok (s := (.v .bool)) (m := 0))

abbrev porterref02_Byte_R : Type := (List UInt8)

noncomputable def porterref02_Byte_body : Code := (Go.Proofs.Try.f17.body).getD .skip

noncomputable def porterref02_Byte_L : List (List Nat × List Nat) := [([0], [0]), ([0, 1], [3]), ([0, 1, 1], [2]), ([1, 1, 1], [2])]

noncomputable def porterref02_Byte_E (N : Nat) : Env := mkEnv tys noGlob [] [] [] [] false

theorem porterref02_Byte_Eok (N : Nat) : EnvOk Go.Proofs.Try.prog (porterref02_Byte_E N) := mkEnv_ok mixed tys_ok (FnsOk.nil)

noncomputable def porterref02_Byte (N : Nat) (n : Int) : Option (List UInt8) :=
  some (Go.Lift.toStr ([(Go.IntKind.wrap Go.IntKind.u8 n)] : List Int))

noncomputable def porterref02_Byte_t (N : Nat) : Tab (List UInt8) := []

theorem porterref02_Byte_link (N : Nat) (x : denS [(0, .v (.int .i64))]) : evFX (porterref02_Byte_E N) N (porterref02_Byte_t N) porterref02_Byte_L Go.Proofs.Try.f17 (mkS [(0, .v (.int .i64))] 0 x) (kRes (.v .str) 1) = porterref02_Byte N x.1 := by kernel_rfl

noncomputable def porterref02_Byte_res (N : Nat) : List A → Res := resOf [(0, .v (.int .i64))] (fun x => porterref02_Byte N x.1) (oRes (.v .str) 1)

theorem porterref02_Byte_ct (N : Nat) : Contract Go.Proofs.Try.prog noGlob 17 (porterref02_Byte_res N) :=
  Contract.of (E := porterref02_Byte_E N) (H := porterref02_Byte_t N) (L := porterref02_Byte_L) (N := N) (body := porterref02_Byte_body) (K := (kRes (.v .str) 1)) (porterref02_Byte_Eok N) Go.Proofs.Try.func17 (by kernel_rfl) (by decide) (fun _ hb => TabOk.nil) (fun x y h => by rw [porterref02_Byte_link]; exact h) (kRes_ok (s := (.v .str)) (m := 1))

abbrev porterref42_mark_R : Type := (List UInt8)

noncomputable def porterref42_mark_body : Code := (Go.Proofs.Try.f16.body).getD .skip

noncomputable def porterref42_mark_L : List (List Nat × List Nat) := [([0], [0]), ([0, 1], [3, 0]), ([0, 0, 1, 1], [4, 3, 0]), ([0, 1, 0, 1, 1], [4, 3, 0]), ([0, 0, 0, 0, 1, 0, 1, 1], [6, 3, 0, 4]), ([1, 0, 0, 0, 1, 0, 1, 1], [3, 0, 4]), ([1, 1, 0, 0, 0, 1, 0, 1, 1], [3]), ([0, 0, 0, 1, 0, 0, 1, 0, 1, 1], [0, 4, 3]), ([1, 0, 0, 1, 0, 0, 1, 0, 1, 1], [4, 3, 0]), ([0, 1, 0, 0, 1, 0, 1, 1], [4, 3, 0]), ([1, 1, 0, 0, 1, 0, 1, 1], [4, 3, 0]), ([1, 0, 1, 1], [3]), ([0, 1, 1, 1], [2]), ([1, 1, 1, 1], [2])]

noncomputable def porterref42_mark_E (N : Nat) : Env := mkEnv tys noGlob [(17, porterref02_Byte_res N)] [] [] [] false

theorem porterref42_mark_Eok (N : Nat) : EnvOk Go.Proofs.Try.prog (porterref42_mark_E N) := mkEnv_ok mixed tys_ok (FnsOk.cons (porterref02_Byte_ct N) (FnsOk.nil))

noncomputable def porterref42_mark_s1 (N : Nat) (n : Int) (out : (List UInt8)) (i : Int) (rec : Int → (List UInt8) → Int → Option (List UInt8)) (k0 : (List UInt8) → Option (List UInt8)) : Option (List UInt8) :=
  cond (decide (i < (8 : Int)))
  (cond (decide (((List.length out) + (List.length (Go.Lift.toStr ([(Go.IntKind.wrap Go.IntKind.u8 (Int.tmod n (256 : Int)))] : List Int)))) ≤ 9223372036854775807))
    (rec (Go.IntKind.wrap Go.IntKind.i64 (Int.tdiv n (256 : Int))) (out ++ (Go.Lift.toStr ([(Go.IntKind.wrap Go.IntKind.u8 (Int.tmod n (256 : Int)))] : List Int))) (Go.IntKind.wrap Go.IntKind.i64 (i + (1 : Int))))
    (none))
  (k0 out)

noncomputable def porterref42_mark_p1 (N : Nat) (n : Int) (out : (List UInt8)) (i : Int) (k0 : (List UInt8) → Option (List UInt8)) : Option (List UInt8) :=
  iter (fun (v : (Int × (List UInt8) × Int)) r => porterref42_mark_s1 N v.1 v.2.1 v.2.2 (fun n out i => (r (n, out, i))) k0) N (n, out, i)

noncomputable def porterref42_mark_g1 (N : Nat) (i : Unit) (v : (Int × (List UInt8) × Int)) (r : (Int × (List UInt8) × Int) → Option (List UInt8)) (K : Ex → List A → Option (List UInt8)) : Option (List UInt8) :=
  porterref42_mark_s1 N v.1 v.2.1 v.2.2 (fun n out i => (r (n, out, i))) (fun a0 => (K (.exit 0) (mkS [(3, .v .str)] 13 (a0, ()))))

noncomputable def porterref42_mark_h1 (N : Nat) : Hd (List UInt8) := fun st K => (unS [(0, .v (.int .i64)), (2, .v .str), (0, .v (.int .i64))] 12 (restr [4, 3, 0] 0 st)).bind fun x => iter (fun v r => porterref42_mark_g1 N ((fun x => ()) x) v r K) N ((fun x => (x.1, x.2.1, x.2.2.1)) x)

noncomputable def porterref42_mark_t1 (N : Nat) : Tab (List UInt8) := []

theorem porterref42_mark_ok1 {N : Nat} {c : Ctx} (hb : Base Go.Proofs.Try.prog (porterref42_mark_E N) c) : CodeOk Go.Proofs.Try.prog c (nodeAt porterref42_mark_body [0, 1, 0, 1, 1]) (porterref42_mark_h1 N) :=
  loop_ok (s := [(0, .v (.int .i64)), (2, .v .str), (0, .v (.int .i64))]) (m := 12) (porterref42_mark_g1 N) [4, 3, 0] N (fun x => ()) (fun x => (x.1, x.2.1, x.2.2.1)) (fun i v => (v.1, v.2.1, v.2.2, ())) (fun _ => rfl) (evN_sound hb N (porterref42_mark_t1 N) porterref42_mark_L porterref42_mark_body TabOk.nil [0, 0, 1, 0, 1, 1] _ rfl) (fun i v r K => by kernel_rfl)

noncomputable def porterref42_mark (N : Nat) (n : Int) : Option (List UInt8) :=
  porterref42_mark_p1 N n ([] : List UInt8) (0 : Int)
  (fun out => some out)

noncomputable def porterref42_mark_t (N : Nat) : Tab (List UInt8) := [([0, 1, 0, 1, 1], porterref42_mark_h1 N)]

theorem porterref42_mark_link (N : Nat) (x : denS [(0, .v (.int .i64))]) : evFX (porterref42_mark_E N) N (porterref42_mark_t N) porterref42_mark_L Go.Proofs.Try.f16 (mkS [(0, .v (.int .i64))] 0 x) (kRes (.v .str) 1) = porterref42_mark N x.1 := by kernel_rfl

noncomputable def porterref42_mark_res (N : Nat) : List A → Res := resOf [(0, .v (.int .i64))] (fun x => porterref42_mark N x.1) (oRes (.v .str) 1)

theorem porterref42_mark_ct (N : Nat) : Contract Go.Proofs.Try.prog noGlob 16 (porterref42_mark_res N) :=
  Contract.of (E := porterref42_mark_E N) (H := porterref42_mark_t N) (L := porterref42_mark_L) (N := N) (body := porterref42_mark_body) (K := (kRes (.v .str) 1)) (porterref42_mark_Eok N) Go.Proofs.Try.func16 (by kernel_rfl) (by decide) (fun _ hb => (TabOk.cons (porterref42_mark_ok1 hb) TabOk.nil)) (fun x y h => by rw [porterref42_mark_link]; exact h) (kRes_ok (s := (.v .str)) (m := 1))

abbrev porterref02_Pad_R : Type := (List UInt8)

noncomputable def porterref02_Pad_body : Code := (Go.Proofs.Try.f18.body).getD .skip

noncomputable def porterref02_Pad_L : List (List Nat × List Nat) := [([0], [1, 0]), ([0, 0, 1], [7, 0, 1]), ([1, 0, 1], [0, 1]), ([0, 1, 0, 1], [0, 1]), ([0, 0, 1, 1], [11, 0, 1]), ([1, 0, 1, 1], [1, 0]), ([0, 0, 1, 0, 1, 1], [4]), ([1, 0, 1, 0, 1, 1], [4]), ([0, 1, 1, 1], [0, 5]), ([0, 1, 1, 1, 1], [4]), ([1, 1, 1, 1, 1], [4])]

noncomputable def porterref02_Pad_E (N : Nat) : Env := mkEnv tys noGlob [] [] [] [] false

theorem porterref02_Pad_Eok (N : Nat) : EnvOk Go.Proofs.Try.prog (porterref02_Pad_E N) := mkEnv_ok mixed tys_ok (FnsOk.nil)

noncomputable def porterref02_Pad_p1 (N : Nat) (s : (List UInt8)) (n : Int) (k0 : Int → Option (List UInt8)) : Option (List UInt8) :=
  cond (decide ((65536 : Int) < n))
  (k0 (65536 : Int))
  (k0 n)

noncomputable def porterref02_Pad_g1 (N : Nat) (x : denS [(0, .v .str), (0, .v (.int .i64))]) (K : Ex → List A → Option (List UInt8)) : Option (List UInt8) :=
  porterref02_Pad_p1 N x.1 x.2.1 (fun a1 => (K .normal (mkS [(0, .v .str), (0, .v (.int .i64))] 20 (x.1, a1, ()))))

noncomputable def porterref02_Pad_h1 (N : Nat) : Hd (List UInt8) := fun st K => (unS [(0, .v .str), (0, .v (.int .i64))] 20 (restr [1, 0] 0 st)).bind fun x => porterref02_Pad_g1 N x K

noncomputable def porterref02_Pad_t1 (N : Nat) : Tab (List UInt8) := []

theorem porterref02_Pad_ok1 {N : Nat} {c : Ctx} (hb : Base Go.Proofs.Try.prog (porterref02_Pad_E N) c) : CodeOk Go.Proofs.Try.prog c (nodeAt porterref02_Pad_body [0, 1]) (porterref02_Pad_h1 N) :=
  piece_ok (s := [(0, .v .str), (0, .v (.int .i64))]) (m := 20) (g := porterref02_Pad_g1 N) [1, 0] (evN_sound hb N (porterref02_Pad_t1 N) porterref02_Pad_L porterref02_Pad_body TabOk.nil [0, 1] _ rfl) (fun x K => by kernel_rfl)

noncomputable def porterref02_Pad (N : Nat) (s : (List UInt8)) (n : Int) : Option (List UInt8) :=
  porterref02_Pad_p1 N s n
  (fun n1 => cond (decide (n1 ≤ (((List.length s) : Nat) : Int)))
    (some s)
    (cond (decide (((0 : Int) ≤ (Go.IntKind.wrap Go.IntKind.i64 (n1 - (((List.length s) : Nat) : Int)))) ∧ (((Go.IntKind.wrap Go.IntKind.i64 (n1 - (((List.length s) : Nat) : Int))) ≤ (Go.IntKind.wrap Go.IntKind.i64 (n1 - (((List.length s) : Nat) : Int)))) ∧ ((((Go.IntKind.wrap Go.IntKind.i64 (n1 - (((List.length s) : Nat) : Int))) * (1 : Int)) ≤ (281474976710656 : Int)) ∧ ((Go.IntKind.wrap Go.IntKind.i64 (n1 - (((List.length s) : Nat) : Int))) ≤ (9223372036854775807 : Int))))))
      (cond (decide (((List.length s) + (List.length (Go.Lift.toStr (List.replicate (Int.toNat (Go.IntKind.wrap Go.IntKind.i64 (n1 - (((List.length s) : Nat) : Int)))) (0 : Int))))) ≤ 9223372036854775807))
        (some (s ++ (Go.Lift.toStr (List.replicate (Int.toNat (Go.IntKind.wrap Go.IntKind.i64 (n1 - (((List.length s) : Nat) : Int)))) (0 : Int)))))
        (none))
      (none)))

noncomputable def porterref02_Pad_t (N : Nat) : Tab (List UInt8) := [([0, 1], porterref02_Pad_h1 N)]

theorem porterref02_Pad_link (N : Nat) (x : denS [(0, .v .str), (0, .v (.int .i64))]) : evFX (porterref02_Pad_E N) N (porterref02_Pad_t N) porterref02_Pad_L Go.Proofs.Try.f18 (mkS [(0, .v .str), (0, .v (.int .i64))] 0 x) (kRes (.v .str) 2) = porterref02_Pad N x.1 x.2.1 := by kernel_rfl

noncomputable def porterref02_Pad_res (N : Nat) : List A → Res := resOf [(0, .v .str), (0, .v (.int .i64))] (fun x => porterref02_Pad N x.1 x.2.1) (oRes (.v .str) 2)

theorem porterref02_Pad_ct (N : Nat) : Contract Go.Proofs.Try.prog noGlob 18 (porterref02_Pad_res N) :=
  Contract.of (E := porterref02_Pad_E N) (H := porterref02_Pad_t N) (L := porterref02_Pad_L) (N := N) (body := porterref02_Pad_body) (K := (kRes (.v .str) 2)) (porterref02_Pad_Eok N) Go.Proofs.Try.func18 (by kernel_rfl) (by decide) (fun _ hb => (TabOk.cons (porterref02_Pad_ok1 hb) TabOk.nil)) (fun x y h => by rw [porterref02_Pad_link]; exact h) (kRes_ok (s := (.v .str)) (m := 2))

abbrev porterref42_Put_R : Type := ((List UInt8) × Int × Unit)

noncomputable def porterref42_Put_body : Code := (Go.Proofs.Try.f9.body).getD .skip

noncomputable def porterref42_Put_L : List (List Nat × List Nat) := [([0], [0, 1, 2]), ([0, 0, 1], [17, 2, 0, 1]), ([1, 0, 1], [2, 0, 1]), ([0, 0, 1, 0, 1], [6, 7]), ([1, 0, 1, 0, 1], [6, 7]), ([0, 0, 1, 1], [20, 0, 1, 2]), ([1, 0, 1, 1], [0, 1, 2]), ([0, 0, 1, 0, 1, 1], [6, 7]), ([1, 0, 1, 0, 1, 1], [6, 7]), ([0, 1, 1, 1], [6, 7]), ([1, 1, 1, 1], [6, 7])]

noncomputable def porterref42_Put_E (N : Nat) : Env := mkEnv tys noGlob [(18, porterref02_Pad_res N), (16, porterref42_mark_res N), (17, porterref02_Byte_res N)] [] [] [] false

theorem porterref42_Put_Eok (N : Nat) : EnvOk Go.Proofs.Try.prog (porterref42_Put_E N) := mkEnv_ok mixed tys_ok (FnsOk.cons (porterref02_Pad_ct N) (FnsOk.cons (porterref42_mark_ct N) (FnsOk.cons (porterref02_Byte_ct N) (FnsOk.nil))))

noncomputable def porterref42_Put_p2 (N : Nat) (n : Int) (kind : Int) (text : (List UInt8)) (k0 : Bool → Option ((List UInt8) × Int × Unit)) : Option ((List UInt8) × Int × Unit) :=
  cond (decide (n < (1 : Int)))
  (k0 true)
  (cond (decide (kind < (0 : Int)))
    (k0 true)
    (k0 (decide ((255 : Int) < kind))))

noncomputable def porterref42_Put_g2 (N : Nat) (x : denS [(0, .v (.int .i64)), (0, .v (.int .i64)), (0, .v .str)]) (K : Ex → List A → Option ((List UInt8) × Int × Unit)) : Option ((List UInt8) × Int × Unit) :=
  porterref42_Put_p2 N x.1 x.2.1 x.2.2.1 (fun a3 => (K .normal (mkS [(0, .v (.int .i64)), (0, .v (.int .i64)), (0, .v .str), (14, .v .bool)] 18 (x.1, x.2.1, x.2.2.1, a3, ()))))

noncomputable def porterref42_Put_h2 (N : Nat) : Hd ((List UInt8) × Int × Unit) := fun st K => (unS [(0, .v (.int .i64)), (0, .v (.int .i64)), (0, .v .str)] 33 (restr [0, 1, 2] 0 st)).bind fun x => porterref42_Put_g2 N x K

noncomputable def porterref42_Put_t2 (N : Nat) : Tab ((List UInt8) × Int × Unit) := []

theorem porterref42_Put_ok2 {N : Nat} {c : Ctx} (hb : Base Go.Proofs.Try.prog (porterref42_Put_E N) c) : CodeOk Go.Proofs.Try.prog c (nodeAt porterref42_Put_body [0, 0, 1]) (porterref42_Put_h2 N) :=
  piece_ok (s := [(0, .v (.int .i64)), (0, .v (.int .i64)), (0, .v .str)]) (m := 33) (g := porterref42_Put_g2 N) [0, 1, 2] (evN_sound hb N (porterref42_Put_t2 N) porterref42_Put_L porterref42_Put_body TabOk.nil [0, 0, 1] _ rfl) (fun x K => by kernel_rfl)

noncomputable def porterref42_Put_p1 (N : Nat) (n : Int) (kind : Int) (text : (List UInt8)) (k0 : (List UInt8) → Int → Option ((List UInt8) × Int × Unit)) (k1 : Option ((List UInt8) × Int × Unit)) : Option ((List UInt8) × Int × Unit) :=
  porterref42_Put_p2 N n kind text
  (fun x17 => cond x17
    (k0 ([] : List UInt8) (7 : Int))
    (k1))

noncomputable def porterref42_Put_g1 (N : Nat) (x : denS [(0, .v (.int .i64)), (0, .v (.int .i64)), (0, .v .str)]) (K : Ex → List A → Option ((List UInt8) × Int × Unit)) : Option ((List UInt8) × Int × Unit) :=
  porterref42_Put_p1 N x.1 x.2.1 x.2.2.1 (fun a0 a1 => (K .ret (mkS [(6, .v .str), (0, .v (.int .i64))] 28 (a0, a1, ())))) (K .normal (mkS [(0, .v (.int .i64)), (0, .v (.int .i64)), (0, .v .str)] 33 (x.1, x.2.1, x.2.2.1, ())))

noncomputable def porterref42_Put_h1 (N : Nat) : Hd ((List UInt8) × Int × Unit) := fun st K => (unS [(0, .v (.int .i64)), (0, .v (.int .i64)), (0, .v .str)] 33 (restr [0, 1, 2] 0 st)).bind fun x => porterref42_Put_g1 N x K

noncomputable def porterref42_Put_t1 (N : Nat) : Tab ((List UInt8) × Int × Unit) := [([0, 0, 1], porterref42_Put_h2 N)]

theorem porterref42_Put_ok1 {N : Nat} {c : Ctx} (hb : Base Go.Proofs.Try.prog (porterref42_Put_E N) c) : CodeOk Go.Proofs.Try.prog c (nodeAt porterref42_Put_body [0, 1]) (porterref42_Put_h1 N) :=
  piece_ok (s := [(0, .v (.int .i64)), (0, .v (.int .i64)), (0, .v .str)]) (m := 33) (g := porterref42_Put_g1 N) [0, 1, 2] (evN_sound hb N (porterref42_Put_t1 N) porterref42_Put_L porterref42_Put_body (TabOk.cons (porterref42_Put_ok2 hb) TabOk.nil) [0, 1] _ rfl) (fun x K => by kernel_rfl)

noncomputable def porterref42_Put (N : Nat) (n : Int) (kind : Int) (text : (List UInt8)) : Option ((List UInt8) × Int × Unit) :=
  porterref42_Put_p1 N n kind text
  (fun x6 x7 => some (x6, (x7, ())))
  (cond (decide ((110 : Int) < (((List.length text) : Nat) : Int)))
    (some (([] : List UInt8), ((3 : Int), ())))
    ((porterref42_mark N n).bind fun y =>
      cond (decide (((List.length y) + (List.length (Go.Lift.toStr ([(Go.IntKind.wrap Go.IntKind.u8 kind)] : List Int)))) ≤ 9223372036854775807))
      (cond (decide (((List.length (y ++ (Go.Lift.toStr ([(Go.IntKind.wrap Go.IntKind.u8 kind)] : List Int)))) + (List.length (Go.Lift.toStr ([(Go.IntKind.wrap Go.IntKind.u8 (((List.length text) : Nat) : Int))] : List Int)))) ≤ 9223372036854775807))
        ((porterref02_Pad N text (110 : Int)).bind fun y1 =>
          cond (decide (((List.length ((y ++ (Go.Lift.toStr ([(Go.IntKind.wrap Go.IntKind.u8 kind)] : List Int))) ++ (Go.Lift.toStr ([(Go.IntKind.wrap Go.IntKind.u8 (((List.length text) : Nat) : Int))] : List Int)))) + (List.length y1)) ≤ 9223372036854775807))
          ((porterref42_mark N n).bind fun y2 =>
            cond (decide (((List.length (((y ++ (Go.Lift.toStr ([(Go.IntKind.wrap Go.IntKind.u8 kind)] : List Int))) ++ (Go.Lift.toStr ([(Go.IntKind.wrap Go.IntKind.u8 (((List.length text) : Nat) : Int))] : List Int))) ++ y1)) + (List.length y2)) ≤ 9223372036854775807))
            (some (((((y ++ (Go.Lift.toStr ([(Go.IntKind.wrap Go.IntKind.u8 kind)] : List Int))) ++ (Go.Lift.toStr ([(Go.IntKind.wrap Go.IntKind.u8 (((List.length text) : Nat) : Int))] : List Int))) ++ y1) ++ y2), ((0 : Int), ())))
            (none))
          (none))
        (none))
      (none)))

noncomputable def porterref42_Put_t (N : Nat) : Tab ((List UInt8) × Int × Unit) := [([0, 1], porterref42_Put_h1 N)]

theorem porterref42_Put_link (N : Nat) (x : denS [(0, .v (.int .i64)), (0, .v (.int .i64)), (0, .v .str)]) : evFX (porterref42_Put_E N) N (porterref42_Put_t N) porterref42_Put_L Go.Proofs.Try.f9 (mkS [(0, .v (.int .i64)), (0, .v (.int .i64)), (0, .v .str)] 0 x) (kRes (.tup [.str, (.int .i64)]) 3) = porterref42_Put N x.1 x.2.1 x.2.2.1 := by kernel_rfl

noncomputable def porterref42_Put_res (N : Nat) : List A → Res := resOf [(0, .v (.int .i64)), (0, .v (.int .i64)), (0, .v .str)] (fun x => porterref42_Put N x.1 x.2.1 x.2.2.1) (oRes (.tup [.str, (.int .i64)]) 3)

theorem porterref42_Put_ct (N : Nat) : Contract Go.Proofs.Try.prog noGlob 9 (porterref42_Put_res N) :=
  Contract.of (E := porterref42_Put_E N) (H := porterref42_Put_t N) (L := porterref42_Put_L) (N := N) (body := porterref42_Put_body) (K := (kRes (.tup [.str, (.int .i64)]) 3)) (porterref42_Put_Eok N) Go.Proofs.Try.func9 (by kernel_rfl) (by decide) (fun _ hb => (TabOk.cons (porterref42_Put_ok1 hb) TabOk.nil)) (fun x y h => by rw [porterref42_Put_link]; exact h) (kRes_ok (s := (.tup [.str, (.int .i64)])) (m := 3))

abbrev porterref42_Number_R : Type := Int

noncomputable def porterref42_Number_body : Code := (Go.Proofs.Try.f13.body).getD .skip

noncomputable def porterref42_Number_L : List (List Nat × List Nat) := [([0], [0]), ([0, 1], [3, 0]), ([0, 0, 1, 1], [4, 3, 0]), ([0, 1, 0, 1, 1], [4, 3, 0]), ([0, 0, 0, 0, 1, 0, 1, 1], [6, 3, 0, 4]), ([1, 0, 0, 0, 1, 0, 1, 1], [3, 0, 4]), ([1, 1, 0, 0, 0, 1, 0, 1, 1], [3]), ([0, 0, 1, 0, 0, 1, 0, 1, 1], [4, 3, 0]), ([0, 1, 0, 0, 1, 0, 1, 1], [4, 3, 0]), ([1, 1, 0, 0, 1, 0, 1, 1], [4, 3, 0]), ([1, 0, 1, 1], [3]), ([0, 1, 1, 1], [2]), ([1, 1, 1, 1], [2])]

noncomputable def porterref42_Number_E (N : Nat) : Env := mkEnv tys noGlob [] [] [] [] false

theorem porterref42_Number_Eok (N : Nat) : EnvOk Go.Proofs.Try.prog (porterref42_Number_E N) := mkEnv_ok mixed tys_ok (FnsOk.nil)

noncomputable def porterref42_Number_s1 (N : Nat) (s : (List UInt8)) (n : Int) (i : Int) (rec : Int → Int → Option Int) (k0 : Int → Option Int) : Option Int :=
  cond (decide ((0 : Int) ≤ i))
  (cond (Go.Lift.inR i (List.length s))
    (rec (Go.IntKind.wrap Go.IntKind.i64 ((Go.IntKind.wrap Go.IntKind.i64 ((256 : Int) * n)) + (Go.IntKind.wrap Go.IntKind.i64 (((UInt8.toNat (List.getD s (Int.toNat i) (0 : UInt8))) : Nat) : Int)))) (Go.IntKind.wrap Go.IntKind.i64 (i - (1 : Int))))
    (none))
  (k0 n)

noncomputable def porterref42_Number_p1 (N : Nat) (s : (List UInt8)) (n : Int) (i : Int) (k0 : Int → Option Int) : Option Int :=
  iter (fun (v : (Int × Int)) r => porterref42_Number_s1 N s v.1 v.2 (fun n i => (r (n, i))) k0) N (n, i)

noncomputable def porterref42_Number_g1 (N : Nat) (i : (List UInt8)) (v : (Int × Int)) (r : (Int × Int) → Option Int) (K : Ex → List A → Option Int) : Option Int :=
  porterref42_Number_s1 N i v.1 v.2 (fun n i => (r (n, i))) (fun a0 => (K (.exit 0) (mkS [(3, .v (.int .i64))] 13 (a0, ()))))

noncomputable def porterref42_Number_h1 (N : Nat) : Hd Int := fun st K => (unS [(0, .v .str), (2, .v (.int .i64)), (0, .v (.int .i64))] 12 (restr [4, 3, 0] 0 st)).bind fun x => iter (fun v r => porterref42_Number_g1 N ((fun x => x.1) x) v r K) N ((fun x => (x.2.1, x.2.2.1)) x)

noncomputable def porterref42_Number_t1 (N : Nat) : Tab Int := []

theorem porterref42_Number_ok1 {N : Nat} {c : Ctx} (hb : Base Go.Proofs.Try.prog (porterref42_Number_E N) c) : CodeOk Go.Proofs.Try.prog c (nodeAt porterref42_Number_body [0, 1, 0, 1, 1]) (porterref42_Number_h1 N) :=
  loop_ok (s := [(0, .v .str), (2, .v (.int .i64)), (0, .v (.int .i64))]) (m := 12) (porterref42_Number_g1 N) [4, 3, 0] N (fun x => x.1) (fun x => (x.2.1, x.2.2.1)) (fun i v => (i, v.1, v.2, ())) (fun _ => rfl) (evN_sound hb N (porterref42_Number_t1 N) porterref42_Number_L porterref42_Number_body TabOk.nil [0, 0, 1, 0, 1, 1] _ rfl) (fun i v r K => by kernel_rfl)

noncomputable def porterref42_Number (N : Nat) (s : (List UInt8)) : Option Int :=
  porterref42_Number_p1 N s (0 : Int) (7 : Int)
  (fun n => some n)

noncomputable def porterref42_Number_t (N : Nat) : Tab Int := [([0, 1, 0, 1, 1], porterref42_Number_h1 N)]

theorem porterref42_Number_link (N : Nat) (x : denS [(0, .v .str)]) : evFX (porterref42_Number_E N) N (porterref42_Number_t N) porterref42_Number_L Go.Proofs.Try.f13 (mkS [(0, .v .str)] 0 x) (kRes (.v (.int .i64)) 1) = porterref42_Number N x.1 := by kernel_rfl

noncomputable def porterref42_Number_res (N : Nat) : List A → Res := resOf [(0, .v .str)] (fun x => porterref42_Number N x.1) (oRes (.v (.int .i64)) 1)

theorem porterref42_Number_ct (N : Nat) : Contract Go.Proofs.Try.prog noGlob 13 (porterref42_Number_res N) :=
  Contract.of (E := porterref42_Number_E N) (H := porterref42_Number_t N) (L := porterref42_Number_L) (N := N) (body := porterref42_Number_body) (K := (kRes (.v (.int .i64)) 1)) (porterref42_Number_Eok N) Go.Proofs.Try.func13 (by kernel_rfl) (by decide) (fun _ hb => (TabOk.cons (porterref42_Number_ok1 hb) TabOk.nil)) (fun x y h => by rw [porterref42_Number_link]; exact h) (kRes_ok (s := (.v (.int .i64))) (m := 1))

abbrev porterref42_Get_R : Type := (Int × Int × (List UInt8) × Bool × Unit)

noncomputable def porterref42_Get_body : Code := (Go.Proofs.Try.f11.body).getD .skip

noncomputable def porterref42_Get_L : List (List Nat × List Nat) := [([0], [0]), ([0, 0, 1], [28, 0]), ([1, 0, 1], [0]), ([0, 0, 1, 0, 1], [2, 3, 4, 5]), ([1, 0, 1, 0, 1], [2, 3, 4, 5]), ([0, 1, 1], [0, 6]), ([0, 1, 1, 1], [7, 0, 6]), ([0, 0, 1, 1, 1, 1], [8, 0, 6, 7]), ([0, 1, 0, 1, 1, 1, 1], [8, 0, 6, 7]), ([0, 0, 0, 0, 1, 0, 1, 1, 1, 1], [38, 0, 8, 6, 7]), ([1, 0, 0, 0, 1, 0, 1, 1, 1, 1], [0, 8, 6, 7]), ([1, 1, 0, 0, 0, 1, 0, 1, 1, 1, 1], [6, 0, 7]), ([0, 0, 0, 1, 0, 0, 1, 0, 1, 1, 1, 1], [44, 8, 0, 6, 7]), ([1, 0, 0, 1, 0, 0, 1, 0, 1, 1, 1, 1], [8, 0, 6, 7]), ([0, 0, 1, 0, 0, 1, 0, 0, 1, 0, 1, 1, 1, 1], [2, 3, 4, 5]), ([1, 0, 1, 0, 0, 1, 0, 0, 1, 0, 1, 1, 1, 1], [2, 3, 4, 5]), ([0, 1, 0, 0, 1, 0, 1, 1, 1, 1], [8, 0, 6, 7]), ([1, 1, 0, 0, 1, 0, 1, 1, 1, 1], [8, 0, 6, 7]), ([1, 0, 1, 1, 1, 1], [6, 0, 7]), ([0, 0, 1, 1, 1, 1, 1], [46, 6, 0, 7]), ([1, 0, 1, 1, 1, 1, 1], [6, 0, 7]), ([0, 0, 1, 0, 1, 1, 1, 1, 1], [2, 3, 4, 5]), ([1, 0, 1, 0, 1, 1, 1, 1, 1], [2, 3, 4, 5]), ([0, 1, 1, 1, 1, 1, 1], [2, 3, 4, 5]), ([1, 1, 1, 1, 1, 1, 1], [2, 3, 4, 5])]

noncomputable def porterref42_Get_E (N : Nat) : Env := mkEnv tys noGlob [(13, porterref42_Number_res N)] [] [] [] false

theorem porterref42_Get_Eok (N : Nat) : EnvOk Go.Proofs.Try.prog (porterref42_Get_E N) := mkEnv_ok mixed tys_ok (FnsOk.cons (porterref42_Number_ct N) (FnsOk.nil))

noncomputable def porterref42_Get_p2 (N : Nat) (s : (List UInt8)) (k0 : Bool → Option (Int × Int × (List UInt8) × Bool × Unit)) : Option (Int × Int × (List UInt8) × Bool × Unit) :=
  cond ((((List.length s) : Nat) : Int) != (128 : Int))
  (k0 true)
  (cond (decide (((0 : Int) ≤ (8 : Int)) ∧ ((8 : Int) ≤ (((List.length s) : Nat) : Int))))
    (cond (decide (((0 : Int) ≤ (120 : Int)) ∧ ((120 : Int) ≤ (((List.length s) : Nat) : Int))))
      (cond (!((Go.Lift.cut s 0 8) == (Go.Lift.cut s 120 (List.length s))))
        (k0 true)
        (cond (Go.Lift.inR (7 : Int) (List.length s))
          (cond (decide ((127 : Int) < (((UInt8.toNat (List.getD s 7 (0 : UInt8))) : Nat) : Int)))
            (k0 true)
            (cond (Go.Lift.inR (9 : Int) (List.length s))
              (k0 (decide ((110 : Int) < (((UInt8.toNat (List.getD s 9 (0 : UInt8))) : Nat) : Int))))
              (none)))
          (none)))
      (none))
    (none))

noncomputable def porterref42_Get_g2 (N : Nat) (x : denS [(0, .v .str)]) (K : Ex → List A → Option (Int × Int × (List UInt8) × Bool × Unit)) : Option (Int × Int × (List UInt8) × Bool × Unit) :=
  porterref42_Get_p2 N x.1 (fun a1 => (K .normal (mkS [(0, .v .str), (27, .v .bool)] 26 (x.1, a1, ()))))

noncomputable def porterref42_Get_h2 (N : Nat) : Hd (Int × Int × (List UInt8) × Bool × Unit) := fun st K => (unS [(0, .v .str)] 54 (restr [0] 0 st)).bind fun x => porterref42_Get_g2 N x K

noncomputable def porterref42_Get_t2 (N : Nat) : Tab (Int × Int × (List UInt8) × Bool × Unit) := []

theorem porterref42_Get_ok2 {N : Nat} {c : Ctx} (hb : Base Go.Proofs.Try.prog (porterref42_Get_E N) c) : CodeOk Go.Proofs.Try.prog c (nodeAt porterref42_Get_body [0, 0, 1]) (porterref42_Get_h2 N) :=
  piece_ok (s := [(0, .v .str)]) (m := 54) (g := porterref42_Get_g2 N) [0] (evN_sound hb N (porterref42_Get_t2 N) porterref42_Get_L porterref42_Get_body TabOk.nil [0, 0, 1] _ rfl) (fun x K => by kernel_rfl)

noncomputable def porterref42_Get_p1 (N : Nat) (s : (List UInt8)) (k0 : Int → Int → (List UInt8) → Bool → Option (Int × Int × (List UInt8) × Bool × Unit)) (k1 : Option (Int × Int × (List UInt8) × Bool × Unit)) : Option (Int × Int × (List UInt8) × Bool × Unit) :=
  porterref42_Get_p2 N s
  (fun x28 => cond x28
    (k0 (0 : Int) (0 : Int) ([] : List UInt8) false)
    (k1))

noncomputable def porterref42_Get_g1 (N : Nat) (x : denS [(0, .v .str)]) (K : Ex → List A → Option (Int × Int × (List UInt8) × Bool × Unit)) : Option (Int × Int × (List UInt8) × Bool × Unit) :=
  porterref42_Get_p1 N x.1 (fun a0 a1 a2 a3 => (K .ret (mkS [(2, .v (.int .i64)), (0, .v (.int .i64)), (0, .v .str), (0, .v .bool)] 49 (a0, a1, a2, a3, ())))) (K .normal (mkS [(0, .v .str)] 54 (x.1, ())))

noncomputable def porterref42_Get_h1 (N : Nat) : Hd (Int × Int × (List UInt8) × Bool × Unit) := fun st K => (unS [(0, .v .str)] 54 (restr [0] 0 st)).bind fun x => porterref42_Get_g1 N x K

noncomputable def porterref42_Get_t1 (N : Nat) : Tab (Int × Int × (List UInt8) × Bool × Unit) := [([0, 0, 1], porterref42_Get_h2 N)]

theorem porterref42_Get_ok1 {N : Nat} {c : Ctx} (hb : Base Go.Proofs.Try.prog (porterref42_Get_E N) c) : CodeOk Go.Proofs.Try.prog c (nodeAt porterref42_Get_body [0, 1]) (porterref42_Get_h1 N) :=
  piece_ok (s := [(0, .v .str)]) (m := 54) (g := porterref42_Get_g1 N) [0] (evN_sound hb N (porterref42_Get_t1 N) porterref42_Get_L porterref42_Get_body (TabOk.cons (porterref42_Get_ok2 hb) TabOk.nil) [0, 1] _ rfl) (fun x K => by kernel_rfl)

noncomputable def porterref42_Get_s3 (N : Nat) (s : (List UInt8)) (n : Int) (long : Int) (i : Int) (rec : Int → Option (Int × Int × (List UInt8) × Bool × Unit)) (k0 : Int → Int → (List UInt8) → Bool → Option (Int × Int × (List UInt8) × Bool × Unit)) (k1 : Option (Int × Int × (List UInt8) × Bool × Unit)) : Option (Int × Int × (List UInt8) × Bool × Unit) :=
  cond (decide (i < (120 : Int)))
  (cond (Go.Lift.inR i (List.length s))
    (cond ((((UInt8.toNat (List.getD s (Int.toNat i) (0 : UInt8))) : Nat) : Int) != (0 : Int))
      (k0 (0 : Int) (0 : Int) ([] : List UInt8) false)
      (rec (Go.IntKind.wrap Go.IntKind.i64 (i + (1 : Int)))))
    (none))
  (k1)

noncomputable def porterref42_Get_p3 (N : Nat) (s : (List UInt8)) (n : Int) (long : Int) (i : Int) (k0 : Int → Int → (List UInt8) → Bool → Option (Int × Int × (List UInt8) × Bool × Unit)) (k1 : Option (Int × Int × (List UInt8) × Bool × Unit)) : Option (Int × Int × (List UInt8) × Bool × Unit) :=
  iter (fun (v : Int) r => porterref42_Get_s3 N s n long v (fun i => (r i)) k0 k1) N i

noncomputable def porterref42_Get_g3 (N : Nat) (i : ((List UInt8) × Int × Int)) (v : Int) (r : Int → Option (Int × Int × (List UInt8) × Bool × Unit)) (K : Ex → List A → Option (Int × Int × (List UInt8) × Bool × Unit)) : Option (Int × Int × (List UInt8) × Bool × Unit) :=
  porterref42_Get_s3 N i.1 i.2.1 i.2.2 v (fun i => (r i)) (fun a0 a1 a2 a3 => (K .ret (mkS [(2, .v (.int .i64)), (0, .v (.int .i64)), (0, .v .str), (0, .v .bool)] 49 (a0, a1, a2, a3, ())))) (K (.exit 0) (mkS [(0, .v .str), (5, .v (.int .i64)), (0, .v (.int .i64))] 47 (i.1, i.2.1, i.2.2, ())))

noncomputable def porterref42_Get_h3 (N : Nat) : Hd (Int × Int × (List UInt8) × Bool × Unit) := fun st K => (unS [(0, .v .str), (5, .v (.int .i64)), (0, .v (.int .i64)), (0, .v (.int .i64))] 46 (restr [8, 0, 6, 7] 0 st)).bind fun x => iter (fun v r => porterref42_Get_g3 N ((fun x => (x.1, x.2.1, x.2.2.1)) x) v r K) N ((fun x => x.2.2.2.1) x)

noncomputable def porterref42_Get_t3 (N : Nat) : Tab (Int × Int × (List UInt8) × Bool × Unit) := []

theorem porterref42_Get_ok3 {N : Nat} {c : Ctx} (hb : Base Go.Proofs.Try.prog (porterref42_Get_E N) c) : CodeOk Go.Proofs.Try.prog c (nodeAt porterref42_Get_body [0, 1, 0, 1, 1, 1, 1]) (porterref42_Get_h3 N) :=
  loop_ok (s := [(0, .v .str), (5, .v (.int .i64)), (0, .v (.int .i64)), (0, .v (.int .i64))]) (m := 46) (porterref42_Get_g3 N) [8, 0, 6, 7] N (fun x => (x.1, x.2.1, x.2.2.1)) (fun x => x.2.2.2.1) (fun i v => (i.1, i.2.1, i.2.2, v, ())) (fun _ => rfl) (evN_sound hb N (porterref42_Get_t3 N) porterref42_Get_L porterref42_Get_body TabOk.nil [0, 0, 1, 0, 1, 1, 1, 1] _ rfl) (fun i v r K => by kernel_rfl)

noncomputable def porterref42_Get (N : Nat) (s : (List UInt8)) : Option (Int × Int × (List UInt8) × Bool × Unit) :=
  porterref42_Get_p1 N s
  (fun x2 x3 x4 x5 => some (x2, (x3, (x4, (x5, ())))))
  (cond (decide (((0 : Int) ≤ (8 : Int)) ∧ ((8 : Int) ≤ (((List.length s) : Nat) : Int))))
    ((porterref42_Number N (Go.Lift.cut s 0 8)).bind fun y =>
      cond (Go.Lift.inR (9 : Int) (List.length s))
      (porterref42_Get_p3 N s y (Go.IntKind.wrap Go.IntKind.i64 (((UInt8.toNat (List.getD s 9 (0 : UInt8))) : Nat) : Int)) (Go.IntKind.wrap Go.IntKind.i64 ((10 : Int) + (Go.IntKind.wrap Go.IntKind.i64 (((UInt8.toNat (List.getD s 9 (0 : UInt8))) : Nat) : Int))))
        (fun x21 x31 x41 x51 => some (x21, (x31, (x41, (x51, ())))))
        (cond (y == (0 : Int))
          (some ((0 : Int), ((0 : Int), (([] : List UInt8), (false, ())))))
          (cond (Go.Lift.inR (8 : Int) (List.length s))
            (cond (decide (((0 : Int) ≤ (Go.IntKind.wrap Go.IntKind.i64 ((10 : Int) + (Go.IntKind.wrap Go.IntKind.i64 (((UInt8.toNat (List.getD s 9 (0 : UInt8))) : Nat) : Int))))) ∧ ((Go.IntKind.wrap Go.IntKind.i64 ((10 : Int) + (Go.IntKind.wrap Go.IntKind.i64 (((UInt8.toNat (List.getD s 9 (0 : UInt8))) : Nat) : Int)))) ≤ (((List.length s) : Nat) : Int))))
              (cond (decide (((0 : Int) ≤ (10 : Int)) ∧ ((10 : Int) ≤ (Go.IntKind.wrap Go.IntKind.i64 ((10 : Int) + (Go.IntKind.wrap Go.IntKind.i64 (((UInt8.toNat (List.getD s 9 (0 : UInt8))) : Nat) : Int)))))))
                (some (y, ((Go.IntKind.wrap Go.IntKind.i64 (((UInt8.toNat (List.getD s 8 (0 : UInt8))) : Nat) : Int)), ((Go.Lift.cut s 10 (Int.toNat (Go.IntKind.wrap Go.IntKind.i64 ((10 : Int) + (Go.IntKind.wrap Go.IntKind.i64 (((UInt8.toNat (List.getD s 9 (0 : UInt8))) : Nat) : Int)))))), (true, ())))))
                (none))
              (none))
            (none))))
      (none))
    (none))

noncomputable def porterref42_Get_t (N : Nat) : Tab (Int × Int × (List UInt8) × Bool × Unit) := [([0, 1], porterref42_Get_h1 N), ([0, 1, 0, 1, 1, 1, 1], porterref42_Get_h3 N)]

theorem porterref42_Get_link (N : Nat) (x : denS [(0, .v .str)]) : evFX (porterref42_Get_E N) N (porterref42_Get_t N) porterref42_Get_L Go.Proofs.Try.f11 (mkS [(0, .v .str)] 0 x) (kRes (.tup [(.int .i64), (.int .i64), .str, .bool]) 1) = porterref42_Get N x.1 := by kernel_rfl

noncomputable def porterref42_Get_res (N : Nat) : List A → Res := resOf [(0, .v .str)] (fun x => porterref42_Get N x.1) (oRes (.tup [(.int .i64), (.int .i64), .str, .bool]) 1)

theorem porterref42_Get_ct (N : Nat) : Contract Go.Proofs.Try.prog noGlob 11 (porterref42_Get_res N) :=
  Contract.of (E := porterref42_Get_E N) (H := porterref42_Get_t N) (L := porterref42_Get_L) (N := N) (body := porterref42_Get_body) (K := (kRes (.tup [(.int .i64), (.int .i64), .str, .bool]) 1)) (porterref42_Get_Eok N) Go.Proofs.Try.func11 (by kernel_rfl) (by decide) (fun _ hb => (TabOk.cons (porterref42_Get_ok1 hb) (TabOk.cons (porterref42_Get_ok3 hb) TabOk.nil))) (fun x y h => by rw [porterref42_Get_link]; exact h) (kRes_ok (s := (.tup [(.int .i64), (.int .i64), .str, .bool])) (m := 1))

abbrev porterlaw42_FramePuts_R : Type := Bool

noncomputable def porterlaw42_FramePuts_body : Code := (Go.Proofs.Try.f3.body).getD .skip

noncomputable def porterlaw42_FramePuts_L : List (List Nat × List Nat) := [([0], [2, 1]), ([0, 0, 1], [23, 2, 1]), ([1, 0, 1], [2, 1]), ([0, 0, 1, 0, 1], [4]), ([1, 0, 1, 0, 1], [4]), ([0, 1, 1], [2, 1, 5, 6]), ([0, 1, 1, 1], [1, 5, 7, 6, 8]), ([0, 1, 1, 1, 1], [1, 5, 7, 6, 8, 9, 10]), ([0, 1, 1, 1, 1, 1], [5, 7, 6, 8, 9, 11, 12, 13, 10, 14]), ([0, 1, 1, 1, 1, 1, 1], [4]), ([1, 1, 1, 1, 1, 1, 1], [4])]

noncomputable def porterlaw42_FramePuts_E (N : Nat) : Env := mkEnv tys noGlob [(11, porterref42_Get_res N), (9, porterref42_Put_res N), (7, porterlaw42_works_res N), (10, frame_Get_res N), (8, frame_Put_res N)] [] [] [] false

theorem porterlaw42_FramePuts_Eok (N : Nat) : EnvOk Go.Proofs.Try.prog (porterlaw42_FramePuts_E N) := mkEnv_ok mixed tys_ok (FnsOk.cons (porterref42_Get_ct N) (FnsOk.cons (porterref42_Put_ct N) (FnsOk.cons (porterlaw42_works_ct N) (FnsOk.cons (frame_Get_ct N) (FnsOk.cons (frame_Put_ct N) (FnsOk.nil))))))

noncomputable def porterlaw42_FramePuts_p2 (N : Nat) (s : (List UInt8)) (f : (Int × (Int × ((List UInt8) × Unit)))) (k0 : Bool → Option Bool) : Option Bool :=
  cond (decide ((300 : Int) < (((List.length f.2.2.1) : Nat) : Int)))
  (k0 true)
  (k0 (decide ((300 : Int) < (((List.length s) : Nat) : Int))))

noncomputable def porterlaw42_FramePuts_g2 (N : Nat) (x : denS [(1, .v .str), (0, .box (.pair (.int .i64) (.pair (.int .i64) (.pair .str .unit))))]) (K : Ex → List A → Option Bool) : Option Bool :=
  porterlaw42_FramePuts_p2 N x.1 x.2.1 (fun a2 => (K .normal (mkS [(1, .v .str), (0, .box (.pair (.int .i64) (.pair (.int .i64) (.pair .str .unit)))), (20, .v .bool)] 52 (x.1, x.2.1, a2, ()))))

noncomputable def porterlaw42_FramePuts_h2 (N : Nat) : Hd Bool := fun st K => (unS [(1, .v .str), (0, .box (.pair (.int .i64) (.pair (.int .i64) (.pair .str .unit))))] 73 (restr [2, 1] 0 st)).bind fun x => porterlaw42_FramePuts_g2 N x K

noncomputable def porterlaw42_FramePuts_t2 (N : Nat) : Tab Bool := []

theorem porterlaw42_FramePuts_ok2 {N : Nat} {c : Ctx} (hb : Base Go.Proofs.Try.prog (porterlaw42_FramePuts_E N) c) : CodeOk Go.Proofs.Try.prog c (nodeAt porterlaw42_FramePuts_body [0, 0, 1]) (porterlaw42_FramePuts_h2 N) :=
  piece_ok (s := [(1, .v .str), (0, .box (.pair (.int .i64) (.pair (.int .i64) (.pair .str .unit))))]) (m := 73) (g := porterlaw42_FramePuts_g2 N) [2, 1] (evN_sound hb N (porterlaw42_FramePuts_t2 N) porterlaw42_FramePuts_L porterlaw42_FramePuts_body TabOk.nil [0, 0, 1] _ rfl) (fun x K => by kernel_rfl)

noncomputable def porterlaw42_FramePuts_p1 (N : Nat) (s : (List UInt8)) (f : (Int × (Int × ((List UInt8) × Unit)))) (k0 : Bool → Option Bool) (k1 : Option Bool) : Option Bool :=
  porterlaw42_FramePuts_p2 N s f
  (fun x23 => cond x23
    ((porterlaw42_works N).bind fun y =>
      k0 y)
    (k1))

noncomputable def porterlaw42_FramePuts_g1 (N : Nat) (x : denS [(1, .v .str), (0, .box (.pair (.int .i64) (.pair (.int .i64) (.pair .str .unit))))]) (K : Ex → List A → Option Bool) : Option Bool :=
  porterlaw42_FramePuts_p1 N x.1 x.2.1 (fun a0 => (K .ret (mkS [(4, .v .bool)] 71 (a0, ())))) (K .normal (mkS [(1, .v .str), (0, .box (.pair (.int .i64) (.pair (.int .i64) (.pair .str .unit))))] 73 (x.1, x.2.1, ())))

noncomputable def porterlaw42_FramePuts_h1 (N : Nat) : Hd Bool := fun st K => (unS [(1, .v .str), (0, .box (.pair (.int .i64) (.pair (.int .i64) (.pair .str .unit))))] 73 (restr [2, 1] 0 st)).bind fun x => porterlaw42_FramePuts_g1 N x K

noncomputable def porterlaw42_FramePuts_t1 (N : Nat) : Tab Bool := [([0, 0, 1], porterlaw42_FramePuts_h2 N)]

theorem porterlaw42_FramePuts_ok1 {N : Nat} {c : Ctx} (hb : Base Go.Proofs.Try.prog (porterlaw42_FramePuts_E N) c) : CodeOk Go.Proofs.Try.prog c (nodeAt porterlaw42_FramePuts_body [0, 1]) (porterlaw42_FramePuts_h1 N) :=
  piece_ok (s := [(1, .v .str), (0, .box (.pair (.int .i64) (.pair (.int .i64) (.pair .str .unit))))]) (m := 73) (g := porterlaw42_FramePuts_g1 N) [2, 1] (evN_sound hb N (porterlaw42_FramePuts_t1 N) porterlaw42_FramePuts_L porterlaw42_FramePuts_body (TabOk.cons (porterlaw42_FramePuts_ok2 hb) TabOk.nil) [0, 1] _ rfl) (fun x K => by kernel_rfl)

noncomputable def porterlaw42_FramePuts (N : Nat) (f : (Int × (Int × ((List UInt8) × Unit)))) (s : (List UInt8)) : Option Bool :=
  porterlaw42_FramePuts_p1 N s f
  (fun x4 => some x4)
  ((frame_Put N f).bind fun y =>
    (porterref42_Put N f.1 f.2.1 f.2.2.1).bind fun y1 =>
    (frame_Get N s).bind fun y2 =>
    (porterref42_Get N s).bind fun y3 =>
    cond (y.1 == y1.1)
    (cond (y.2.1 == y1.2.1)
      (cond (Go.Lift.eqD (Go.Lift.T.pair (Go.Lift.T.int Go.IntKind.i64) (Go.Lift.T.pair (Go.Lift.T.int Go.IntKind.i64) (Go.Lift.T.pair Go.Lift.T.str Go.Lift.T.unit))) y2.1 (y3.1, (y3.2.1, (y3.2.2.1, ()))))
        (cond (y2.2.1 == y3.2.2.2.1)
          ((porterlaw42_works N).bind fun y4 =>
            some y4)
          (some false))
        (some false))
      (some false))
    (some false))

noncomputable def porterlaw42_FramePuts_t (N : Nat) : Tab Bool := [([0, 1], porterlaw42_FramePuts_h1 N)]

theorem porterlaw42_FramePuts_link (N : Nat) (x : denS [(0, .v (.pair (.int .i64) (.pair (.int .i64) (.pair .str .unit)))), (0, .v .str)]) : evFX (porterlaw42_FramePuts_E N) N (porterlaw42_FramePuts_t N) porterlaw42_FramePuts_L Go.Proofs.Try.f3 (mkS [(0, .v (.pair (.int .i64) (.pair (.int .i64) (.pair .str .unit)))), (0, .v .str)] 0 x) (kRes (.v .bool) 2) = porterlaw42_FramePuts N x.1 x.2.1 := by kernel_rfl

noncomputable def porterlaw42_FramePuts_res (N : Nat) : List A → Res := resOf [(0, .v (.pair (.int .i64) (.pair (.int .i64) (.pair .str .unit)))), (0, .v .str)] (fun x => porterlaw42_FramePuts N x.1 x.2.1) (oRes (.v .bool) 2)

theorem porterlaw42_FramePuts_ct (N : Nat) : Contract Go.Proofs.Try.prog noGlob 3 (porterlaw42_FramePuts_res N) :=
  Contract.of (E := porterlaw42_FramePuts_E N) (H := porterlaw42_FramePuts_t N) (L := porterlaw42_FramePuts_L) (N := N) (body := porterlaw42_FramePuts_body) (K := (kRes (.v .bool) 2)) (porterlaw42_FramePuts_Eok N) Go.Proofs.Try.func3 (by kernel_rfl) (by decide) (fun _ hb => (TabOk.cons (porterlaw42_FramePuts_ok1 hb) TabOk.nil)) (fun x y h => by rw [porterlaw42_FramePuts_link]; exact h) (kRes_ok (s := (.v .bool)) (m := 2))

abbrev porterlaw42_FrameBack_R : Type := Bool

noncomputable def porterlaw42_FrameBack_body : Code := (Go.Proofs.Try.f4.body).getD .skip

noncomputable def porterlaw42_FrameBack_L : List (List Nat × List Nat) := [([0], [2, 1]), ([0, 0, 1], [21, 2, 1]), ([1, 0, 1], [2, 1]), ([0, 0, 1, 0, 1], [4]), ([1, 0, 1, 0, 1], [4]), ([0, 1, 1], [6, 5, 2, 1]), ([0, 0, 1, 1, 1], [29, 5, 2, 1]), ([1, 0, 1, 1, 1], [1]), ([0, 0, 1, 0, 1, 1, 1], [8, 7, 2, 5, 1]), ([0, 1, 0, 1, 0, 1, 1, 1], [46, 1]), ([1, 1, 0, 1, 0, 1, 1, 1], [1]), ([0, 0, 1, 1, 0, 1, 0, 1, 1, 1], [4]), ([1, 0, 1, 1, 0, 1, 0, 1, 1, 1], [4]), ([0, 1, 1, 1, 1], [9, 10, 1]), ([0, 1, 1, 1, 1, 1], [10, 12, 11, 1]), ([0, 1, 1, 1, 1, 1, 1], [4]), ([1, 1, 1, 1, 1, 1, 1], [4])]

noncomputable def porterlaw42_FrameBack_E (N : Nat) : Env := mkEnv tys noGlob [(7, porterlaw42_works_res N), (10, frame_Get_res N), (8, frame_Put_res N)] [] [] [] false

theorem porterlaw42_FrameBack_Eok (N : Nat) : EnvOk Go.Proofs.Try.prog (porterlaw42_FrameBack_E N) := mkEnv_ok mixed tys_ok (FnsOk.cons (porterlaw42_works_ct N) (FnsOk.cons (frame_Get_ct N) (FnsOk.cons (frame_Put_ct N) (FnsOk.nil))))

noncomputable def porterlaw42_FrameBack_p2 (N : Nat) (s : (List UInt8)) (f : (Int × (Int × ((List UInt8) × Unit)))) (k0 : Bool → Option Bool) : Option Bool :=
  cond (decide ((300 : Int) < (((List.length f.2.2.1) : Nat) : Int)))
  (k0 true)
  (k0 (decide ((300 : Int) < (((List.length s) : Nat) : Int))))

noncomputable def porterlaw42_FrameBack_g2 (N : Nat) (x : denS [(1, .v .str), (0, .box (.pair (.int .i64) (.pair (.int .i64) (.pair .str .unit))))]) (K : Ex → List A → Option Bool) : Option Bool :=
  porterlaw42_FrameBack_p2 N x.1 x.2.1 (fun a2 => (K .normal (mkS [(1, .v .str), (0, .box (.pair (.int .i64) (.pair (.int .i64) (.pair .str .unit)))), (18, .v .bool)] 49 (x.1, x.2.1, a2, ()))))

noncomputable def porterlaw42_FrameBack_h2 (N : Nat) : Hd Bool := fun st K => (unS [(1, .v .str), (0, .box (.pair (.int .i64) (.pair (.int .i64) (.pair .str .unit))))] 68 (restr [2, 1] 0 st)).bind fun x => porterlaw42_FrameBack_g2 N x K

noncomputable def porterlaw42_FrameBack_t2 (N : Nat) : Tab Bool := []

theorem porterlaw42_FrameBack_ok2 {N : Nat} {c : Ctx} (hb : Base Go.Proofs.Try.prog (porterlaw42_FrameBack_E N) c) : CodeOk Go.Proofs.Try.prog c (nodeAt porterlaw42_FrameBack_body [0, 0, 1]) (porterlaw42_FrameBack_h2 N) :=
  piece_ok (s := [(1, .v .str), (0, .box (.pair (.int .i64) (.pair (.int .i64) (.pair .str .unit))))]) (m := 68) (g := porterlaw42_FrameBack_g2 N) [2, 1] (evN_sound hb N (porterlaw42_FrameBack_t2 N) porterlaw42_FrameBack_L porterlaw42_FrameBack_body TabOk.nil [0, 0, 1] _ rfl) (fun x K => by kernel_rfl)

noncomputable def porterlaw42_FrameBack_p1 (N : Nat) (s : (List UInt8)) (f : (Int × (Int × ((List UInt8) × Unit)))) (k0 : Bool → Option Bool) (k1 : Option Bool) : Option Bool :=
  porterlaw42_FrameBack_p2 N s f
  (fun x21 => cond x21
    ((porterlaw42_works N).bind fun y =>
      k0 y)
    (k1))

noncomputable def porterlaw42_FrameBack_g1 (N : Nat) (x : denS [(1, .v .str), (0, .box (.pair (.int .i64) (.pair (.int .i64) (.pair .str .unit))))]) (K : Ex → List A → Option Bool) : Option Bool :=
  porterlaw42_FrameBack_p1 N x.1 x.2.1 (fun a0 => (K .ret (mkS [(4, .v .bool)] 66 (a0, ())))) (K .normal (mkS [(1, .v .str), (0, .box (.pair (.int .i64) (.pair (.int .i64) (.pair .str .unit))))] 68 (x.1, x.2.1, ())))

noncomputable def porterlaw42_FrameBack_h1 (N : Nat) : Hd Bool := fun st K => (unS [(1, .v .str), (0, .box (.pair (.int .i64) (.pair (.int .i64) (.pair .str .unit))))] 68 (restr [2, 1] 0 st)).bind fun x => porterlaw42_FrameBack_g1 N x K

noncomputable def porterlaw42_FrameBack_t1 (N : Nat) : Tab Bool := [([0, 0, 1], porterlaw42_FrameBack_h2 N)]

theorem porterlaw42_FrameBack_ok1 {N : Nat} {c : Ctx} (hb : Base Go.Proofs.Try.prog (porterlaw42_FrameBack_E N) c) : CodeOk Go.Proofs.Try.prog c (nodeAt porterlaw42_FrameBack_body [0, 1]) (porterlaw42_FrameBack_h1 N) :=
  piece_ok (s := [(1, .v .str), (0, .box (.pair (.int .i64) (.pair (.int .i64) (.pair .str .unit))))]) (m := 68) (g := porterlaw42_FrameBack_g1 N) [2, 1] (evN_sound hb N (porterlaw42_FrameBack_t1 N) porterlaw42_FrameBack_L porterlaw42_FrameBack_body (TabOk.cons (porterlaw42_FrameBack_ok2 hb) TabOk.nil) [0, 1] _ rfl) (fun x K => by kernel_rfl)

noncomputable def porterlaw42_FrameBack_p4 (N : Nat) (s : (List UInt8)) (f : (Int × (Int × ((List UInt8) × Unit)))) (a : (List UInt8)) (g : (Int × (Int × ((List UInt8) × Unit)))) (is_ : Bool) (k0 : Bool → Option Bool) : Option Bool :=
  cond (!is_)
  (k0 true)
  (cond (!(Go.Lift.eqD (Go.Lift.T.pair (Go.Lift.T.int Go.IntKind.i64) (Go.Lift.T.pair (Go.Lift.T.int Go.IntKind.i64) (Go.Lift.T.pair Go.Lift.T.str Go.Lift.T.unit))) g f))
    (k0 true)
    (k0 ((((List.length a) : Nat) : Int) != (128 : Int))))

noncomputable def porterlaw42_FrameBack_g4 (N : Nat) (x : denS [(1, .v .str), (0, .box (.pair (.int .i64) (.pair (.int .i64) (.pair .str .unit)))), (2, .v .str), (1, .box (.pair (.int .i64) (.pair (.int .i64) (.pair .str .unit)))), (0, .v .bool)]) (K : Ex → List A → Option Bool) : Option Bool :=
  porterlaw42_FrameBack_p4 N x.1 x.2.1 x.2.2.1 x.2.2.2.1 x.2.2.2.2.1 (fun a1 => (K .normal (mkS [(1, .v .str), (44, .v .bool)] 24 (x.1, a1, ()))))

noncomputable def porterlaw42_FrameBack_h4 (N : Nat) : Hd Bool := fun st K => (unS [(1, .v .str), (0, .box (.pair (.int .i64) (.pair (.int .i64) (.pair .str .unit)))), (2, .v .str), (1, .box (.pair (.int .i64) (.pair (.int .i64) (.pair .str .unit)))), (0, .v .bool)] 62 (restr [8, 7, 2, 5, 1] 0 st)).bind fun x => porterlaw42_FrameBack_g4 N x K

noncomputable def porterlaw42_FrameBack_t4 (N : Nat) : Tab Bool := []

theorem porterlaw42_FrameBack_ok4 {N : Nat} {c : Ctx} (hb : Base Go.Proofs.Try.prog (porterlaw42_FrameBack_E N) c) : CodeOk Go.Proofs.Try.prog c (nodeAt porterlaw42_FrameBack_body [0, 1, 0, 1, 0, 1, 1, 1]) (porterlaw42_FrameBack_h4 N) :=
  piece_ok (s := [(1, .v .str), (0, .box (.pair (.int .i64) (.pair (.int .i64) (.pair .str .unit)))), (2, .v .str), (1, .box (.pair (.int .i64) (.pair (.int .i64) (.pair .str .unit)))), (0, .v .bool)]) (m := 62) (g := porterlaw42_FrameBack_g4 N) [8, 7, 2, 5, 1] (evN_sound hb N (porterlaw42_FrameBack_t4 N) porterlaw42_FrameBack_L porterlaw42_FrameBack_body TabOk.nil [0, 1, 0, 1, 0, 1, 1, 1] _ rfl) (fun x K => by kernel_rfl)

noncomputable def porterlaw42_FrameBack_p3 (N : Nat) (s : (List UInt8)) (f : (Int × (Int × ((List UInt8) × Unit)))) (a : (List UInt8)) (e : Int) (k0 : Bool → Option Bool) (k1 : Option Bool) : Option Bool :=
  cond (e == (0 : Int))
  ((frame_Get N a).bind fun y =>
    porterlaw42_FrameBack_p4 N s f a y.1 y.2.1
    (fun x46 => cond x46
      (k0 false)
      (k1)))
  (k1)

noncomputable def porterlaw42_FrameBack_g3 (N : Nat) (x : denS [(1, .v .str), (0, .box (.pair (.int .i64) (.pair (.int .i64) (.pair .str .unit)))), (2, .v .str), (0, .v (.int .i64))]) (K : Ex → List A → Option Bool) : Option Bool :=
  porterlaw42_FrameBack_p3 N x.1 x.2.1 x.2.2.1 x.2.2.2.1 (fun a0 => (K .ret (mkS [(4, .v .bool)] 66 (a0, ())))) (K .normal (mkS [(1, .v .str)] 69 (x.1, ())))

noncomputable def porterlaw42_FrameBack_h3 (N : Nat) : Hd Bool := fun st K => (unS [(1, .v .str), (0, .box (.pair (.int .i64) (.pair (.int .i64) (.pair .str .unit)))), (2, .v .str), (0, .v (.int .i64))] 64 (restr [6, 5, 2, 1] 0 st)).bind fun x => porterlaw42_FrameBack_g3 N x K

noncomputable def porterlaw42_FrameBack_t3 (N : Nat) : Tab Bool := [([0, 1, 0, 1, 0, 1, 1, 1], porterlaw42_FrameBack_h4 N)]

theorem porterlaw42_FrameBack_ok3 {N : Nat} {c : Ctx} (hb : Base Go.Proofs.Try.prog (porterlaw42_FrameBack_E N) c) : CodeOk Go.Proofs.Try.prog c (nodeAt porterlaw42_FrameBack_body [0, 1, 1, 1]) (porterlaw42_FrameBack_h3 N) :=
  piece_ok (s := [(1, .v .str), (0, .box (.pair (.int .i64) (.pair (.int .i64) (.pair .str .unit)))), (2, .v .str), (0, .v (.int .i64))]) (m := 64) (g := porterlaw42_FrameBack_g3 N) [6, 5, 2, 1] (evN_sound hb N (porterlaw42_FrameBack_t3 N) porterlaw42_FrameBack_L porterlaw42_FrameBack_body (TabOk.cons (porterlaw42_FrameBack_ok4 hb) TabOk.nil) [0, 1, 1, 1] _ rfl) (fun x K => by kernel_rfl)

noncomputable def porterlaw42_FrameBack (N : Nat) (f : (Int × (Int × ((List UInt8) × Unit)))) (s : (List UInt8)) : Option Bool :=
  porterlaw42_FrameBack_p1 N s f
  (fun x4 => some x4)
  ((frame_Put N f).bind fun y =>
    porterlaw42_FrameBack_p3 N s f y.1 y.2.1
    (fun x41 => some x41)
    ((frame_Get N s).bind fun y1 =>
      (frame_Put N y1.1).bind fun y2 =>
      cond (!y1.2.1)
      ((porterlaw42_works N).bind fun y3 =>
        some y3)
      (cond (y2.2.1 == (0 : Int))
        (cond (y2.1 == s)
          ((porterlaw42_works N).bind fun y4 =>
            some y4)
          (some false))
        (some false))))

noncomputable def porterlaw42_FrameBack_t (N : Nat) : Tab Bool := [([0, 1], porterlaw42_FrameBack_h1 N), ([0, 1, 1, 1], porterlaw42_FrameBack_h3 N)]

theorem porterlaw42_FrameBack_link (N : Nat) (x : denS [(0, .v (.pair (.int .i64) (.pair (.int .i64) (.pair .str .unit)))), (0, .v .str)]) : evFX (porterlaw42_FrameBack_E N) N (porterlaw42_FrameBack_t N) porterlaw42_FrameBack_L Go.Proofs.Try.f4 (mkS [(0, .v (.pair (.int .i64) (.pair (.int .i64) (.pair .str .unit)))), (0, .v .str)] 0 x) (kRes (.v .bool) 2) = porterlaw42_FrameBack N x.1 x.2.1 := by kernel_rfl

noncomputable def porterlaw42_FrameBack_res (N : Nat) : List A → Res := resOf [(0, .v (.pair (.int .i64) (.pair (.int .i64) (.pair .str .unit)))), (0, .v .str)] (fun x => porterlaw42_FrameBack N x.1 x.2.1) (oRes (.v .bool) 2)

theorem porterlaw42_FrameBack_ct (N : Nat) : Contract Go.Proofs.Try.prog noGlob 4 (porterlaw42_FrameBack_res N) :=
  Contract.of (E := porterlaw42_FrameBack_E N) (H := porterlaw42_FrameBack_t N) (L := porterlaw42_FrameBack_L) (N := N) (body := porterlaw42_FrameBack_body) (K := (kRes (.v .bool) 2)) (porterlaw42_FrameBack_Eok N) Go.Proofs.Try.func4 (by kernel_rfl) (by decide) (fun _ hb => (TabOk.cons (porterlaw42_FrameBack_ok1 hb) (TabOk.cons (porterlaw42_FrameBack_ok3 hb) TabOk.nil))) (fun x y h => by rw [porterlaw42_FrameBack_link]; exact h) (kRes_ok (s := (.v .bool)) (m := 2))

abbrev porterlaw42_FrameTorn_R : Type := Bool

noncomputable def porterlaw42_FrameTorn_body : Code := (Go.Proofs.Try.f5.body).getD .skip

noncomputable def porterlaw42_FrameTorn_L : List (List Nat × List Nat) := [([0], [1, 3, 2]), ([0, 0, 1], [15, 3, 1, 2]), ([1, 0, 1], [3, 1, 2]), ([0, 0, 1, 0, 1], [6]), ([1, 0, 1, 0, 1], [6]), ([0, 1, 1], [8, 7, 1, 2, 3]), ([0, 0, 1, 1, 1], [35, 8, 7, 2, 1, 3]), ([1, 0, 1, 1, 1], [2, 7, 1, 3]), ([0, 0, 1, 0, 1, 1, 1], [6]), ([1, 0, 1, 0, 1, 1, 1], [6]), ([0, 1, 1, 1, 1], [7, 9, 1, 3]), ([0, 1, 1, 1, 1, 1], [10, 3, 7]), ([0, 1, 1, 1, 1, 1, 1], [12, 11, 3, 10, 7]), ([0, 1, 1, 1, 1, 1, 1, 1], [6]), ([1, 1, 1, 1, 1, 1, 1, 1], [6])]

noncomputable def porterlaw42_FrameTorn_E (N : Nat) : Env := mkEnv tys noGlob [(7, porterlaw42_works_res N), (10, frame_Get_res N), (8, frame_Put_res N)] [] [] [] false

theorem porterlaw42_FrameTorn_Eok (N : Nat) : EnvOk Go.Proofs.Try.prog (porterlaw42_FrameTorn_E N) := mkEnv_ok mixed tys_ok (FnsOk.cons (porterlaw42_works_ct N) (FnsOk.cons (frame_Get_ct N) (FnsOk.cons (frame_Put_ct N) (FnsOk.nil))))

noncomputable def porterlaw42_FrameTorn_p2 (N : Nat) (old : (List UInt8)) (keep : Int) (f : (Int × (Int × ((List UInt8) × Unit)))) (s : (List UInt8)) (e : Int) (k0 : Bool → Option Bool) : Option Bool :=
  cond (e != (0 : Int))
  (k0 true)
  (cond ((((List.length s) : Nat) : Int) != (128 : Int))
    (k0 true)
    (cond (decide (((0 : Int) ≤ (120 : Int)) ∧ ((120 : Int) ≤ (((List.length s) : Nat) : Int))))
      (cond (decide (((0 : Int) ≤ (120 : Int)) ∧ ((120 : Int) ≤ (((List.length old) : Nat) : Int))))
        (k0 ((Go.Lift.cut s 120 (List.length s)) == (Go.Lift.cut old 120 (List.length old))))
        (none))
      (none)))

noncomputable def porterlaw42_FrameTorn_g2 (N : Nat) (x : denS [(1, .v .str), (0, .v (.int .u8)), (0, .box (.pair (.int .i64) (.pair (.int .i64) (.pair .str .unit)))), (3, .v .str), (0, .v (.int .i64))]) (K : Ex → List A → Option Bool) : Option Bool :=
  porterlaw42_FrameTorn_p2 N x.1 x.2.1 x.2.2.1 x.2.2.2.1 x.2.2.2.2.1 (fun a5 => (K .normal (mkS [(1, .v .str), (0, .v (.int .u8)), (0, .box (.pair (.int .i64) (.pair (.int .i64) (.pair .str .unit)))), (3, .v .str), (0, .v (.int .i64)), (26, .v .bool)] 51 (x.1, x.2.1, x.2.2.1, x.2.2.2.1, x.2.2.2.2.1, a5, ()))))

noncomputable def porterlaw42_FrameTorn_h2 (N : Nat) : Hd Bool := fun st K => (unS [(1, .v .str), (0, .v (.int .u8)), (0, .box (.pair (.int .i64) (.pair (.int .i64) (.pair .str .unit)))), (3, .v .str), (0, .v (.int .i64))] 78 (restr [8, 7, 1, 2, 3] 0 st)).bind fun x => porterlaw42_FrameTorn_g2 N x K

noncomputable def porterlaw42_FrameTorn_t2 (N : Nat) : Tab Bool := []

theorem porterlaw42_FrameTorn_ok2 {N : Nat} {c : Ctx} (hb : Base Go.Proofs.Try.prog (porterlaw42_FrameTorn_E N) c) : CodeOk Go.Proofs.Try.prog c (nodeAt porterlaw42_FrameTorn_body [0, 0, 1, 1, 1]) (porterlaw42_FrameTorn_h2 N) :=
  piece_ok (s := [(1, .v .str), (0, .v (.int .u8)), (0, .box (.pair (.int .i64) (.pair (.int .i64) (.pair .str .unit)))), (3, .v .str), (0, .v (.int .i64))]) (m := 78) (g := porterlaw42_FrameTorn_g2 N) [8, 7, 1, 2, 3] (evN_sound hb N (porterlaw42_FrameTorn_t2 N) porterlaw42_FrameTorn_L porterlaw42_FrameTorn_body TabOk.nil [0, 0, 1, 1, 1] _ rfl) (fun x K => by kernel_rfl)

noncomputable def porterlaw42_FrameTorn_p1 (N : Nat) (old : (List UInt8)) (keep : Int) (f : (Int × (Int × ((List UInt8) × Unit)))) (s : (List UInt8)) (e : Int) (k0 : Bool → Option Bool) (k1 : Option Bool) : Option Bool :=
  porterlaw42_FrameTorn_p2 N old keep f s e
  (fun x35 => cond x35
    (cond (e == (0 : Int))
      (cond ((((List.length s) : Nat) : Int) == (128 : Int))
        (k0 true)
        (cond (e != (0 : Int))
          ((porterlaw42_works N).bind fun y =>
            k0 y)
          (k0 false)))
      (cond (e != (0 : Int))
        ((porterlaw42_works N).bind fun y1 =>
          k0 y1)
        (k0 false)))
    (k1))

noncomputable def porterlaw42_FrameTorn_g1 (N : Nat) (x : denS [(1, .v .str), (0, .v (.int .u8)), (0, .box (.pair (.int .i64) (.pair (.int .i64) (.pair .str .unit)))), (3, .v .str), (0, .v (.int .i64))]) (K : Ex → List A → Option Bool) : Option Bool :=
  porterlaw42_FrameTorn_p1 N x.1 x.2.1 x.2.2.1 x.2.2.2.1 x.2.2.2.2.1 (fun a0 => (K .ret (mkS [(6, .v .bool)] 80 (a0, ())))) (K .normal (mkS [(1, .v .str), (0, .v (.int .u8)), (0, .box (.pair (.int .i64) (.pair (.int .i64) (.pair .str .unit)))), (3, .v .str)] 79 (x.1, x.2.1, x.2.2.1, x.2.2.2.1, ())))

noncomputable def porterlaw42_FrameTorn_h1 (N : Nat) : Hd Bool := fun st K => (unS [(1, .v .str), (0, .v (.int .u8)), (0, .box (.pair (.int .i64) (.pair (.int .i64) (.pair .str .unit)))), (3, .v .str), (0, .v (.int .i64))] 78 (restr [8, 7, 1, 2, 3] 0 st)).bind fun x => porterlaw42_FrameTorn_g1 N x K

noncomputable def porterlaw42_FrameTorn_t1 (N : Nat) : Tab Bool := [([0, 0, 1, 1, 1], porterlaw42_FrameTorn_h2 N)]

theorem porterlaw42_FrameTorn_ok1 {N : Nat} {c : Ctx} (hb : Base Go.Proofs.Try.prog (porterlaw42_FrameTorn_E N) c) : CodeOk Go.Proofs.Try.prog c (nodeAt porterlaw42_FrameTorn_body [0, 1, 1, 1]) (porterlaw42_FrameTorn_h1 N) :=
  piece_ok (s := [(1, .v .str), (0, .v (.int .u8)), (0, .box (.pair (.int .i64) (.pair (.int .i64) (.pair .str .unit)))), (3, .v .str), (0, .v (.int .i64))]) (m := 78) (g := porterlaw42_FrameTorn_g1 N) [8, 7, 1, 2, 3] (evN_sound hb N (porterlaw42_FrameTorn_t1 N) porterlaw42_FrameTorn_L porterlaw42_FrameTorn_body (TabOk.cons (porterlaw42_FrameTorn_ok2 hb) TabOk.nil) [0, 1, 1, 1] _ rfl) (fun x K => by kernel_rfl)

noncomputable def porterlaw42_FrameTorn (N : Nat) (f : (Int × (Int × ((List UInt8) × Unit)))) (old : (List UInt8)) (keep : Int) : Option Bool :=
  cond ((((List.length old) : Nat) : Int) != (128 : Int))
  ((porterlaw42_works N).bind fun y =>
    some y)
  ((frame_Put N f).bind fun y1 =>
    porterlaw42_FrameTorn_p1 N old keep f y1.1 y1.2.1
    (fun x6 => some x6)
    (cond (decide (((0 : Int) ≤ (Int.tmod (Go.IntKind.wrap Go.IntKind.i64 keep) (129 : Int))) ∧ ((Int.tmod (Go.IntKind.wrap Go.IntKind.i64 keep) (129 : Int)) ≤ (((List.length y1.1) : Nat) : Int))))
      (cond (decide (((0 : Int) ≤ (Int.tmod (Go.IntKind.wrap Go.IntKind.i64 keep) (129 : Int))) ∧ ((Int.tmod (Go.IntKind.wrap Go.IntKind.i64 keep) (129 : Int)) ≤ (((List.length old) : Nat) : Int))))
        (cond (decide (((List.length (Go.Lift.cut y1.1 0 (Int.toNat (Int.tmod (Go.IntKind.wrap Go.IntKind.i64 keep) (129 : Int))))) + (List.length (Go.Lift.cut old (Int.toNat (Int.tmod (Go.IntKind.wrap Go.IntKind.i64 keep) (129 : Int))) (List.length old)))) ≤ 9223372036854775807))
          ((frame_Get N ((Go.Lift.cut y1.1 0 (Int.toNat (Int.tmod (Go.IntKind.wrap Go.IntKind.i64 keep) (129 : Int)))) ++ (Go.Lift.cut old (Int.toNat (Int.tmod (Go.IntKind.wrap Go.IntKind.i64 keep) (129 : Int))) (List.length old)))).bind fun y2 =>
            cond (!y2.2.1)
            ((porterlaw42_works N).bind fun y3 =>
              some y3)
            (cond (y2.1.1 != f.1)
              ((porterlaw42_works N).bind fun y4 =>
                some y4)
              (cond (((Go.Lift.cut y1.1 0 (Int.toNat (Int.tmod (Go.IntKind.wrap Go.IntKind.i64 keep) (129 : Int)))) ++ (Go.Lift.cut old (Int.toNat (Int.tmod (Go.IntKind.wrap Go.IntKind.i64 keep) (129 : Int))) (List.length old))) == y1.1)
                (cond (Go.Lift.eqD (Go.Lift.T.pair (Go.Lift.T.int Go.IntKind.i64) (Go.Lift.T.pair (Go.Lift.T.int Go.IntKind.i64) (Go.Lift.T.pair Go.Lift.T.str Go.Lift.T.unit))) y2.1 f)
                  ((porterlaw42_works N).bind fun y5 =>
                    some y5)
                  (some false))
                (some false))))
          (none))
        (none))
      (none)))

noncomputable def porterlaw42_FrameTorn_t (N : Nat) : Tab Bool := [([0, 1, 1, 1], porterlaw42_FrameTorn_h1 N)]

theorem porterlaw42_FrameTorn_link (N : Nat) (x : denS [(0, .v (.pair (.int .i64) (.pair (.int .i64) (.pair .str .unit)))), (0, .v .str), (0, .v (.int .u8))]) : evFX (porterlaw42_FrameTorn_E N) N (porterlaw42_FrameTorn_t N) porterlaw42_FrameTorn_L Go.Proofs.Try.f5 (mkS [(0, .v (.pair (.int .i64) (.pair (.int .i64) (.pair .str .unit)))), (0, .v .str), (0, .v (.int .u8))] 0 x) (kRes (.v .bool) 3) = porterlaw42_FrameTorn N x.1 x.2.1 x.2.2.1 := by kernel_rfl

noncomputable def porterlaw42_FrameTorn_res (N : Nat) : List A → Res := resOf [(0, .v (.pair (.int .i64) (.pair (.int .i64) (.pair .str .unit)))), (0, .v .str), (0, .v (.int .u8))] (fun x => porterlaw42_FrameTorn N x.1 x.2.1 x.2.2.1) (oRes (.v .bool) 3)

theorem porterlaw42_FrameTorn_ct (N : Nat) : Contract Go.Proofs.Try.prog noGlob 5 (porterlaw42_FrameTorn_res N) :=
  Contract.of (E := porterlaw42_FrameTorn_E N) (H := porterlaw42_FrameTorn_t N) (L := porterlaw42_FrameTorn_L) (N := N) (body := porterlaw42_FrameTorn_body) (K := (kRes (.v .bool) 3)) (porterlaw42_FrameTorn_Eok N) Go.Proofs.Try.func5 (by kernel_rfl) (by decide) (fun _ hb => (TabOk.cons (porterlaw42_FrameTorn_ok1 hb) TabOk.nil)) (fun x y h => by rw [porterlaw42_FrameTorn_link]; exact h) (kRes_ok (s := (.v .bool)) (m := 3))

abbrev frame_Tail_R : Type := (Int × Bool × Unit)

noncomputable def frame_Tail_body : Code := (Go.Proofs.Try.f12.body).getD .skip

noncomputable def frame_Tail_L : List (List Nat × List Nat) := [([0], [0]), ([0, 0, 1], [7, 0]), ([1, 0, 1], [0]), ([0, 0, 1, 0, 1], [2, 3]), ([1, 0, 1, 0, 1], [2, 3]), ([0, 1, 1], [4]), ([0, 0, 1, 1, 1], [12, 4]), ([1, 0, 1, 1, 1], [4]), ([0, 0, 1, 0, 1, 1, 1], [2, 3]), ([1, 0, 1, 0, 1, 1, 1], [2, 3]), ([0, 1, 1, 1, 1], [2, 3]), ([1, 1, 1, 1, 1], [2, 3])]

noncomputable def frame_Tail_E (N : Nat) : Env := mkEnv tys noGlob [(20, frame_number_res N)] [] [] [] false

theorem frame_Tail_Eok (N : Nat) : EnvOk Go.Proofs.Try.prog (frame_Tail_E N) := mkEnv_ok mixed tys_ok (FnsOk.cons (frame_number_ct N) (FnsOk.nil))

noncomputable def frame_Tail (N : Nat) (block : (List UInt8)) : Option (Int × Bool × Unit) :=
  cond ((((List.length block) : Nat) : Int) != (128 : Int))
  (some ((0 : Int), (false, ())))
  (cond (decide (((0 : Int) ≤ (120 : Int)) ∧ ((120 : Int) ≤ (((List.length block) : Nat) : Int))))
    ((frame_number N (Go.Lift.cut block 120 (List.length block))).bind fun y =>
      cond (decide (y < (0 : Int)))
      (some ((0 : Int), (false, ())))
      (some (y, (true, ()))))
    (none))

noncomputable def frame_Tail_t (N : Nat) : Tab (Int × Bool × Unit) := []

theorem frame_Tail_link (N : Nat) (x : denS [(0, .v .str)]) : evFX (frame_Tail_E N) N (frame_Tail_t N) frame_Tail_L Go.Proofs.Try.f12 (mkS [(0, .v .str)] 0 x) (kRes (.tup [(.int .i64), .bool]) 1) = frame_Tail N x.1 := by kernel_rfl

noncomputable def frame_Tail_res (N : Nat) : List A → Res := resOf [(0, .v .str)] (fun x => frame_Tail N x.1) (oRes (.tup [(.int .i64), .bool]) 1)

theorem frame_Tail_ct (N : Nat) : Contract Go.Proofs.Try.prog noGlob 12 (frame_Tail_res N) :=
  Contract.of (E := frame_Tail_E N) (H := frame_Tail_t N) (L := frame_Tail_L) (N := N) (body := frame_Tail_body) (K := (kRes (.tup [(.int .i64), .bool]) 1)) (frame_Tail_Eok N) Go.Proofs.Try.func12 (by kernel_rfl) (by decide) (fun _ hb => TabOk.nil) (fun x y h => by rw [frame_Tail_link]; exact h) (kRes_ok (s := (.tup [(.int .i64), .bool])) (m := 1))

abbrev porterlaw42_FrameRises_R : Type := Bool

noncomputable def porterlaw42_FrameRises_body : Code := (Go.Proofs.Try.f6.body).getD .skip

noncomputable def porterlaw42_FrameRises_L : List (List Nat × List Nat) := [([0], [1, 3, 2]), ([0, 0, 1], [24, 1, 3, 2]), ([1, 0, 1], [3, 2, 1]), ([0, 0, 1, 0, 1], [8]), ([0, 1, 0, 1, 0, 1], [6]), ([1, 1, 0, 1, 0, 1], [6]), ([0, 1, 1], [10, 9, 2, 1, 3]), ([0, 0, 1, 1, 1], [46, 10, 2, 9, 1, 3]), ([1, 0, 1, 1, 1], [2, 9, 1, 3]), ([0, 0, 1, 0, 1, 1, 1], [6]), ([1, 0, 1, 0, 1, 1, 1], [6]), ([0, 1, 1, 1, 1], [9, 11, 1, 3]), ([0, 1, 1, 1, 1, 1], [12, 1, 3, 9]), ([0, 1, 1, 1, 1, 1, 1], [1, 14, 13, 12, 3, 9]), ([0, 1, 1, 1, 1, 1, 1, 1], [14, 16, 13, 12, 15, 1, 3, 9]), ([0, 0, 1, 1, 1, 1, 1, 1, 1, 1], [91, 15, 3, 13, 12, 9]), ([1, 0, 1, 1, 1, 1, 1, 1, 1, 1], [15, 3, 13, 12, 9]), ([0, 0, 1, 0, 1, 1, 1, 1, 1, 1, 1, 1], [6]), ([1, 0, 1, 0, 1, 1, 1, 1, 1, 1, 1, 1], [6]), ([0, 0, 1, 1, 1, 1, 1, 1, 1, 1, 1], [95, 13, 3, 15, 12, 9]), ([1, 0, 1, 1, 1, 1, 1, 1, 1, 1, 1], [13, 3, 15, 12, 9]), ([0, 0, 1, 0, 1, 1, 1, 1, 1, 1, 1, 1, 1], [6]), ([1, 0, 1, 0, 1, 1, 1, 1, 1, 1, 1, 1, 1], [6]), ([0, 1, 1, 1, 1, 1, 1, 1, 1, 1, 1], [6]), ([1, 1, 1, 1, 1, 1, 1, 1, 1, 1, 1], [6])]

noncomputable def porterlaw42_FrameRises_E (N : Nat) : Env := mkEnv tys noGlob [(12, frame_Tail_res N), (13, porterref42_Number_res N), (7, porterlaw42_works_res N), (8, frame_Put_res N)] [] [] [] false

theorem porterlaw42_FrameRises_Eok (N : Nat) : EnvOk Go.Proofs.Try.prog (porterlaw42_FrameRises_E N) := mkEnv_ok mixed tys_ok (FnsOk.cons (frame_Tail_ct N) (FnsOk.cons (porterref42_Number_ct N) (FnsOk.cons (porterlaw42_works_ct N) (FnsOk.cons (frame_Put_ct N) (FnsOk.nil)))))

noncomputable def porterlaw42_FrameRises_p2 (N : Nat) (old : (List UInt8)) (keep : Int) (f : (Int × (Int × ((List UInt8) × Unit)))) (k0 : Bool → Option Bool) : Option Bool :=
  cond ((((List.length old) : Nat) : Int) != (128 : Int))
  (k0 true)
  (cond (Go.Lift.inR (127 : Int) (List.length old))
    (k0 (decide ((127 : Int) < (((UInt8.toNat (List.getD old 127 (0 : UInt8))) : Nat) : Int))))
    (none))

noncomputable def porterlaw42_FrameRises_g2 (N : Nat) (x : denS [(1, .v .str), (0, .v (.int .u8)), (0, .box (.pair (.int .i64) (.pair (.int .i64) (.pair .str .unit))))]) (K : Ex → List A → Option Bool) : Option Bool :=
  porterlaw42_FrameRises_p2 N x.1 x.2.1 x.2.2.1 (fun a3 => (K .normal (mkS [(1, .v .str), (0, .v (.int .u8)), (0, .box (.pair (.int .i64) (.pair (.int .i64) (.pair .str .unit)))), (20, .v .bool)] 96 (x.1, x.2.1, x.2.2.1, a3, ()))))

noncomputable def porterlaw42_FrameRises_h2 (N : Nat) : Hd Bool := fun st K => (unS [(1, .v .str), (0, .v (.int .u8)), (0, .box (.pair (.int .i64) (.pair (.int .i64) (.pair .str .unit))))] 117 (restr [1, 3, 2] 0 st)).bind fun x => porterlaw42_FrameRises_g2 N x K

noncomputable def porterlaw42_FrameRises_t2 (N : Nat) : Tab Bool := []

theorem porterlaw42_FrameRises_ok2 {N : Nat} {c : Ctx} (hb : Base Go.Proofs.Try.prog (porterlaw42_FrameRises_E N) c) : CodeOk Go.Proofs.Try.prog c (nodeAt porterlaw42_FrameRises_body [0, 0, 1]) (porterlaw42_FrameRises_h2 N) :=
  piece_ok (s := [(1, .v .str), (0, .v (.int .u8)), (0, .box (.pair (.int .i64) (.pair (.int .i64) (.pair .str .unit))))]) (m := 117) (g := porterlaw42_FrameRises_g2 N) [1, 3, 2] (evN_sound hb N (porterlaw42_FrameRises_t2 N) porterlaw42_FrameRises_L porterlaw42_FrameRises_body TabOk.nil [0, 0, 1] _ rfl) (fun x K => by kernel_rfl)

noncomputable def porterlaw42_FrameRises_p1 (N : Nat) (old : (List UInt8)) (keep : Int) (f : (Int × (Int × ((List UInt8) × Unit)))) (k0 : Bool → Option Bool) (k1 : Option Bool) : Option Bool :=
  porterlaw42_FrameRises_p2 N old keep f
  (fun x24 => cond x24
    ((frame_Tail N old).bind fun y =>
      cond (!y.2.1)
      ((porterlaw42_works N).bind fun y1 =>
        k0 y1)
      (k0 false))
    (k1))

noncomputable def porterlaw42_FrameRises_g1 (N : Nat) (x : denS [(1, .v .str), (0, .v (.int .u8)), (0, .box (.pair (.int .i64) (.pair (.int .i64) (.pair .str .unit))))]) (K : Ex → List A → Option Bool) : Option Bool :=
  porterlaw42_FrameRises_p1 N x.1 x.2.1 x.2.2.1 (fun a0 => (K .ret (mkS [(6, .v .bool)] 114 (a0, ())))) (K .normal (mkS [(1, .v .str), (0, .v (.int .u8)), (0, .box (.pair (.int .i64) (.pair (.int .i64) (.pair .str .unit))))] 117 (x.1, x.2.1, x.2.2.1, ())))

noncomputable def porterlaw42_FrameRises_h1 (N : Nat) : Hd Bool := fun st K => (unS [(1, .v .str), (0, .v (.int .u8)), (0, .box (.pair (.int .i64) (.pair (.int .i64) (.pair .str .unit))))] 117 (restr [1, 3, 2] 0 st)).bind fun x => porterlaw42_FrameRises_g1 N x K

noncomputable def porterlaw42_FrameRises_t1 (N : Nat) : Tab Bool := [([0, 0, 1], porterlaw42_FrameRises_h2 N)]

theorem porterlaw42_FrameRises_ok1 {N : Nat} {c : Ctx} (hb : Base Go.Proofs.Try.prog (porterlaw42_FrameRises_E N) c) : CodeOk Go.Proofs.Try.prog c (nodeAt porterlaw42_FrameRises_body [0, 1]) (porterlaw42_FrameRises_h1 N) :=
  piece_ok (s := [(1, .v .str), (0, .v (.int .u8)), (0, .box (.pair (.int .i64) (.pair (.int .i64) (.pair .str .unit))))]) (m := 117) (g := porterlaw42_FrameRises_g1 N) [1, 3, 2] (evN_sound hb N (porterlaw42_FrameRises_t1 N) porterlaw42_FrameRises_L porterlaw42_FrameRises_body (TabOk.cons (porterlaw42_FrameRises_ok2 hb) TabOk.nil) [0, 1] _ rfl) (fun x K => by kernel_rfl)

noncomputable def porterlaw42_FrameRises_p4 (N : Nat) (old : (List UInt8)) (keep : Int) (f : (Int × (Int × ((List UInt8) × Unit)))) (s : (List UInt8)) (e : Int) (k0 : Bool → Option Bool) : Option Bool :=
  cond (e != (0 : Int))
  (k0 true)
  (k0 ((((List.length s) : Nat) : Int) != (128 : Int)))

noncomputable def porterlaw42_FrameRises_g4 (N : Nat) (x : denS [(1, .v .str), (0, .v (.int .u8)), (0, .box (.pair (.int .i64) (.pair (.int .i64) (.pair .str .unit)))), (5, .v .str), (0, .v (.int .i64))]) (K : Ex → List A → Option Bool) : Option Bool :=
  porterlaw42_FrameRises_p4 N x.1 x.2.1 x.2.2.1 x.2.2.2.1 x.2.2.2.2.1 (fun a5 => (K .normal (mkS [(1, .v .str), (0, .v (.int .u8)), (0, .box (.pair (.int .i64) (.pair (.int .i64) (.pair .str .unit)))), (5, .v .str), (0, .v (.int .i64)), (35, .v .bool)] 74 (x.1, x.2.1, x.2.2.1, x.2.2.2.1, x.2.2.2.2.1, a5, ()))))

noncomputable def porterlaw42_FrameRises_h4 (N : Nat) : Hd Bool := fun st K => (unS [(1, .v .str), (0, .v (.int .u8)), (0, .box (.pair (.int .i64) (.pair (.int .i64) (.pair .str .unit)))), (5, .v .str), (0, .v (.int .i64))] 110 (restr [10, 9, 2, 1, 3] 0 st)).bind fun x => porterlaw42_FrameRises_g4 N x K

noncomputable def porterlaw42_FrameRises_t4 (N : Nat) : Tab Bool := []

theorem porterlaw42_FrameRises_ok4 {N : Nat} {c : Ctx} (hb : Base Go.Proofs.Try.prog (porterlaw42_FrameRises_E N) c) : CodeOk Go.Proofs.Try.prog c (nodeAt porterlaw42_FrameRises_body [0, 0, 1, 1, 1]) (porterlaw42_FrameRises_h4 N) :=
  piece_ok (s := [(1, .v .str), (0, .v (.int .u8)), (0, .box (.pair (.int .i64) (.pair (.int .i64) (.pair .str .unit)))), (5, .v .str), (0, .v (.int .i64))]) (m := 110) (g := porterlaw42_FrameRises_g4 N) [10, 9, 2, 1, 3] (evN_sound hb N (porterlaw42_FrameRises_t4 N) porterlaw42_FrameRises_L porterlaw42_FrameRises_body TabOk.nil [0, 0, 1, 1, 1] _ rfl) (fun x K => by kernel_rfl)

noncomputable def porterlaw42_FrameRises_p3 (N : Nat) (old : (List UInt8)) (keep : Int) (f : (Int × (Int × ((List UInt8) × Unit)))) (s : (List UInt8)) (e : Int) (k0 : Bool → Option Bool) (k1 : Option Bool) : Option Bool :=
  porterlaw42_FrameRises_p4 N old keep f s e
  (fun x46 => cond x46
    (cond (e != (0 : Int))
      ((porterlaw42_works N).bind fun y =>
        k0 y)
      (k0 false))
    (k1))

noncomputable def porterlaw42_FrameRises_g3 (N : Nat) (x : denS [(1, .v .str), (0, .v (.int .u8)), (0, .box (.pair (.int .i64) (.pair (.int .i64) (.pair .str .unit)))), (5, .v .str), (0, .v (.int .i64))]) (K : Ex → List A → Option Bool) : Option Bool :=
  porterlaw42_FrameRises_p3 N x.1 x.2.1 x.2.2.1 x.2.2.2.1 x.2.2.2.2.1 (fun a0 => (K .ret (mkS [(6, .v .bool)] 114 (a0, ())))) (K .normal (mkS [(1, .v .str), (0, .v (.int .u8)), (0, .box (.pair (.int .i64) (.pair (.int .i64) (.pair .str .unit)))), (5, .v .str)] 111 (x.1, x.2.1, x.2.2.1, x.2.2.2.1, ())))

noncomputable def porterlaw42_FrameRises_h3 (N : Nat) : Hd Bool := fun st K => (unS [(1, .v .str), (0, .v (.int .u8)), (0, .box (.pair (.int .i64) (.pair (.int .i64) (.pair .str .unit)))), (5, .v .str), (0, .v (.int .i64))] 110 (restr [10, 9, 2, 1, 3] 0 st)).bind fun x => porterlaw42_FrameRises_g3 N x K

noncomputable def porterlaw42_FrameRises_t3 (N : Nat) : Tab Bool := [([0, 0, 1, 1, 1], porterlaw42_FrameRises_h4 N)]

theorem porterlaw42_FrameRises_ok3 {N : Nat} {c : Ctx} (hb : Base Go.Proofs.Try.prog (porterlaw42_FrameRises_E N) c) : CodeOk Go.Proofs.Try.prog c (nodeAt porterlaw42_FrameRises_body [0, 1, 1, 1]) (porterlaw42_FrameRises_h3 N) :=
  piece_ok (s := [(1, .v .str), (0, .v (.int .u8)), (0, .box (.pair (.int .i64) (.pair (.int .i64) (.pair .str .unit)))), (5, .v .str), (0, .v (.int .i64))]) (m := 110) (g := porterlaw42_FrameRises_g3 N) [10, 9, 2, 1, 3] (evN_sound hb N (porterlaw42_FrameRises_t3 N) porterlaw42_FrameRises_L porterlaw42_FrameRises_body (TabOk.cons (porterlaw42_FrameRises_ok4 hb) TabOk.nil) [0, 1, 1, 1] _ rfl) (fun x K => by kernel_rfl)

noncomputable def porterlaw42_FrameRises_p6 (N : Nat) (old : (List UInt8)) (f : (Int × (Int × ((List UInt8) × Unit)))) (s : (List UInt8)) (torn : (List UInt8)) (t : Int) (is_ : Bool) (was : Int) (has : Bool) (k0 : Bool → Option Bool) : Option Bool :=
  cond (!is_)
  (k0 true)
  (cond (!has)
    (k0 true)
    (cond (decide (((0 : Int) ≤ (120 : Int)) ∧ ((120 : Int) ≤ (((List.length torn) : Nat) : Int))))
      ((porterref42_Number N (Go.Lift.cut torn 120 (List.length torn))).bind fun y =>
        cond (t != y)
        (k0 true)
        (cond (decide (((0 : Int) ≤ (120 : Int)) ∧ ((120 : Int) ≤ (((List.length old) : Nat) : Int))))
          ((porterref42_Number N (Go.Lift.cut old 120 (List.length old))).bind fun y1 =>
            k0 (was != y1))
          (none)))
      (none)))

noncomputable def porterlaw42_FrameRises_g6 (N : Nat) (x : denS [(1, .v .str), (1, .box (.pair (.int .i64) (.pair (.int .i64) (.pair .str .unit)))), (5, .v .str), (2, .v .str), (0, .v (.int .i64)), (0, .v .bool), (0, .v (.int .i64)), (0, .v .bool)]) (K : Ex → List A → Option Bool) : Option Bool :=
  porterlaw42_FrameRises_p6 N x.1 x.2.1 x.2.2.1 x.2.2.2.1 x.2.2.2.2.1 x.2.2.2.2.2.1 x.2.2.2.2.2.2.1 x.2.2.2.2.2.2.2.1 (fun a5 => (K .normal (mkS [(3, .box (.pair (.int .i64) (.pair (.int .i64) (.pair .str .unit)))), (5, .v .str), (2, .v .str), (0, .v (.int .i64)), (1, .v (.int .i64)), (75, .v .bool)] 29 (x.2.1, x.2.2.1, x.2.2.2.1, x.2.2.2.2.1, x.2.2.2.2.2.2.1, a5, ()))))

noncomputable def porterlaw42_FrameRises_h6 (N : Nat) : Hd Bool := fun st K => (unS [(1, .v .str), (1, .box (.pair (.int .i64) (.pair (.int .i64) (.pair .str .unit)))), (5, .v .str), (2, .v .str), (0, .v (.int .i64)), (0, .v .bool), (0, .v (.int .i64)), (0, .v .bool)] 104 (restr [14, 16, 13, 12, 15, 1, 3, 9] 0 st)).bind fun x => porterlaw42_FrameRises_g6 N x K

noncomputable def porterlaw42_FrameRises_t6 (N : Nat) : Tab Bool := []

theorem porterlaw42_FrameRises_ok6 {N : Nat} {c : Ctx} (hb : Base Go.Proofs.Try.prog (porterlaw42_FrameRises_E N) c) : CodeOk Go.Proofs.Try.prog c (nodeAt porterlaw42_FrameRises_body [0, 0, 1, 1, 1, 1, 1, 1, 1, 1]) (porterlaw42_FrameRises_h6 N) :=
  piece_ok (s := [(1, .v .str), (1, .box (.pair (.int .i64) (.pair (.int .i64) (.pair .str .unit)))), (5, .v .str), (2, .v .str), (0, .v (.int .i64)), (0, .v .bool), (0, .v (.int .i64)), (0, .v .bool)]) (m := 104) (g := porterlaw42_FrameRises_g6 N) [14, 16, 13, 12, 15, 1, 3, 9] (evN_sound hb N (porterlaw42_FrameRises_t6 N) porterlaw42_FrameRises_L porterlaw42_FrameRises_body TabOk.nil [0, 0, 1, 1, 1, 1, 1, 1, 1, 1] _ rfl) (fun x K => by kernel_rfl)

noncomputable def porterlaw42_FrameRises_p5 (N : Nat) (old : (List UInt8)) (f : (Int × (Int × ((List UInt8) × Unit)))) (s : (List UInt8)) (torn : (List UInt8)) (t : Int) (is_ : Bool) (was : Int) (has : Bool) (k0 : Bool → Option Bool) (k1 : Option Bool) : Option Bool :=
  porterlaw42_FrameRises_p6 N old f s torn t is_ was has
  (fun x91 => cond x91
    (k0 false)
    (k1))

noncomputable def porterlaw42_FrameRises_g5 (N : Nat) (x : denS [(1, .v .str), (1, .box (.pair (.int .i64) (.pair (.int .i64) (.pair .str .unit)))), (5, .v .str), (2, .v .str), (0, .v (.int .i64)), (0, .v .bool), (0, .v (.int .i64)), (0, .v .bool)]) (K : Ex → List A → Option Bool) : Option Bool :=
  porterlaw42_FrameRises_p5 N x.1 x.2.1 x.2.2.1 x.2.2.2.1 x.2.2.2.2.1 x.2.2.2.2.2.1 x.2.2.2.2.2.2.1 x.2.2.2.2.2.2.2.1 (fun a0 => (K .ret (mkS [(6, .v .bool)] 114 (a0, ())))) (K .normal (mkS [(3, .box (.pair (.int .i64) (.pair (.int .i64) (.pair .str .unit)))), (5, .v .str), (2, .v .str), (0, .v (.int .i64)), (1, .v (.int .i64))] 105 (x.2.1, x.2.2.1, x.2.2.2.1, x.2.2.2.2.1, x.2.2.2.2.2.2.1, ())))

noncomputable def porterlaw42_FrameRises_h5 (N : Nat) : Hd Bool := fun st K => (unS [(1, .v .str), (1, .box (.pair (.int .i64) (.pair (.int .i64) (.pair .str .unit)))), (5, .v .str), (2, .v .str), (0, .v (.int .i64)), (0, .v .bool), (0, .v (.int .i64)), (0, .v .bool)] 104 (restr [14, 16, 13, 12, 15, 1, 3, 9] 0 st)).bind fun x => porterlaw42_FrameRises_g5 N x K

noncomputable def porterlaw42_FrameRises_t5 (N : Nat) : Tab Bool := [([0, 0, 1, 1, 1, 1, 1, 1, 1, 1], porterlaw42_FrameRises_h6 N)]

theorem porterlaw42_FrameRises_ok5 {N : Nat} {c : Ctx} (hb : Base Go.Proofs.Try.prog (porterlaw42_FrameRises_E N) c) : CodeOk Go.Proofs.Try.prog c (nodeAt porterlaw42_FrameRises_body [0, 1, 1, 1, 1, 1, 1, 1, 1]) (porterlaw42_FrameRises_h5 N) :=
  piece_ok (s := [(1, .v .str), (1, .box (.pair (.int .i64) (.pair (.int .i64) (.pair .str .unit)))), (5, .v .str), (2, .v .str), (0, .v (.int .i64)), (0, .v .bool), (0, .v (.int .i64)), (0, .v .bool)]) (m := 104) (g := porterlaw42_FrameRises_g5 N) [14, 16, 13, 12, 15, 1, 3, 9] (evN_sound hb N (porterlaw42_FrameRises_t5 N) porterlaw42_FrameRises_L porterlaw42_FrameRises_body (TabOk.cons (porterlaw42_FrameRises_ok6 hb) TabOk.nil) [0, 1, 1, 1, 1, 1, 1, 1, 1] _ rfl) (fun x K => by kernel_rfl)

noncomputable def porterlaw42_FrameRises (N : Nat) (f : (Int × (Int × ((List UInt8) × Unit)))) (old : (List UInt8)) (keep : Int) : Option Bool :=
  porterlaw42_FrameRises_p1 N old keep f
  (fun x6 => some x6)
  ((frame_Put N f).bind fun y =>
    porterlaw42_FrameRises_p3 N old keep f y.1 y.2.1
    (fun x61 => some x61)
    (cond (decide (((0 : Int) ≤ (Int.tmod (Go.IntKind.wrap Go.IntKind.i64 keep) (129 : Int))) ∧ ((Int.tmod (Go.IntKind.wrap Go.IntKind.i64 keep) (129 : Int)) ≤ (((List.length y.1) : Nat) : Int))))
      (cond (decide (((0 : Int) ≤ (Int.tmod (Go.IntKind.wrap Go.IntKind.i64 keep) (129 : Int))) ∧ ((Int.tmod (Go.IntKind.wrap Go.IntKind.i64 keep) (129 : Int)) ≤ (((List.length old) : Nat) : Int))))
        (cond (decide (((List.length (Go.Lift.cut y.1 0 (Int.toNat (Int.tmod (Go.IntKind.wrap Go.IntKind.i64 keep) (129 : Int))))) + (List.length (Go.Lift.cut old (Int.toNat (Int.tmod (Go.IntKind.wrap Go.IntKind.i64 keep) (129 : Int))) (List.length old)))) ≤ 9223372036854775807))
          ((frame_Tail N ((Go.Lift.cut y.1 0 (Int.toNat (Int.tmod (Go.IntKind.wrap Go.IntKind.i64 keep) (129 : Int)))) ++ (Go.Lift.cut old (Int.toNat (Int.tmod (Go.IntKind.wrap Go.IntKind.i64 keep) (129 : Int))) (List.length old)))).bind fun y1 =>
            (frame_Tail N old).bind fun y2 =>
            porterlaw42_FrameRises_p5 N old f y.1 ((Go.Lift.cut y.1 0 (Int.toNat (Int.tmod (Go.IntKind.wrap Go.IntKind.i64 keep) (129 : Int)))) ++ (Go.Lift.cut old (Int.toNat (Int.tmod (Go.IntKind.wrap Go.IntKind.i64 keep) (129 : Int))) (List.length old))) y1.1 y1.2.1 y2.1 y2.2.1
            (fun x62 => some x62)
            (cond (decide (f.1 < y2.1))
              ((porterlaw42_works N).bind fun y3 =>
                some y3)
              (cond (decide (y1.1 ≤ f.1))
                (cond (y1.1 != f.1)
                  ((porterlaw42_works N).bind fun y4 =>
                    some y4)
                  (cond (y2.1 == f.1)
                    ((porterlaw42_works N).bind fun y5 =>
                      some y5)
                    (cond (((Go.Lift.cut y.1 0 (Int.toNat (Int.tmod (Go.IntKind.wrap Go.IntKind.i64 keep) (129 : Int)))) ++ (Go.Lift.cut old (Int.toNat (Int.tmod (Go.IntKind.wrap Go.IntKind.i64 keep) (129 : Int))) (List.length old))) == y.1)
                      ((porterlaw42_works N).bind fun y6 =>
                        some y6)
                      (some false))))
                (some false))))
          (none))
        (none))
      (none)))

noncomputable def porterlaw42_FrameRises_t (N : Nat) : Tab Bool := [([0, 1], porterlaw42_FrameRises_h1 N), ([0, 1, 1, 1], porterlaw42_FrameRises_h3 N), ([0, 1, 1, 1, 1, 1, 1, 1, 1], porterlaw42_FrameRises_h5 N)]

theorem porterlaw42_FrameRises_link (N : Nat) (x : denS [(0, .v (.pair (.int .i64) (.pair (.int .i64) (.pair .str .unit)))), (0, .v .str), (0, .v (.int .u8))]) : evFX (porterlaw42_FrameRises_E N) N (porterlaw42_FrameRises_t N) porterlaw42_FrameRises_L Go.Proofs.Try.f6 (mkS [(0, .v (.pair (.int .i64) (.pair (.int .i64) (.pair .str .unit)))), (0, .v .str), (0, .v (.int .u8))] 0 x) (kRes (.v .bool) 3) = porterlaw42_FrameRises N x.1 x.2.1 x.2.2.1 := by kernel_rfl

noncomputable def porterlaw42_FrameRises_res (N : Nat) : List A → Res := resOf [(0, .v (.pair (.int .i64) (.pair (.int .i64) (.pair .str .unit)))), (0, .v .str), (0, .v (.int .u8))] (fun x => porterlaw42_FrameRises N x.1 x.2.1 x.2.2.1) (oRes (.v .bool) 3)

theorem porterlaw42_FrameRises_ct (N : Nat) : Contract Go.Proofs.Try.prog noGlob 6 (porterlaw42_FrameRises_res N) :=
  Contract.of (E := porterlaw42_FrameRises_E N) (H := porterlaw42_FrameRises_t N) (L := porterlaw42_FrameRises_L) (N := N) (body := porterlaw42_FrameRises_body) (K := (kRes (.v .bool) 3)) (porterlaw42_FrameRises_Eok N) Go.Proofs.Try.func6 (by kernel_rfl) (by decide) (fun _ hb => (TabOk.cons (porterlaw42_FrameRises_ok1 hb) (TabOk.cons (porterlaw42_FrameRises_ok3 hb) (TabOk.cons (porterlaw42_FrameRises_ok5 hb) TabOk.nil)))) (fun x y h => by rw [porterlaw42_FrameRises_link]; exact h) (kRes_ok (s := (.v .bool)) (m := 3))

end Go.Proofs.YtoelheiaohiabaaLf
