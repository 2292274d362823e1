/- The functions of the seat, as plain functions, and what their calls do. Printed by a program of mine; checked here. -/
import Derived.Test.YtjhjhfmemipflaaLfW
import Derived.Test.YtjhjhfmemipflaaChecked
import Derived.KernelRfl
set_option linter.all false
set_option maxRecDepth 100000
namespace Go.Proofs.YtjhjhfmemipflaaLf
open Go Go.Lift

noncomputable def ty3 : TyI := ⟨(Go.TypeDesc.int Go.IntKind.i64), 1, 8, (.int .i64), (0 : Int), false⟩

theorem ty3_ok : TyOk Go.Proofs.Try.prog 3 ty3 := TyOk.of (by kernel_rfl) (by kernel_rfl) (by kernel_rfl) (by kernel_rfl)

noncomputable def ty4 : TyI := ⟨Go.TypeDesc.bool, 1, 1, .bool, false, false⟩

theorem ty4_ok : TyOk Go.Proofs.Try.prog 4 ty4 := TyOk.of (by kernel_rfl) (by kernel_rfl) (by kernel_rfl) (by kernel_rfl)

noncomputable def ty5 : TyI := ⟨(Go.TypeDesc.int Go.IntKind.u8), 1, 1, (.int .u8), (0 : Int), false⟩

theorem ty5_ok : TyOk Go.Proofs.Try.prog 5 ty5 := TyOk.of (by kernel_rfl) (by kernel_rfl) (by kernel_rfl) (by kernel_rfl)

noncomputable def ty9 : TyI := ⟨Go.TypeDesc.string, 1, 16, .str, ([] : List UInt8), false⟩

theorem ty9_ok : TyOk Go.Proofs.Try.prog 9 ty9 := TyOk.of (by kernel_rfl) (by kernel_rfl) (by kernel_rfl) (by kernel_rfl)

noncomputable def ty34 : TyI := ⟨(Go.TypeDesc.int Go.IntKind.u64), 1, 8, (.int .u64), (0 : Int), false⟩

theorem ty34_ok : TyOk Go.Proofs.Try.prog 34 ty34 := TyOk.of (by kernel_rfl) (by kernel_rfl) (by kernel_rfl) (by kernel_rfl)

noncomputable def ty38 : TyI := ⟨(Go.TypeDesc.int Go.IntKind.i64), 1, 8, (.int .i64), (0 : Int), false⟩

theorem ty38_ok : TyOk Go.Proofs.Try.prog 38 ty38 := TyOk.of (by kernel_rfl) (by kernel_rfl) (by kernel_rfl) (by kernel_rfl)

noncomputable def ty63 : TyI := ⟨(Go.TypeDesc.slice 5), 1, 24, (.sl (.int .u8)), ([] : List Int), false⟩

theorem ty63_ok : TyOk Go.Proofs.Try.prog 63 ty63 := TyOk.of (by kernel_rfl) (by kernel_rfl) (by kernel_rfl) (by kernel_rfl)

noncomputable def ty65 : TyI := ⟨(Go.TypeDesc.int Go.IntKind.u64), 1, 8, (.int .u64), (0 : Int), false⟩

theorem ty65_ok : TyOk Go.Proofs.Try.prog 65 ty65 := TyOk.of (by kernel_rfl) (by kernel_rfl) (by kernel_rfl) (by kernel_rfl)

noncomputable def tys : List (Nat × TyI) := [(3, ty3), (4, ty4), (5, ty5), (9, ty9), (34, ty34), (38, ty38), (63, ty63), (65, ty65)]

theorem tys_ok : TysOk Go.Proofs.Try.prog tys := TysOk.cons ty3_ok (TysOk.cons ty4_ok (TysOk.cons ty5_ok (TysOk.cons ty9_ok (TysOk.cons ty34_ok (TysOk.cons ty38_ok (TysOk.cons ty63_ok (TysOk.cons ty65_ok (TysOk.nil))))))))

theorem mixed : Go.Proofs.Try.prog.follows .mixedOrders = true := by kernel_rfl

abbrev varint_Size_R : Type := Int

noncomputable def varint_Size_body : Code := (Go.Proofs.Try.f31.body).getD .skip

noncomputable def varint_Size_L : List (List Nat × List Nat) := [([0], [0]), ([0, 1], [0, 3]), ([0, 0, 1, 1], [0, 3]), ([0, 1, 0, 1, 1], [0, 3]), ([0, 0, 0, 0, 1, 0, 1, 1], [7, 3, 0]), ([1, 0, 0, 0, 1, 0, 1, 1], [3, 0]), ([1, 1, 0, 0, 0, 1, 0, 1, 1], [3]), ([0, 0, 1, 0, 0, 1, 0, 1, 1], [0, 3]), ([0, 1, 0, 0, 1, 0, 1, 1], [0, 3]), ([1, 1, 0, 0, 1, 0, 1, 1], [0, 3]), ([1, 0, 1, 1], [3]), ([0, 1, 1, 1], [2]), ([1, 1, 1, 1], [2])]

noncomputable def varint_Size_E (N : Nat) : Env := mkEnv tys noGlob [] [] [] [] false

theorem varint_Size_Eok (N : Nat) : EnvOk Go.Proofs.Try.prog (varint_Size_E N) := mkEnv_ok mixed tys_ok (FnsOk.nil)

noncomputable def varint_Size_s1 (N : Nat) (n : Int) (size : Int) (rec : Int → Int → Option Int) (k0 : Int → Option Int) : Option Int :=
  cond (n != (0 : Int))
  (rec (Go.Lift.shrI Go.IntKind.u64 n (7 : Int)) (Go.IntKind.wrap Go.IntKind.i64 (size + (1 : Int))))
  (k0 size)

noncomputable def varint_Size_p1 (N : Nat) (n : Int) (size : Int) (k0 : Int → Option Int) : Option Int :=
  iter (fun (v : (Int × Int)) r => varint_Size_s1 N v.1 v.2 (fun n size => (r (n, size))) k0) N (n, size)

noncomputable def varint_Size_g1 (N : Nat) (i : Unit) (v : (Int × Int)) (r : (Int × Int) → Option Int) (K : Ex → List A → Option Int) : Option Int :=
  varint_Size_s1 N v.1 v.2 (fun n size => (r (n, size))) (fun a0 => (K (.exit 0) (mkS [(3, .v (.int .i64))] 9 (a0, ()))))

noncomputable def varint_Size_h1 (N : Nat) : Hd Int := fun st K => (unS [(0, .v (.int .u64)), (2, .v (.int .i64))] 9 (restr [0, 3] 0 st)).bind fun x => iter (fun v r => varint_Size_g1 N ((fun x => ()) x) v r K) N ((fun x => (x.1, x.2.1)) x)

noncomputable def varint_Size_t1 (N : Nat) : Tab Int := []

theorem varint_Size_ok1 {N : Nat} {c : Ctx} (hb : Base Go.Proofs.Try.prog (varint_Size_E N) c) : CodeOk Go.Proofs.Try.prog c (nodeAt varint_Size_body [0, 1, 0, 1, 1]) (varint_Size_h1 N) :=
  loop_ok (s := [(0, .v (.int .u64)), (2, .v (.int .i64))]) (m := 9) (varint_Size_g1 N) [0, 3] N (fun x => ()) (fun x => (x.1, x.2.1)) (fun i v => (v.1, v.2, ())) (fun _ => rfl) (evN_sound hb N (varint_Size_t1 N) varint_Size_L varint_Size_body TabOk.nil [0, 0, 1, 0, 1, 1] _ rfl) (fun i v r K => by kernel_rfl)

noncomputable def varint_Size (N : Nat) (n : Int) : Option Int :=
  varint_Size_p1 N (Go.Lift.shrI Go.IntKind.u64 n (7 : Int)) (1 : Int)
  (fun size => some size)

noncomputable def varint_Size_t (N : Nat) : Tab Int := [([0, 1, 0, 1, 1], varint_Size_h1 N)]

theorem varint_Size_link (N : Nat) (x : denS [(0, .v (.int .u64))]) : evFX (varint_Size_E N) N (varint_Size_t N) varint_Size_L Go.Proofs.Try.f31 (mkS [(0, .v (.int .u64))] 0 x) (kRes (.v (.int .i64)) 1) = varint_Size N x.1 := by kernel_rfl

noncomputable def varint_Size_res (N : Nat) : List A → Res := resOf [(0, .v (.int .u64))] (fun x => varint_Size N x.1) (oRes (.v (.int .i64)) 1)

theorem varint_Size_ct (N : Nat) : Contract Go.Proofs.Try.prog noGlob 31 (varint_Size_res N) :=
  Contract.of (E := varint_Size_E N) (H := varint_Size_t N) (L := varint_Size_L) (N := N) (body := varint_Size_body) (K := (kRes (.v (.int .i64)) 1)) (varint_Size_Eok N) Go.Proofs.Try.func31 (by kernel_rfl) (by decide) (fun _ hb => (TabOk.cons (varint_Size_ok1 hb) TabOk.nil)) (fun x y h => by rw [varint_Size_link]; exact h) (kRes_ok (s := (.v (.int .i64))) (m := 1))

abbrev varint_Put_R : Type := (List UInt8)

noncomputable def varint_Put_body : Code := (Go.Proofs.Try.f29.body).getD .skip

noncomputable def varint_Put_L : List (List Nat × List Nat) := [([0], [0]), ([0, 1], [3, 0]), ([0, 1, 1], [3, 4, 0]), ([0, 0, 1, 1, 1], [11, 10, 4, 0, 3]), ([0, 1, 0, 1, 1, 1], [11, 10, 4, 0, 3]), ([0, 0, 0, 1, 0, 1, 1, 1], [12, 11, 4, 0, 10, 3]), ([0, 1, 0, 0, 1, 0, 1, 1, 1], [11, 4, 0, 10, 3]), ([1, 0, 1, 0, 0, 1, 0, 1, 1, 1], [4, 3]), ([0, 0, 0, 1, 1, 0, 0, 1, 0, 1, 1, 1], [4, 5, 0, 11, 10, 3]), ([0, 1, 0, 0, 1, 1, 0, 0, 1, 0, 1, 1, 1], [0, 11, 10, 4, 3]), ([1, 1, 0, 0, 1, 1, 0, 0, 1, 0, 1, 1, 1], [11, 10, 4, 0, 3]), ([0, 1, 1, 0, 0, 1, 0, 1, 1, 1], [11, 10, 4, 0, 3]), ([1, 1, 1, 0, 0, 1, 0, 1, 1, 1], [11, 10, 4, 0, 3]), ([1, 0, 1, 1, 1], [4, 3]), ([0, 1, 1, 1, 1], [4]), ([0, 1, 1, 1, 1, 1], [2]), ([1, 1, 1, 1, 1, 1], [2])]

noncomputable def varint_Put_E (N : Nat) : Env := mkEnv tys noGlob [(31, varint_Size_res N)] [(4, (.int .u8))] [] [] false

theorem varint_Put_Eok (N : Nat) : EnvOk Go.Proofs.Try.prog (varint_Put_E N) := mkEnv_ok mixed tys_ok (FnsOk.cons (varint_Size_ct N) (FnsOk.nil))

noncomputable def varint_Put_s1 (N : Nat) (size : Int) (x10 : Int) (n : Int) (out : (List Int)) (x11 : Int) (rec : Int → (List Int) → Int → Option (List UInt8)) (k0 : (List Int) → Option (List UInt8)) : Option (List UInt8) :=
  cond (decide (x11 < x10))
  (cond (Go.Lift.inR x11 (List.length out))
    (cond (decide ((Int.toNat x11) < (List.length out)))
      (rec (Go.Lift.shrI Go.IntKind.u64 n (7 : Int)) (List.set out (Int.toNat x11) (Go.Lift.bitsOp Go.BinOp.or Go.IntKind.u8 (Go.IntKind.wrap Go.IntKind.u8 n) (128 : Int))) (Go.IntKind.wrap Go.IntKind.i64 (x11 + (1 : Int))))
      (none))
    (none))
  (k0 out)

noncomputable def varint_Put_p1 (N : Nat) (n : Int) (size : Int) (out : (List Int)) (x10 : Int) (x11 : Int) (k0 : (List Int) → Option (List UInt8)) : Option (List UInt8) :=
  iter (fun (v : (Int × (List Int) × Int)) r => varint_Put_s1 N size x10 v.1 v.2.1 v.2.2 (fun n out x11 => (r (n, out, x11))) k0) N (n, out, x11)

noncomputable def varint_Put_g1 (N : Nat) (i : (Int × Int)) (v : (Int × (List Int) × Int)) (r : (Int × (List Int) × Int) → Option (List UInt8)) (K : Ex → List A → Option (List UInt8)) : Option (List UInt8) :=
  varint_Put_s1 N i.1 i.2 v.1 v.2.1 v.2.2 (fun n out x11 => (r (n, out, x11))) (fun a1 => (K (.exit 0) (mkS [(3, .v (.int .i64)), (0, .row (.int .u8))] 27 (i.1, a1, ()))))

noncomputable def varint_Put_h1 (N : Nat) : Hd (List UInt8) := fun st K => (unS [(0, .v (.int .u64)), (2, .v (.int .i64)), (0, .row (.int .u8)), (5, .v (.int .i64)), (0, .v (.int .i64))] 20 (restr [11, 10, 4, 0, 3] 0 st)).bind fun x => iter (fun v r => varint_Put_g1 N ((fun x => (x.2.1, x.2.2.2.1)) x) v r K) N ((fun x => (x.1, x.2.2.1, x.2.2.2.2.1)) x)

noncomputable def varint_Put_t1 (N : Nat) : Tab (List UInt8) := []

theorem varint_Put_ok1 {N : Nat} {c : Ctx} (hb : Base Go.Proofs.Try.prog (varint_Put_E N) c) : CodeOk Go.Proofs.Try.prog c (nodeAt varint_Put_body [0, 1, 0, 1, 1, 1]) (varint_Put_h1 N) :=
  loop_ok (s := [(0, .v (.int .u64)), (2, .v (.int .i64)), (0, .row (.int .u8)), (5, .v (.int .i64)), (0, .v (.int .i64))]) (m := 20) (varint_Put_g1 N) [11, 10, 4, 0, 3] N (fun x => (x.2.1, x.2.2.2.1)) (fun x => (x.1, x.2.2.1, x.2.2.2.2.1)) (fun i v => (v.1, i.1, v.2.1, i.2, v.2.2, ())) (fun _ => rfl) (evN_sound hb N (varint_Put_t1 N) varint_Put_L varint_Put_body TabOk.nil [0, 0, 1, 0, 1, 1, 1] _ rfl) (fun i v r K => by kernel_rfl)

noncomputable def varint_Put (N : Nat) (n : Int) : Option (List UInt8) :=
  (varint_Size N n).bind fun y =>
  cond (decide (((0 : Int) ≤ y) ∧ ((y ≤ y) ∧ (((y * (1 : Int)) ≤ (281474976710656 : Int)) ∧ (y ≤ (9223372036854775807 : Int))))))
  (varint_Put_p1 N n y (List.replicate (Int.toNat y) (0 : Int)) y (0 : Int)
    (fun out => cond (Go.Lift.inR (Go.IntKind.wrap Go.IntKind.i64 (y - (1 : Int))) (List.length out))
      (cond (decide ((Int.toNat (Go.IntKind.wrap Go.IntKind.i64 (y - (1 : Int)))) < (List.length out)))
        (cond (Go.Lift.inR (Go.IntKind.wrap Go.IntKind.i64 (y - (1 : Int))) (List.length out))
          (cond (decide ((Int.toNat (Go.IntKind.wrap Go.IntKind.i64 (y - (1 : Int)))) < (List.length out)))
            (some (Go.Lift.toStr (List.set out (Int.toNat (Go.IntKind.wrap Go.IntKind.i64 (y - (1 : Int)))) (Go.Lift.bitsOp Go.BinOp.andNot Go.IntKind.u8 (List.getD out (Int.toNat (Go.IntKind.wrap Go.IntKind.i64 (y - (1 : Int)))) (0 : Int)) (128 : Int)))))
            (none))
          (none))
        (none))
      (none)))
  (none)

noncomputable def varint_Put_t (N : Nat) : Tab (List UInt8) := [([0, 1, 0, 1, 1, 1], varint_Put_h1 N)]

theorem varint_Put_link (N : Nat) (x : denS [(0, .v (.int .u64))]) : evFX (varint_Put_E N) N (varint_Put_t N) varint_Put_L Go.Proofs.Try.f29 (mkS [(0, .v (.int .u64))] 0 x) (kRes (.v .str) 1) = varint_Put N x.1 := by kernel_rfl

noncomputable def varint_Put_res (N : Nat) : List A → Res := resOf [(0, .v (.int .u64))] (fun x => varint_Put N x.1) (oRes (.v .str) 1)

theorem varint_Put_ct (N : Nat) : Contract Go.Proofs.Try.prog noGlob 29 (varint_Put_res N) :=
  Contract.of (E := varint_Put_E N) (H := varint_Put_t N) (L := varint_Put_L) (N := N) (body := varint_Put_body) (K := (kRes (.v .str) 1)) (varint_Put_Eok N) Go.Proofs.Try.func29 (by kernel_rfl) (by decide) (fun _ hb => (TabOk.cons (varint_Put_ok1 hb) TabOk.nil)) (fun x y h => by rw [varint_Put_link]; exact h) (kRes_ok (s := (.v .str)) (m := 1))

abbrev porterref02_Byte_R : Type := (List UInt8)

noncomputable def porterref02_Byte_body : Code := (Go.Proofs.Try.f44.body).getD .skip

noncomputable def porterref02_Byte_L : List (List Nat × List Nat) := [([0], [0]), ([0, 1], [3]), ([0, 1, 1], [2]), ([1, 1, 1], [2])]

noncomputable def porterref02_Byte_E (N : Nat) : Env := mkEnv tys noGlob [] [] [] [] false

theorem porterref02_Byte_Eok (N : Nat) : EnvOk Go.Proofs.Try.prog (porterref02_Byte_E N) := mkEnv_ok mixed tys_ok (FnsOk.nil)

noncomputable def porterref02_Byte (N : Nat) (n : Int) : Option (List UInt8) :=
  some (Go.Lift.toStr ([(Go.IntKind.wrap Go.IntKind.u8 n)] : List Int))

noncomputable def porterref02_Byte_t (N : Nat) : Tab (List UInt8) := []

theorem porterref02_Byte_link (N : Nat) (x : denS [(0, .v (.int .i64))]) : evFX (porterref02_Byte_E N) N (porterref02_Byte_t N) porterref02_Byte_L Go.Proofs.Try.f44 (mkS [(0, .v (.int .i64))] 0 x) (kRes (.v .str) 1) = porterref02_Byte N x.1 := by kernel_rfl

noncomputable def porterref02_Byte_res (N : Nat) : List A → Res := resOf [(0, .v (.int .i64))] (fun x => porterref02_Byte N x.1) (oRes (.v .str) 1)

theorem porterref02_Byte_ct (N : Nat) : Contract Go.Proofs.Try.prog noGlob 44 (porterref02_Byte_res N) :=
  Contract.of (E := porterref02_Byte_E N) (H := porterref02_Byte_t N) (L := porterref02_Byte_L) (N := N) (body := porterref02_Byte_body) (K := (kRes (.v .str) 1)) (porterref02_Byte_Eok N) Go.Proofs.Try.func44 (by kernel_rfl) (by decide) (fun _ hb => TabOk.nil) (fun x y h => by rw [porterref02_Byte_link]; exact h) (kRes_ok (s := (.v .str)) (m := 1))

abbrev porterref07_Put_R : Type := (List UInt8)

noncomputable def porterref07_Put_body : Code := (Go.Proofs.Try.f30.body).getD .skip

noncomputable def porterref07_Put_L : List (List Nat × List Nat) := [([0], [0]), ([0, 0, 1], [4, 0]), ([1, 0, 1], [0]), ([0, 0, 1, 0, 1], [2]), ([1, 0, 1, 0, 1], [2]), ([0, 1, 1], [2]), ([1, 1, 1], [2])]

noncomputable def porterref07_Put_E (N : Nat) (self : Int → Option (List UInt8)) : Env := mkEnv tys noGlob [(44, porterref02_Byte_res N), (30, resOf [(0, .v (.int .u64))] (fun x => self x.1) (oRes (.v .str) 1))] [] [] [] false

theorem porterref07_Put_Eok (N : Nat) (self : Int → Option (List UInt8)) (hself : Contract Go.Proofs.Try.prog noGlob 30 (resOf [(0, .v (.int .u64))] (fun x => self x.1) (oRes (.v .str) 1))) : EnvOk Go.Proofs.Try.prog (porterref07_Put_E N self) := mkEnv_ok mixed tys_ok (FnsOk.cons (porterref02_Byte_ct N) (FnsOk.cons (hself) (FnsOk.nil)))

noncomputable def porterref07_Put_F (N : Nat) (self : Int → Option (List UInt8)) (n : Int) : Option (List UInt8) :=
  cond (decide (n < (128 : Int)))
  (some (Go.Lift.toStr ([(Go.IntKind.wrap Go.IntKind.u8 (Go.IntKind.wrap Go.IntKind.i64 n))] : List Int)))
  ((self (Go.IntKind.wrap Go.IntKind.u64 (Int.tdiv n (128 : Int)))).bind fun y =>
    cond (decide (((List.length (Go.Lift.toStr ([(Go.IntKind.wrap Go.IntKind.u8 (Go.IntKind.wrap Go.IntKind.i64 ((Go.IntKind.wrap Go.IntKind.i64 (Int.tmod n (128 : Int))) + (128 : Int))))] : List Int))) + (List.length y)) ≤ 9223372036854775807))
    (some ((Go.Lift.toStr ([(Go.IntKind.wrap Go.IntKind.u8 (Go.IntKind.wrap Go.IntKind.i64 ((Go.IntKind.wrap Go.IntKind.i64 (Int.tmod n (128 : Int))) + (128 : Int))))] : List Int)) ++ y))
    (none))

noncomputable def porterref07_Put_t (N : Nat) (self : Int → Option (List UInt8)) : Tab (List UInt8) := []

theorem porterref07_Put_link (N : Nat) (self : Int → Option (List UInt8)) (x : denS [(0, .v (.int .u64))]) : evFX (porterref07_Put_E N self) N (porterref07_Put_t N self) porterref07_Put_L Go.Proofs.Try.f30 (mkS [(0, .v (.int .u64))] 0 x) (kRes (.v .str) 1) = porterref07_Put_F N self x.1 := by kernel_rfl

noncomputable def porterref07_Put : Nat → Int → Option (List UInt8)
  | 0 => fun _ => none
  | N + 1 => porterref07_Put_F (N + 1) (porterref07_Put N)

noncomputable def porterref07_Put_res (N : Nat) : List A → Res := resOf [(0, .v (.int .u64))] (fun x => porterref07_Put N x.1) (oRes (.v .str) 1)

theorem porterref07_Put_ct : ∀ N : Nat, Contract Go.Proofs.Try.prog noGlob 30 (porterref07_Put_res N)
  | 0 => Contract.zero Go.Proofs.Try.func30 (body := porterref07_Put_body) (by kernel_rfl) (by decide) (fun _ => rfl)
  | N + 1 => Contract.of (E := porterref07_Put_E (N + 1) (porterref07_Put N)) (H := porterref07_Put_t (N + 1) (porterref07_Put N)) (L := porterref07_Put_L) (N := (N + 1)) (body := porterref07_Put_body) (K := (kRes (.v .str) 1)) (porterref07_Put_Eok (N + 1) (porterref07_Put N) (porterref07_Put_ct N)) Go.Proofs.Try.func30 (by kernel_rfl) (by decide) (fun _ hb => TabOk.nil) (fun x y h => by rw [porterref07_Put_link]; exact h) (kRes_ok (s := (.v .str)) (m := 1))

abbrev varint_whole_R : Type := (Int × Int × Int × Unit)

noncomputable def varint_whole_body : Code := (Go.Proofs.Try.f46.body).getD .skip

noncomputable def varint_whole_L : List (List Nat × List Nat) := [([0], [1, 2, 0]), ([0, 0, 1], [22, 0, 1]), ([1, 0, 1], [0, 1]), ([0, 0, 1, 0, 1], [6, 7, 8]), ([1, 0, 1, 0, 1], [6, 7, 8]), ([0, 1, 1], [6, 7, 8]), ([1, 1, 1], [6, 7, 8])]

noncomputable def varint_whole_E (N : Nat) : Env := mkEnv tys noGlob [] [] [] [] false

theorem varint_whole_Eok (N : Nat) : EnvOk Go.Proofs.Try.prog (varint_whole_E N) := mkEnv_ok mixed tys_ok (FnsOk.nil)

noncomputable def varint_whole_p2 (N : Nat) (n : Int) (used : Int) (last : Int) (k0 : Bool → Option (Int × Int × Int × Unit)) : Option (Int × Int × Int × Unit) :=
  cond (decide ((1 : Int) < used))
  (cond (last == (0 : Int))
    (k0 true)
    (cond (used == (10 : Int))
      (k0 (decide ((1 : Int) < last)))
      (k0 false)))
  (cond (used == (10 : Int))
    (k0 (decide ((1 : Int) < last)))
    (k0 false))

noncomputable def varint_whole_g2 (N : Nat) (x : denS [(0, .v (.int .u64)), (0, .v (.int .i64)), (0, .v (.int .u8))]) (K : Ex → List A → Option (Int × Int × Int × Unit)) : Option (Int × Int × Int × Unit) :=
  varint_whole_p2 N x.1 x.2.1 x.2.2.1 (fun a2 => (K .normal (mkS [(0, .v (.int .u64)), (0, .v (.int .i64)), (20, .v .bool)] 2 (x.1, x.2.1, a2, ()))))

noncomputable def varint_whole_h2 (N : Nat) : Hd (Int × Int × Int × Unit) := fun st K => (unS [(0, .v (.int .u64)), (0, .v (.int .i64)), (0, .v (.int .u8))] 22 (restr [1, 2, 0] 0 st)).bind fun x => varint_whole_g2 N x K

noncomputable def varint_whole_t2 (N : Nat) : Tab (Int × Int × Int × Unit) := []

theorem varint_whole_ok2 {N : Nat} {c : Ctx} (hb : Base Go.Proofs.Try.prog (varint_whole_E N) c) : CodeOk Go.Proofs.Try.prog c (nodeAt varint_whole_body [0, 0, 1]) (varint_whole_h2 N) :=
  piece_ok (s := [(0, .v (.int .u64)), (0, .v (.int .i64)), (0, .v (.int .u8))]) (m := 22) (g := varint_whole_g2 N) [1, 2, 0] (evN_sound hb N (varint_whole_t2 N) varint_whole_L varint_whole_body TabOk.nil [0, 0, 1] _ rfl) (fun x K => by kernel_rfl)

noncomputable def varint_whole_p1 (N : Nat) (n : Int) (used : Int) (last : Int) (k0 : Int → Int → Int → Option (Int × Int × Int × Unit)) (k1 : Option (Int × Int × Int × Unit)) : Option (Int × Int × Int × Unit) :=
  varint_whole_p2 N n used last
  (fun x22 => cond x22
    (k0 (0 : Int) (0 : Int) (2 : Int))
    (k1))

noncomputable def varint_whole_g1 (N : Nat) (x : denS [(0, .v (.int .u64)), (0, .v (.int .i64)), (0, .v (.int .u8))]) (K : Ex → List A → Option (Int × Int × Int × Unit)) : Option (Int × Int × Int × Unit) :=
  varint_whole_p1 N x.1 x.2.1 x.2.2.1 (fun a0 a1 a2 => (K .ret (mkS [(6, .v (.int .u64)), (0, .v (.int .i64)), (0, .v (.int .i64))] 16 (a0, a1, a2, ())))) (K .normal (mkS [(0, .v (.int .u64)), (0, .v (.int .i64))] 23 (x.1, x.2.1, ())))

noncomputable def varint_whole_h1 (N : Nat) : Hd (Int × Int × Int × Unit) := fun st K => (unS [(0, .v (.int .u64)), (0, .v (.int .i64)), (0, .v (.int .u8))] 22 (restr [1, 2, 0] 0 st)).bind fun x => varint_whole_g1 N x K

noncomputable def varint_whole_t1 (N : Nat) : Tab (Int × Int × Int × Unit) := [([0, 0, 1], varint_whole_h2 N)]

theorem varint_whole_ok1 {N : Nat} {c : Ctx} (hb : Base Go.Proofs.Try.prog (varint_whole_E N) c) : CodeOk Go.Proofs.Try.prog c (nodeAt varint_whole_body [0, 1]) (varint_whole_h1 N) :=
  piece_ok (s := [(0, .v (.int .u64)), (0, .v (.int .i64)), (0, .v (.int .u8))]) (m := 22) (g := varint_whole_g1 N) [1, 2, 0] (evN_sound hb N (varint_whole_t1 N) varint_whole_L varint_whole_body (TabOk.cons (varint_whole_ok2 hb) TabOk.nil) [0, 1] _ rfl) (fun x K => by kernel_rfl)

noncomputable def varint_whole (N : Nat) (n : Int) (used : Int) (last : Int) : Option (Int × Int × Int × Unit) :=
  varint_whole_p1 N n used last
  (fun x6 x7 x8 => some (x6, (x7, (x8, ()))))
  (some (n, (used, ((0 : Int), ()))))

noncomputable def varint_whole_t (N : Nat) : Tab (Int × Int × Int × Unit) := [([0, 1], varint_whole_h1 N)]

theorem varint_whole_link (N : Nat) (x : denS [(0, .v (.int .u64)), (0, .v (.int .i64)), (0, .v (.int .u8))]) : evFX (varint_whole_E N) N (varint_whole_t N) varint_whole_L Go.Proofs.Try.f46 (mkS [(0, .v (.int .u64)), (0, .v (.int .i64)), (0, .v (.int .u8))] 0 x) (kRes (.tup [(.int .u64), (.int .i64), (.int .i64)]) 3) = varint_whole N x.1 x.2.1 x.2.2.1 := by kernel_rfl

noncomputable def varint_whole_res (N : Nat) : List A → Res := resOf [(0, .v (.int .u64)), (0, .v (.int .i64)), (0, .v (.int .u8))] (fun x => varint_whole N x.1 x.2.1 x.2.2.1) (oRes (.tup [(.int .u64), (.int .i64), (.int .i64)]) 3)

theorem varint_whole_ct (N : Nat) : Contract Go.Proofs.Try.prog noGlob 46 (varint_whole_res N) :=
  Contract.of (E := varint_whole_E N) (H := varint_whole_t N) (L := varint_whole_L) (N := N) (body := varint_whole_body) (K := (kRes (.tup [(.int .u64), (.int .i64), (.int .i64)]) 3)) (varint_whole_Eok N) Go.Proofs.Try.func46 (by kernel_rfl) (by decide) (fun _ hb => (TabOk.cons (varint_whole_ok1 hb) TabOk.nil)) (fun x y h => by rw [varint_whole_link]; exact h) (kRes_ok (s := (.tup [(.int .u64), (.int .i64), (.int .i64)])) (m := 3))

abbrev varint_Take_R : Type := (Int × Int × Int × Unit)

noncomputable def varint_Take_body : Code := (Go.Proofs.Try.f33.body).getD .skip

noncomputable def varint_Take_L : List (List Nat × List Nat) := [([0], [0, 2]), ([0, 0, 1], [9, 8, 2, 0]), ([0, 1, 0, 1], [9, 8, 2, 0]), ([0, 0, 0, 1, 0, 1], [10, 9, 2, 0, 8]), ([0, 1, 0, 0, 1, 0, 1], [9, 2, 0, 8]), ([1, 0, 1, 0, 0, 1, 0, 1], [0]), ([0, 0, 0, 1, 1, 0, 0, 1, 0, 1], [2, 0, 5, 9, 8]), ([0, 1, 0, 0, 1, 1, 0, 0, 1, 0, 1], [0, 5, 2, 9, 8]), ([0, 1, 1, 0, 0, 1, 1, 0, 0, 1, 0, 1], [25, 2, 5, 0, 9, 8]), ([1, 1, 1, 0, 0, 1, 1, 0, 0, 1, 0, 1], [9, 8, 2, 0]), ([0, 0, 1, 1, 1, 0, 0, 1, 1, 0, 0, 1, 0, 1], [2, 3, 4]), ([1, 0, 1, 1, 1, 0, 0, 1, 1, 0, 0, 1, 0, 1], [2, 3, 4]), ([0, 1, 1, 0, 0, 1, 0, 1], [9, 8, 2, 0]), ([1, 1, 1, 0, 0, 1, 0, 1], [9, 8, 2, 0]), ([1, 0, 1], [0]), ([0, 0, 1, 1], [39]), ([1, 0, 1, 1], []), ([0, 0, 1, 0, 1, 1], [2, 3, 4]), ([1, 0, 1, 0, 1, 1], [2, 3, 4]), ([0, 1, 1, 1], [2, 3, 4]), ([1, 1, 1, 1], [2, 3, 4])]

noncomputable def varint_Take_E (N : Nat) : Env := mkEnv tys noGlob [(46, varint_whole_res N)] [] [] [] false

theorem varint_Take_Eok (N : Nat) : EnvOk Go.Proofs.Try.prog (varint_Take_E N) := mkEnv_ok mixed tys_ok (FnsOk.cons (varint_whole_ct N) (FnsOk.nil))

noncomputable def varint_Take_s1 (N : Nat) (s : (List UInt8)) (x8 : Int) (n : Int) (x9 : Int) (rec : Int → Int → Option (Int × Int × Int × Unit)) (k0 : Int → Int → Int → Option (Int × Int × Int × Unit)) (k1 : Option (Int × Int × Int × Unit)) : Option (Int × Int × Int × Unit) :=
  cond (decide (x9 < x8))
  (cond (Go.Lift.inR x9 (List.length s))
    (cond (decide ((0 : Int) ≤ (Go.IntKind.wrap Go.IntKind.i64 ((7 : Int) * x9))))
      (cond (Go.Lift.inR x9 (List.length s))
        (cond (decide ((((UInt8.toNat (List.getD s (Int.toNat x9) (0 : UInt8))) : Nat) : Int) < (128 : Int)))
          (cond (Go.Lift.inR x9 (List.length s))
            ((varint_whole N (Go.Lift.bitsOp Go.BinOp.or Go.IntKind.u64 n (Go.Lift.shlI Go.IntKind.u64 (Go.IntKind.wrap Go.IntKind.u64 (Go.Lift.bitsOp Go.BinOp.andNot Go.IntKind.u8 (((UInt8.toNat (List.getD s (Int.toNat x9) (0 : UInt8))) : Nat) : Int) (128 : Int))) (Go.IntKind.wrap Go.IntKind.i64 ((7 : Int) * x9)))) (Go.IntKind.wrap Go.IntKind.i64 (x9 + (1 : Int))) (((UInt8.toNat (List.getD s (Int.toNat x9) (0 : UInt8))) : Nat) : Int)).bind fun y =>
              k0 y.1 y.2.1 y.2.2.1)
            (none))
          (rec (Go.Lift.bitsOp Go.BinOp.or Go.IntKind.u64 n (Go.Lift.shlI Go.IntKind.u64 (Go.IntKind.wrap Go.IntKind.u64 (Go.Lift.bitsOp Go.BinOp.andNot Go.IntKind.u8 (((UInt8.toNat (List.getD s (Int.toNat x9) (0 : UInt8))) : Nat) : Int) (128 : Int))) (Go.IntKind.wrap Go.IntKind.i64 ((7 : Int) * x9)))) (Go.IntKind.wrap Go.IntKind.i64 (x9 + (1 : Int)))))
        (none))
      (none))
    (none))
  (k1)

noncomputable def varint_Take_p1 (N : Nat) (s : (List UInt8)) (n : Int) (x8 : Int) (x9 : Int) (k0 : Int → Int → Int → Option (Int × Int × Int × Unit)) (k1 : Option (Int × Int × Int × Unit)) : Option (Int × Int × Int × Unit) :=
  iter (fun (v : (Int × Int)) r => varint_Take_s1 N s x8 v.1 v.2 (fun n x9 => (r (n, x9))) k0 k1) N (n, x9)

noncomputable def varint_Take_g1 (N : Nat) (i : ((List UInt8) × Int)) (v : (Int × Int)) (r : (Int × Int) → Option (Int × Int × Int × Unit)) (K : Ex → List A → Option (Int × Int × Int × Unit)) : Option (Int × Int × Int × Unit) :=
  varint_Take_s1 N i.1 i.2 v.1 v.2 (fun n x9 => (r (n, x9))) (fun a0 a1 a2 => (K .ret (mkS [(2, .v (.int .u64)), (0, .v (.int .i64)), (0, .v (.int .i64))] 35 (a0, a1, a2, ())))) (K (.exit 0) (mkS [(0, .v .str)] 39 (i.1, ())))

noncomputable def varint_Take_h1 (N : Nat) : Hd (Int × Int × Int × Unit) := fun st K => (unS [(0, .v .str), (1, .v (.int .u64)), (5, .v (.int .i64)), (0, .v (.int .i64))] 30 (restr [9, 8, 2, 0] 0 st)).bind fun x => iter (fun v r => varint_Take_g1 N ((fun x => (x.1, x.2.2.1)) x) v r K) N ((fun x => (x.2.1, x.2.2.2.1)) x)

noncomputable def varint_Take_t1 (N : Nat) : Tab (Int × Int × Int × Unit) := []

theorem varint_Take_ok1 {N : Nat} {c : Ctx} (hb : Base Go.Proofs.Try.prog (varint_Take_E N) c) : CodeOk Go.Proofs.Try.prog c (nodeAt varint_Take_body [0, 1, 0, 1]) (varint_Take_h1 N) :=
  loop_ok (s := [(0, .v .str), (1, .v (.int .u64)), (5, .v (.int .i64)), (0, .v (.int .i64))]) (m := 30) (varint_Take_g1 N) [9, 8, 2, 0] N (fun x => (x.1, x.2.2.1)) (fun x => (x.2.1, x.2.2.2.1)) (fun i v => (i.1, v.1, i.2, v.2, ())) (fun _ => rfl) (evN_sound hb N (varint_Take_t1 N) varint_Take_L varint_Take_body TabOk.nil [0, 0, 1, 0, 1] _ rfl) (fun i v r K => by kernel_rfl)

noncomputable def varint_Take (N : Nat) (s : (List UInt8)) : Option (Int × Int × Int × Unit) :=
  varint_Take_p1 N s (0 : Int) (if ((10 : Int) < (((List.length s) : Nat) : Int)) then (10 : Int) else (((List.length s) : Nat) : Int)) (0 : Int)
  (fun n used e => some (n, (used, (e, ()))))
  (cond (decide ((10 : Int) ≤ (((List.length s) : Nat) : Int)))
    (some ((0 : Int), ((0 : Int), ((2 : Int), ()))))
    (some ((0 : Int), ((0 : Int), ((1 : Int), ())))))

noncomputable def varint_Take_t (N : Nat) : Tab (Int × Int × Int × Unit) := [([0, 1, 0, 1], varint_Take_h1 N)]

theorem varint_Take_link (N : Nat) (x : denS [(0, .v .str)]) : evFX (varint_Take_E N) N (varint_Take_t N) varint_Take_L Go.Proofs.Try.f33 (mkS [(0, .v .str)] 0 x) (kRes (.tup [(.int .u64), (.int .i64), (.int .i64)]) 1) = varint_Take N x.1 := by kernel_rfl

noncomputable def varint_Take_res (N : Nat) : List A → Res := resOf [(0, .v .str)] (fun x => varint_Take N x.1) (oRes (.tup [(.int .u64), (.int .i64), (.int .i64)]) 1)

theorem varint_Take_ct (N : Nat) : Contract Go.Proofs.Try.prog noGlob 33 (varint_Take_res N) :=
  Contract.of (E := varint_Take_E N) (H := varint_Take_t N) (L := varint_Take_L) (N := N) (body := varint_Take_body) (K := (kRes (.tup [(.int .u64), (.int .i64), (.int .i64)]) 1)) (varint_Take_Eok N) Go.Proofs.Try.func33 (by kernel_rfl) (by decide) (fun _ hb => (TabOk.cons (varint_Take_ok1 hb) TabOk.nil)) (fun x y h => by rw [varint_Take_link]; exact h) (kRes_ok (s := (.tup [(.int .u64), (.int .i64), (.int .i64)])) (m := 1))

abbrev porterlaw07_works_R : Type := Bool

noncomputable def porterlaw07_works_body : Code := (Go.Proofs.Try.f32.body).getD .skip

noncomputable def porterlaw07_works_L : List (List Nat × List Nat) := [([0], []), ([0, 1], [1, 2, 3]), ([0, 1, 1], [1, 2, 3, 6]), ([0, 1, 1, 1], [1, 2, 3, 6, 9]), ([0, 1, 1, 1, 1], [0]), ([1, 1, 1, 1, 1], [0])]

noncomputable def porterlaw07_works_E (N : Nat) : Env := mkEnv tys noGlob [(33, varint_Take_res N), (29, varint_Put_res N), (31, varint_Size_res N)] [] [] [] false

theorem porterlaw07_works_Eok (N : Nat) : EnvOk Go.Proofs.Try.prog (porterlaw07_works_E N) := mkEnv_ok mixed tys_ok (FnsOk.cons (varint_Take_ct N) (FnsOk.cons (varint_Put_ct N) (FnsOk.cons (varint_Size_ct N) (FnsOk.nil))))

noncomputable def porterlaw07_works (N : Nat) : Option Bool :=
  (varint_Take N ([(172 : UInt8), (2 : UInt8), (120 : UInt8)] : List UInt8)).bind fun y =>
  (varint_Take N ([(128 : UInt8), (0 : UInt8)] : List UInt8)).bind fun y1 =>
  (varint_Take N ([(128 : UInt8)] : List UInt8)).bind fun y2 =>
  (varint_Put N (300 : Int)).bind fun y3 =>
  cond (y3 == ([(172 : UInt8), (2 : UInt8)] : List UInt8))
  (cond (y.1 == (300 : Int))
    (cond (y.2.1 == (2 : Int))
      (cond (y.2.2.1 == (0 : Int))
        (cond (y1.2.2.1 == (2 : Int))
          (cond (y2.2.2.1 == (1 : Int))
            ((varint_Size N (300 : Int)).bind fun y4 =>
              some (y4 == (2 : Int)))
            (some false))
          (some false))
        (some false))
      (some false))
    (some false))
  (some false)

noncomputable def porterlaw07_works_t (N : Nat) : Tab Bool := []

theorem porterlaw07_works_link (N : Nat) (x : denS []) : evFX (porterlaw07_works_E N) N (porterlaw07_works_t N) porterlaw07_works_L Go.Proofs.Try.f32 (mkS [] 0 x) (kRes (.v .bool) 0) = porterlaw07_works N := by kernel_rfl

noncomputable def porterlaw07_works_res (N : Nat) : List A → Res := resOf [] (fun x => porterlaw07_works N) (oRes (.v .bool) 0)

theorem porterlaw07_works_ct (N : Nat) : Contract Go.Proofs.Try.prog noGlob 32 (porterlaw07_works_res N) :=
  Contract.of (E := porterlaw07_works_E N) (H := porterlaw07_works_t N) (L := porterlaw07_works_L) (N := N) (body := porterlaw07_works_body) (K := (kRes (.v .bool) 0)) (porterlaw07_works_Eok N) Go.Proofs.Try.func32 (by kernel_rfl) (by decide) (fun _ hb => TabOk.nil) (fun x y h => by rw [porterlaw07_works_link]; exact h) (kRes_ok (s := (.v .bool)) (m := 0))

abbrev porterlaw07_VarintPuts_R : Type := Bool

noncomputable def porterlaw07_VarintPuts_body : Code := (Go.Proofs.Try.f7.body).getD .skip

noncomputable def porterlaw07_VarintPuts_L : List (List Nat × List Nat) := [([0], [0]), ([0, 1], [2]), ([1, 1], [2])]

noncomputable def porterlaw07_VarintPuts_E (N : Nat) : Env := mkEnv tys noGlob [(32, porterlaw07_works_res N), (30, porterref07_Put_res N), (29, varint_Put_res N), (31, varint_Size_res N)] [] [] [] false

theorem porterlaw07_VarintPuts_Eok (N : Nat) : EnvOk Go.Proofs.Try.prog (porterlaw07_VarintPuts_E N) := mkEnv_ok mixed tys_ok (FnsOk.cons (porterlaw07_works_ct N) (FnsOk.cons (porterref07_Put_ct N) (FnsOk.cons (varint_Put_ct N) (FnsOk.cons (varint_Size_ct N) (FnsOk.nil)))))

noncomputable def porterlaw07_VarintPuts (N : Nat) (n : Int) : Option Bool :=
  (varint_Put N n).bind fun y =>
  (porterref07_Put N n).bind fun y1 =>
  cond (y == y1)
  ((varint_Size N n).bind fun y2 =>
    (porterref07_Put N n).bind fun y3 =>
    cond (y2 == (((List.length y3) : Nat) : Int))
    ((porterlaw07_works N).bind fun y4 =>
      some y4)
    (some false))
  (some false)

noncomputable def porterlaw07_VarintPuts_t (N : Nat) : Tab Bool := []

theorem porterlaw07_VarintPuts_link (N : Nat) (x : denS [(0, .v (.int .u64))]) : evFX (porterlaw07_VarintPuts_E N) N (porterlaw07_VarintPuts_t N) porterlaw07_VarintPuts_L Go.Proofs.Try.f7 (mkS [(0, .v (.int .u64))] 0 x) (kRes (.v .bool) 1) = porterlaw07_VarintPuts N x.1 := by kernel_rfl

noncomputable def porterlaw07_VarintPuts_res (N : Nat) : List A → Res := resOf [(0, .v (.int .u64))] (fun x => porterlaw07_VarintPuts N x.1) (oRes (.v .bool) 1)

theorem porterlaw07_VarintPuts_ct (N : Nat) : Contract Go.Proofs.Try.prog noGlob 7 (porterlaw07_VarintPuts_res N) :=
  Contract.of (E := porterlaw07_VarintPuts_E N) (H := porterlaw07_VarintPuts_t N) (L := porterlaw07_VarintPuts_L) (N := N) (body := porterlaw07_VarintPuts_body) (K := (kRes (.v .bool) 1)) (porterlaw07_VarintPuts_Eok N) Go.Proofs.Try.func7 (by kernel_rfl) (by decide) (fun _ hb => TabOk.nil) (fun x y h => by rw [porterlaw07_VarintPuts_link]; exact h) (kRes_ok (s := (.v .bool)) (m := 1))

abbrev porterref07_Take_R : Type := (Int × Int × Int × Unit)

noncomputable def porterref07_Take_body : Code := (Go.Proofs.Try.f34.body).getD .skip

noncomputable def porterref07_Take_L : List (List Nat × List Nat) := [([0], [0]), ([0, 1], [5, 0]), ([0, 0, 1, 1], [5, 0]), ([0, 0, 0, 0, 0, 1, 1], [21, 5, 0]), ([1, 0, 0, 0, 0, 1, 1], [5, 0]), ([1, 1, 0, 0, 0, 0, 1, 1], [5, 0]), ([0, 1, 0, 0, 0, 1, 1], [5, 0]), ([1, 0, 0, 0, 1, 1], [5, 0]), ([0, 1, 1], [5, 0]), ([0, 0, 1, 1, 1], [25, 5, 0]), ([1, 0, 1, 1, 1], [5, 0]), ([0, 0, 1, 0, 1, 1, 1], [2, 3, 4]), ([1, 0, 1, 0, 1, 1, 1], [2, 3, 4]), ([0, 0, 1, 1, 1, 1], [29, 5, 0]), ([1, 0, 1, 1, 1, 1], [5, 0]), ([0, 0, 1, 0, 1, 1, 1, 1], [2, 3, 4]), ([1, 0, 1, 0, 1, 1, 1, 1], [2, 3, 4]), ([0, 1, 1, 1, 1, 1], [5, 6, 0]), ([0, 0, 1, 1, 1, 1, 1, 1], [7, 6, 0, 5]), ([0, 1, 0, 1, 1, 1, 1, 1, 1], [7, 6, 0, 5]), ([0, 0, 0, 0, 1, 0, 1, 1, 1, 1, 1, 1], [32, 6, 0, 7, 5]), ([1, 0, 0, 0, 1, 0, 1, 1, 1, 1, 1, 1], [6, 0, 7, 5]), ([1, 1, 0, 0, 0, 1, 0, 1, 1, 1, 1, 1, 1], [6, 0, 5]), ([0, 0, 0, 0, 1, 0, 0, 1, 0, 1, 1, 1, 1, 1, 1], [36, 6, 0, 7, 5]), ([1, 0, 0, 0, 1, 0, 0, 1, 0, 1, 1, 1, 1, 1, 1], [6, 0, 7, 5]), ([0, 0, 1, 0, 0, 0, 1, 0, 0, 1, 0, 1, 1, 1, 1, 1, 1], [2, 3, 4]), ([1, 0, 1, 0, 0, 0, 1, 0, 0, 1, 0, 1, 1, 1, 1, 1, 1], [2, 3, 4]), ([1, 0, 0, 1, 0, 0, 1, 0, 1, 1, 1, 1, 1, 1], [7, 6, 0, 5]), ([0, 1, 0, 0, 1, 0, 1, 1, 1, 1, 1, 1], [7, 6, 0, 5]), ([1, 1, 0, 0, 1, 0, 1, 1, 1, 1, 1, 1], [7, 6, 0, 5]), ([1, 0, 1, 1, 1, 1, 1, 1], [6, 0, 5]), ([0, 0, 1, 1, 1, 1, 1, 1, 1], [51, 6, 5]), ([1, 0, 1, 1, 1, 1, 1, 1, 1], [6, 5]), ([0, 0, 1, 0, 1, 1, 1, 1, 1, 1, 1], [2, 3, 4]), ([1, 0, 1, 0, 1, 1, 1, 1, 1, 1, 1], [2, 3, 4]), ([0, 1, 1, 1, 1, 1, 1, 1, 1], [2, 3, 4]), ([1, 1, 1, 1, 1, 1, 1, 1, 1], [2, 3, 4])]

noncomputable def porterref07_Take_E (N : Nat) : Env := mkEnv tys noGlob [(30, porterref07_Put_res N)] [] [] [] false

theorem porterref07_Take_Eok (N : Nat) : EnvOk Go.Proofs.Try.prog (porterref07_Take_E N) := mkEnv_ok mixed tys_ok (FnsOk.cons (porterref07_Put_ct N) (FnsOk.nil))

noncomputable def porterref07_Take_p3 (N : Nat) (s : (List UInt8)) (k : Int) (k0 : Option (Int × Int × Int × Unit)) (k1 : Option (Int × Int × Int × Unit)) : Option (Int × Int × Int × Unit) :=
  cond (decide (k < (((List.length s) : Nat) : Int)))
  (cond (decide (k < (10 : Int)))
    (cond (Go.Lift.inR k (List.length s))
      (cond (decide ((128 : Int) ≤ (((UInt8.toNat (List.getD s (Int.toNat k) (0 : UInt8))) : Nat) : Int)))
        (k0)
        (k1))
      (none))
    (k1))
  (k1)

noncomputable def porterref07_Take_g3 (N : Nat) (x : denS [(0, .v .str), (4, .v (.int .i64))]) (K : Ex → List A → Option (Int × Int × Int × Unit)) : Option (Int × Int × Int × Unit) :=
  porterref07_Take_p3 N x.1 x.2.1 (K .normal (mkS [(0, .v .str), (4, .v (.int .i64))] 49 (x.1, x.2.1, ()))) (K (.exit 0) (mkS [(0, .v .str), (4, .v (.int .i64))] 49 (x.1, x.2.1, ())))

noncomputable def porterref07_Take_h3 (N : Nat) : Hd (Int × Int × Int × Unit) := fun st K => (unS [(0, .v .str), (4, .v (.int .i64))] 49 (restr [5, 0] 0 st)).bind fun x => porterref07_Take_g3 N x K

noncomputable def porterref07_Take_t3 (N : Nat) : Tab (Int × Int × Int × Unit) := []

theorem porterref07_Take_ok3 {N : Nat} {c : Ctx} (hb : Base Go.Proofs.Try.prog (porterref07_Take_E N) c) : CodeOk Go.Proofs.Try.prog c (nodeAt porterref07_Take_body [0, 0, 0, 0, 1, 1]) (porterref07_Take_h3 N) :=
  piece_ok (s := [(0, .v .str), (4, .v (.int .i64))]) (m := 49) (g := porterref07_Take_g3 N) [5, 0] (evN_sound hb N (porterref07_Take_t3 N) porterref07_Take_L porterref07_Take_body TabOk.nil [0, 0, 0, 0, 1, 1] _ rfl) (fun x K => by kernel_rfl)

noncomputable def porterref07_Take_s2 (N : Nat) (s : (List UInt8)) (k : Int) (rec : Int → Option (Int × Int × Int × Unit)) (k0 : Int → Option (Int × Int × Int × Unit)) : Option (Int × Int × Int × Unit) :=
  porterref07_Take_p3 N s k
  (rec (Go.IntKind.wrap Go.IntKind.i64 (k + (1 : Int))))
  (k0 k)

noncomputable def porterref07_Take_p2 (N : Nat) (s : (List UInt8)) (k : Int) (k0 : Int → Option (Int × Int × Int × Unit)) : Option (Int × Int × Int × Unit) :=
  iter (fun (v : Int) r => porterref07_Take_s2 N s v (fun k => (r k)) k0) N k

noncomputable def porterref07_Take_g2 (N : Nat) (i : (List UInt8)) (v : Int) (r : Int → Option (Int × Int × Int × Unit)) (K : Ex → List A → Option (Int × Int × Int × Unit)) : Option (Int × Int × Int × Unit) :=
  porterref07_Take_s2 N i v (fun k => (r k)) (fun a1 => (K (.exit 0) (mkS [(0, .v .str), (4, .v (.int .i64))] 49 (i, a1, ()))))

noncomputable def porterref07_Take_h2 (N : Nat) : Hd (Int × Int × Int × Unit) := fun st K => (unS [(0, .v .str), (4, .v (.int .i64))] 49 (restr [5, 0] 0 st)).bind fun x => iter (fun v r => porterref07_Take_g2 N ((fun x => x.1) x) v r K) N ((fun x => x.2.1) x)

noncomputable def porterref07_Take_t2 (N : Nat) : Tab (Int × Int × Int × Unit) := [([0, 0, 0, 0, 1, 1], porterref07_Take_h3 N)]

theorem porterref07_Take_ok2 {N : Nat} {c : Ctx} (hb : Base Go.Proofs.Try.prog (porterref07_Take_E N) c) : CodeOk Go.Proofs.Try.prog c (nodeAt porterref07_Take_body [0, 0, 1, 1]) (porterref07_Take_h2 N) :=
  loop_ok (s := [(0, .v .str), (4, .v (.int .i64))]) (m := 49) (porterref07_Take_g2 N) [5, 0] N (fun x => x.1) (fun x => x.2.1) (fun i v => (i, v, ())) (fun _ => rfl) (evN_sound hb N (porterref07_Take_t2 N) porterref07_Take_L porterref07_Take_body (TabOk.cons (porterref07_Take_ok3 hb) TabOk.nil) [0, 0, 0, 1, 1] _ rfl) (fun i v r K => by kernel_rfl)

noncomputable def porterref07_Take_p1 (N : Nat) (s : (List UInt8)) (k : Int) (k0 : Int → Option (Int × Int × Int × Unit)) : Option (Int × Int × Int × Unit) :=
  porterref07_Take_p2 N s k
  (fun k1 => k0 k1)

noncomputable def porterref07_Take_g1 (N : Nat) (x : denS [(0, .v .str), (4, .v (.int .i64))]) (K : Ex → List A → Option (Int × Int × Int × Unit)) : Option (Int × Int × Int × Unit) :=
  porterref07_Take_p1 N x.1 x.2.1 (fun a1 => (K .normal (mkS [(0, .v .str), (4, .v (.int .i64))] 49 (x.1, a1, ()))))

noncomputable def porterref07_Take_h1 (N : Nat) : Hd (Int × Int × Int × Unit) := fun st K => (unS [(0, .v .str), (4, .v (.int .i64))] 49 (restr [5, 0] 0 st)).bind fun x => porterref07_Take_g1 N x K

noncomputable def porterref07_Take_t1 (N : Nat) : Tab (Int × Int × Int × Unit) := [([0, 0, 1, 1], porterref07_Take_h2 N)]

theorem porterref07_Take_ok1 {N : Nat} {c : Ctx} (hb : Base Go.Proofs.Try.prog (porterref07_Take_E N) c) : CodeOk Go.Proofs.Try.prog c (nodeAt porterref07_Take_body [0, 1, 1]) (porterref07_Take_h1 N) :=
  piece_ok (s := [(0, .v .str), (4, .v (.int .i64))]) (m := 49) (g := porterref07_Take_g1 N) [5, 0] (evN_sound hb N (porterref07_Take_t1 N) porterref07_Take_L porterref07_Take_body (TabOk.cons (porterref07_Take_ok2 hb) TabOk.nil) [0, 1, 1] _ rfl) (fun x K => by kernel_rfl)

noncomputable def porterref07_Take_s4 (N : Nat) (s : (List UInt8)) (k : Int) (n : Int) (i : Int) (rec : Int → Int → Option (Int × Int × Int × Unit)) (k0 : Int → Int → Int → Option (Int × Int × Int × Unit)) (k1 : Int → Option (Int × Int × Int × Unit)) : Option (Int × Int × Int × Unit) :=
  cond (decide ((0 : Int) ≤ i))
  (cond (decide ((144115188075855871 : Int) < n))
    (k0 (0 : Int) (0 : Int) (2 : Int))
    (cond (Go.Lift.inR i (List.length s))
      (rec (Go.IntKind.wrap Go.IntKind.u64 ((Go.IntKind.wrap Go.IntKind.u64 (n * (128 : Int))) + (Go.IntKind.wrap Go.IntKind.u64 (Int.tmod (((UInt8.toNat (List.getD s (Int.toNat i) (0 : UInt8))) : Nat) : Int) (128 : Int))))) (Go.IntKind.wrap Go.IntKind.i64 (i - (1 : Int))))
      (none)))
  (k1 n)

noncomputable def porterref07_Take_p4 (N : Nat) (s : (List UInt8)) (k : Int) (n : Int) (i : Int) (k0 : Int → Int → Int → Option (Int × Int × Int × Unit)) (k1 : Int → Option (Int × Int × Int × Unit)) : Option (Int × Int × Int × Unit) :=
  iter (fun (v : (Int × Int)) r => porterref07_Take_s4 N s k v.1 v.2 (fun n i => (r (n, i))) k0 k1) N (n, i)

noncomputable def porterref07_Take_g4 (N : Nat) (i : ((List UInt8) × Int)) (v : (Int × Int)) (r : (Int × Int) → Option (Int × Int × Int × Unit)) (K : Ex → List A → Option (Int × Int × Int × Unit)) : Option (Int × Int × Int × Unit) :=
  porterref07_Take_s4 N i.1 i.2 v.1 v.2 (fun n i => (r (n, i))) (fun a0 a1 a2 => (K .ret (mkS [(2, .v (.int .u64)), (0, .v (.int .i64)), (0, .v (.int .i64))] 50 (a0, a1, a2, ())))) (fun a2 => (K (.exit 2) (mkS [(0, .v .str), (4, .v (.int .i64)), (0, .v (.int .u64))] 48 (i.1, i.2, a2, ()))))

noncomputable def porterref07_Take_h4 (N : Nat) : Hd (Int × Int × Int × Unit) := fun st K => (unS [(0, .v .str), (4, .v (.int .i64)), (0, .v (.int .u64)), (0, .v (.int .i64))] 47 (restr [7, 6, 0, 5] 0 st)).bind fun x => iter (fun v r => porterref07_Take_g4 N ((fun x => (x.1, x.2.1)) x) v r K) N ((fun x => (x.2.2.1, x.2.2.2.1)) x)

noncomputable def porterref07_Take_t4 (N : Nat) : Tab (Int × Int × Int × Unit) := []

theorem porterref07_Take_ok4 {N : Nat} {c : Ctx} (hb : Base Go.Proofs.Try.prog (porterref07_Take_E N) c) : CodeOk Go.Proofs.Try.prog c (nodeAt porterref07_Take_body [0, 1, 0, 1, 1, 1, 1, 1, 1]) (porterref07_Take_h4 N) :=
  loop_ok (s := [(0, .v .str), (4, .v (.int .i64)), (0, .v (.int .u64)), (0, .v (.int .i64))]) (m := 47) (porterref07_Take_g4 N) [7, 6, 0, 5] N (fun x => (x.1, x.2.1)) (fun x => (x.2.2.1, x.2.2.2.1)) (fun i v => (i.1, i.2, v.1, v.2, ())) (fun _ => rfl) (evN_sound hb N (porterref07_Take_t4 N) porterref07_Take_L porterref07_Take_body TabOk.nil [0, 0, 1, 0, 1, 1, 1, 1, 1, 1] _ rfl) (fun i v r K => by kernel_rfl)

noncomputable def porterref07_Take (N : Nat) (s : (List UInt8)) : Option (Int × Int × Int × Unit) :=
  porterref07_Take_p1 N s (0 : Int)
  (fun k => cond (k == (10 : Int))
    (some ((0 : Int), ((0 : Int), ((2 : Int), ()))))
    (cond (k == (((List.length s) : Nat) : Int))
      (some ((0 : Int), ((0 : Int), ((1 : Int), ()))))
      (porterref07_Take_p4 N s k (0 : Int) k
        (fun x2 x3 x4 => some (x2, (x3, (x4, ()))))
        (fun n => (porterref07_Put N n).bind fun y =>
          cond (decide (((0 : Int) ≤ (Go.IntKind.wrap Go.IntKind.i64 (k + (1 : Int)))) ∧ ((Go.IntKind.wrap Go.IntKind.i64 (k + (1 : Int))) ≤ (((List.length s) : Nat) : Int))))
          (cond (!(y == (Go.Lift.cut s 0 (Int.toNat (Go.IntKind.wrap Go.IntKind.i64 (k + (1 : Int)))))))
            (some ((0 : Int), ((0 : Int), ((2 : Int), ()))))
            (some (n, ((Go.IntKind.wrap Go.IntKind.i64 (k + (1 : Int))), ((0 : Int), ())))))
          (none)))))

noncomputable def porterref07_Take_t (N : Nat) : Tab (Int × Int × Int × Unit) := [([0, 1, 1], porterref07_Take_h1 N), ([0, 1, 0, 1, 1, 1, 1, 1, 1], porterref07_Take_h4 N)]

theorem porterref07_Take_link (N : Nat) (x : denS [(0, .v .str)]) : evFX (porterref07_Take_E N) N (porterref07_Take_t N) porterref07_Take_L Go.Proofs.Try.f34 (mkS [(0, .v .str)] 0 x) (kRes (.tup [(.int .u64), (.int .i64), (.int .i64)]) 1) = porterref07_Take N x.1 := by kernel_rfl

noncomputable def porterref07_Take_res (N : Nat) : List A → Res := resOf [(0, .v .str)] (fun x => porterref07_Take N x.1) (oRes (.tup [(.int .u64), (.int .i64), (.int .i64)]) 1)

theorem porterref07_Take_ct (N : Nat) : Contract Go.Proofs.Try.prog noGlob 34 (porterref07_Take_res N) :=
  Contract.of (E := porterref07_Take_E N) (H := porterref07_Take_t N) (L := porterref07_Take_L) (N := N) (body := porterref07_Take_body) (K := (kRes (.tup [(.int .u64), (.int .i64), (.int .i64)]) 1)) (porterref07_Take_Eok N) Go.Proofs.Try.func34 (by kernel_rfl) (by decide) (fun _ hb => (TabOk.cons (porterref07_Take_ok1 hb) (TabOk.cons (porterref07_Take_ok4 hb) TabOk.nil))) (fun x y h => by rw [porterref07_Take_link]; exact h) (kRes_ok (s := (.tup [(.int .u64), (.int .i64), (.int .i64)])) (m := 1))

abbrev porterlaw07_VarintTakes_R : Type := Bool

noncomputable def porterlaw07_VarintTakes_body : Code := (Go.Proofs.Try.f8.body).getD .skip

noncomputable def porterlaw07_VarintTakes_L : List (List Nat × List Nat) := [([0], [0]), ([0, 0, 1], [11, 0]), ([1, 0, 1], [0]), ([0, 0, 1, 0, 1], [2]), ([1, 0, 1, 0, 1], [2]), ([0, 1, 1], [0, 3, 4, 5]), ([0, 1, 1, 1], [3, 6, 4, 7, 5, 8]), ([0, 1, 1, 1, 1], [2]), ([1, 1, 1, 1, 1], [2])]

noncomputable def porterlaw07_VarintTakes_E (N : Nat) : Env := mkEnv tys noGlob [(34, porterref07_Take_res N), (32, porterlaw07_works_res N), (33, varint_Take_res N)] [] [] [] false

theorem porterlaw07_VarintTakes_Eok (N : Nat) : EnvOk Go.Proofs.Try.prog (porterlaw07_VarintTakes_E N) := mkEnv_ok mixed tys_ok (FnsOk.cons (porterref07_Take_ct N) (FnsOk.cons (porterlaw07_works_ct N) (FnsOk.cons (varint_Take_ct N) (FnsOk.nil))))

noncomputable def porterlaw07_VarintTakes (N : Nat) (s : (List UInt8)) : Option Bool :=
  cond (decide ((200 : Int) < (((List.length s) : Nat) : Int)))
  ((porterlaw07_works N).bind fun y =>
    some y)
  ((varint_Take N s).bind fun y1 =>
    (porterref07_Take N s).bind fun y2 =>
    cond (y1.1 == y2.1)
    (cond (y1.2.1 == y2.2.1)
      (cond (y1.2.2.1 == y2.2.2.1)
        ((porterlaw07_works N).bind fun y3 =>
          some y3)
        (some false))
      (some false))
    (some false))

noncomputable def porterlaw07_VarintTakes_t (N : Nat) : Tab Bool := []

theorem porterlaw07_VarintTakes_link (N : Nat) (x : denS [(0, .v .str)]) : evFX (porterlaw07_VarintTakes_E N) N (porterlaw07_VarintTakes_t N) porterlaw07_VarintTakes_L Go.Proofs.Try.f8 (mkS [(0, .v .str)] 0 x) (kRes (.v .bool) 1) = porterlaw07_VarintTakes N x.1 := by kernel_rfl

noncomputable def porterlaw07_VarintTakes_res (N : Nat) : List A → Res := resOf [(0, .v .str)] (fun x => porterlaw07_VarintTakes N x.1) (oRes (.v .bool) 1)

theorem porterlaw07_VarintTakes_ct (N : Nat) : Contract Go.Proofs.Try.prog noGlob 8 (porterlaw07_VarintTakes_res N) :=
  Contract.of (E := porterlaw07_VarintTakes_E N) (H := porterlaw07_VarintTakes_t N) (L := porterlaw07_VarintTakes_L) (N := N) (body := porterlaw07_VarintTakes_body) (K := (kRes (.v .bool) 1)) (porterlaw07_VarintTakes_Eok N) Go.Proofs.Try.func8 (by kernel_rfl) (by decide) (fun _ hb => TabOk.nil) (fun x y h => by rw [porterlaw07_VarintTakes_link]; exact h) (kRes_ok (s := (.v .bool)) (m := 1))

abbrev porterlaw07_VarintBack_R : Type := Bool

noncomputable def porterlaw07_VarintBack_body : Code := (Go.Proofs.Try.f9.body).getD .skip

noncomputable def porterlaw07_VarintBack_L : List (List Nat × List Nat) := [([0], [2, 0, 1]), ([0, 0, 1], [17, 0, 2, 1]), ([1, 0, 1], [0, 2, 1]), ([0, 0, 1, 0, 1], [6]), ([1, 0, 1, 0, 1], [6]), ([0, 1, 1], [7, 2, 0, 1]), ([0, 1, 1, 1], [8, 0, 9, 7, 10, 2, 1]), ([0, 0, 1, 1, 1, 1], [41, 2, 1, 0, 7]), ([1, 0, 1, 1, 1, 1], [2, 1, 0, 7]), ([0, 0, 1, 0, 1, 1, 1, 1], [6]), ([1, 0, 1, 0, 1, 1, 1, 1], [6]), ([0, 1, 1, 1, 1, 1], [13, 12, 2, 11, 1, 0, 7]), ([0, 0, 1, 1, 1, 1, 1, 1], [79, 1, 0, 7]), ([1, 0, 1, 1, 1, 1, 1, 1], [1, 0, 7]), ([0, 0, 1, 0, 1, 1, 1, 1, 1, 1], [6]), ([1, 0, 1, 0, 1, 1, 1, 1, 1, 1], [6]), ([0, 1, 1, 1, 1, 1, 1, 1], [0, 1, 7, 14]), ([0, 1, 1, 1, 1, 1, 1, 1, 1], [6]), ([1, 1, 1, 1, 1, 1, 1, 1, 1], [6])]

noncomputable def porterlaw07_VarintBack_E (N : Nat) : Env := mkEnv tys noGlob [(32, porterlaw07_works_res N), (33, varint_Take_res N), (29, varint_Put_res N)] [] [] [] false

theorem porterlaw07_VarintBack_Eok (N : Nat) : EnvOk Go.Proofs.Try.prog (porterlaw07_VarintBack_E N) := mkEnv_ok mixed tys_ok (FnsOk.cons (porterlaw07_works_ct N) (FnsOk.cons (varint_Take_ct N) (FnsOk.cons (varint_Put_ct N) (FnsOk.nil))))

noncomputable def porterlaw07_VarintBack_p2 (N : Nat) (n : Int) (m : Int) (s : (List UInt8)) (p : (List UInt8)) (a : Int) (k : Int) (e : Int) (k0 : Bool → Option Bool) : Option Bool :=
  cond (a != n)
  (k0 true)
  (cond (k != (((List.length p) : Nat) : Int))
    (k0 true)
    (k0 (e != (0 : Int))))

noncomputable def porterlaw07_VarintBack_g2 (N : Nat) (x : denS [(0, .v (.int .u64)), (0, .v (.int .u64)), (0, .v .str), (4, .v .str), (0, .v (.int .u64)), (0, .v (.int .i64)), (0, .v (.int .i64))]) (K : Ex → List A → Option Bool) : Option Bool :=
  porterlaw07_VarintBack_p2 N x.1 x.2.1 x.2.2.1 x.2.2.2.1 x.2.2.2.2.1 x.2.2.2.2.2.1 x.2.2.2.2.2.2.1 (fun a4 => (K .normal (mkS [(0, .v (.int .u64)), (0, .v (.int .u64)), (0, .v .str), (4, .v .str), (33, .v .bool)] 61 (x.1, x.2.1, x.2.2.1, x.2.2.2.1, a4, ()))))

noncomputable def porterlaw07_VarintBack_h2 (N : Nat) : Hd Bool := fun st K => (unS [(0, .v (.int .u64)), (0, .v (.int .u64)), (0, .v .str), (4, .v .str), (0, .v (.int .u64)), (0, .v (.int .i64)), (0, .v (.int .i64))] 92 (restr [8, 0, 9, 7, 10, 2, 1] 0 st)).bind fun x => porterlaw07_VarintBack_g2 N x K

noncomputable def porterlaw07_VarintBack_t2 (N : Nat) : Tab Bool := []

theorem porterlaw07_VarintBack_ok2 {N : Nat} {c : Ctx} (hb : Base Go.Proofs.Try.prog (porterlaw07_VarintBack_E N) c) : CodeOk Go.Proofs.Try.prog c (nodeAt porterlaw07_VarintBack_body [0, 0, 1, 1, 1, 1]) (porterlaw07_VarintBack_h2 N) :=
  piece_ok (s := [(0, .v (.int .u64)), (0, .v (.int .u64)), (0, .v .str), (4, .v .str), (0, .v (.int .u64)), (0, .v (.int .i64)), (0, .v (.int .i64))]) (m := 92) (g := porterlaw07_VarintBack_g2 N) [8, 0, 9, 7, 10, 2, 1] (evN_sound hb N (porterlaw07_VarintBack_t2 N) porterlaw07_VarintBack_L porterlaw07_VarintBack_body TabOk.nil [0, 0, 1, 1, 1, 1] _ rfl) (fun x K => by kernel_rfl)

noncomputable def porterlaw07_VarintBack_p1 (N : Nat) (n : Int) (m : Int) (s : (List UInt8)) (p : (List UInt8)) (a : Int) (k : Int) (e : Int) (k0 : Bool → Option Bool) (k1 : Option Bool) : Option Bool :=
  porterlaw07_VarintBack_p2 N n m s p a k e
  (fun x41 => cond x41
    (k0 false)
    (k1))

noncomputable def porterlaw07_VarintBack_g1 (N : Nat) (x : denS [(0, .v (.int .u64)), (0, .v (.int .u64)), (0, .v .str), (4, .v .str), (0, .v (.int .u64)), (0, .v (.int .i64)), (0, .v (.int .i64))]) (K : Ex → List A → Option Bool) : Option Bool :=
  porterlaw07_VarintBack_p1 N x.1 x.2.1 x.2.2.1 x.2.2.2.1 x.2.2.2.2.1 x.2.2.2.2.2.1 x.2.2.2.2.2.2.1 (fun a0 => (K .ret (mkS [(6, .v .bool)] 96 (a0, ())))) (K .normal (mkS [(0, .v (.int .u64)), (0, .v (.int .u64)), (0, .v .str), (4, .v .str)] 95 (x.1, x.2.1, x.2.2.1, x.2.2.2.1, ())))

noncomputable def porterlaw07_VarintBack_h1 (N : Nat) : Hd Bool := fun st K => (unS [(0, .v (.int .u64)), (0, .v (.int .u64)), (0, .v .str), (4, .v .str), (0, .v (.int .u64)), (0, .v (.int .i64)), (0, .v (.int .i64))] 92 (restr [8, 0, 9, 7, 10, 2, 1] 0 st)).bind fun x => porterlaw07_VarintBack_g1 N x K

noncomputable def porterlaw07_VarintBack_t1 (N : Nat) : Tab Bool := [([0, 0, 1, 1, 1, 1], porterlaw07_VarintBack_h2 N)]

theorem porterlaw07_VarintBack_ok1 {N : Nat} {c : Ctx} (hb : Base Go.Proofs.Try.prog (porterlaw07_VarintBack_E N) c) : CodeOk Go.Proofs.Try.prog c (nodeAt porterlaw07_VarintBack_body [0, 1, 1, 1, 1]) (porterlaw07_VarintBack_h1 N) :=
  piece_ok (s := [(0, .v (.int .u64)), (0, .v (.int .u64)), (0, .v .str), (4, .v .str), (0, .v (.int .u64)), (0, .v (.int .i64)), (0, .v (.int .i64))]) (m := 92) (g := porterlaw07_VarintBack_g1 N) [8, 0, 9, 7, 10, 2, 1] (evN_sound hb N (porterlaw07_VarintBack_t1 N) porterlaw07_VarintBack_L porterlaw07_VarintBack_body (TabOk.cons (porterlaw07_VarintBack_ok2 hb) TabOk.nil) [0, 1, 1, 1, 1] _ rfl) (fun x K => by kernel_rfl)

noncomputable def porterlaw07_VarintBack_p4 (N : Nat) (n : Int) (m : Int) (s : (List UInt8)) (p : (List UInt8)) (b : Int) (i : Int) (f : Int) (k0 : Bool → Option Bool) : Option Bool :=
  cond (f == (0 : Int))
  (cond (decide ((((List.length s) : Nat) : Int) < i))
    (k0 true)
    (cond (decide (i < (1 : Int)))
      (k0 true)
      ((varint_Put N b).bind fun y =>
        cond (decide (((0 : Int) ≤ i) ∧ (i ≤ (((List.length s) : Nat) : Int))))
        (cond (!(y == (Go.Lift.cut s 0 (Int.toNat i))))
          (k0 true)
          (cond (f != (0 : Int))
            (cond (b != (0 : Int))
              (k0 true)
              (k0 (i != (0 : Int))))
            (k0 false)))
        (none))))
  (cond (f != (0 : Int))
    (cond (b != (0 : Int))
      (k0 true)
      (k0 (i != (0 : Int))))
    (k0 false))

noncomputable def porterlaw07_VarintBack_g4 (N : Nat) (x : denS [(0, .v (.int .u64)), (0, .v (.int .u64)), (0, .v .str), (4, .v .str), (3, .v (.int .u64)), (0, .v (.int .i64)), (0, .v (.int .i64))]) (K : Ex → List A → Option Bool) : Option Bool :=
  porterlaw07_VarintBack_p4 N x.1 x.2.1 x.2.2.1 x.2.2.2.1 x.2.2.2.2.1 x.2.2.2.2.2.1 x.2.2.2.2.2.2.1 (fun a3 => (K .normal (mkS [(0, .v (.int .u64)), (0, .v (.int .u64)), (5, .v .str), (71, .v .bool)] 23 (x.1, x.2.1, x.2.2.2.1, a3, ()))))

noncomputable def porterlaw07_VarintBack_h4 (N : Nat) : Hd Bool := fun st K => (unS [(0, .v (.int .u64)), (0, .v (.int .u64)), (0, .v .str), (4, .v .str), (3, .v (.int .u64)), (0, .v (.int .i64)), (0, .v (.int .i64))] 89 (restr [13, 12, 2, 11, 1, 0, 7] 0 st)).bind fun x => porterlaw07_VarintBack_g4 N x K

noncomputable def porterlaw07_VarintBack_t4 (N : Nat) : Tab Bool := []

theorem porterlaw07_VarintBack_ok4 {N : Nat} {c : Ctx} (hb : Base Go.Proofs.Try.prog (porterlaw07_VarintBack_E N) c) : CodeOk Go.Proofs.Try.prog c (nodeAt porterlaw07_VarintBack_body [0, 0, 1, 1, 1, 1, 1, 1]) (porterlaw07_VarintBack_h4 N) :=
  piece_ok (s := [(0, .v (.int .u64)), (0, .v (.int .u64)), (0, .v .str), (4, .v .str), (3, .v (.int .u64)), (0, .v (.int .i64)), (0, .v (.int .i64))]) (m := 89) (g := porterlaw07_VarintBack_g4 N) [13, 12, 2, 11, 1, 0, 7] (evN_sound hb N (porterlaw07_VarintBack_t4 N) porterlaw07_VarintBack_L porterlaw07_VarintBack_body TabOk.nil [0, 0, 1, 1, 1, 1, 1, 1] _ rfl) (fun x K => by kernel_rfl)

noncomputable def porterlaw07_VarintBack_p3 (N : Nat) (n : Int) (m : Int) (s : (List UInt8)) (p : (List UInt8)) (b : Int) (i : Int) (f : Int) (k0 : Bool → Option Bool) (k1 : Option Bool) : Option Bool :=
  porterlaw07_VarintBack_p4 N n m s p b i f
  (fun x79 => cond x79
    (k0 false)
    (k1))

noncomputable def porterlaw07_VarintBack_g3 (N : Nat) (x : denS [(0, .v (.int .u64)), (0, .v (.int .u64)), (0, .v .str), (4, .v .str), (3, .v (.int .u64)), (0, .v (.int .i64)), (0, .v (.int .i64))]) (K : Ex → List A → Option Bool) : Option Bool :=
  porterlaw07_VarintBack_p3 N x.1 x.2.1 x.2.2.1 x.2.2.2.1 x.2.2.2.2.1 x.2.2.2.2.2.1 x.2.2.2.2.2.2.1 (fun a0 => (K .ret (mkS [(6, .v .bool)] 96 (a0, ())))) (K .normal (mkS [(0, .v (.int .u64)), (0, .v (.int .u64)), (5, .v .str)] 95 (x.1, x.2.1, x.2.2.2.1, ())))

noncomputable def porterlaw07_VarintBack_h3 (N : Nat) : Hd Bool := fun st K => (unS [(0, .v (.int .u64)), (0, .v (.int .u64)), (0, .v .str), (4, .v .str), (3, .v (.int .u64)), (0, .v (.int .i64)), (0, .v (.int .i64))] 89 (restr [13, 12, 2, 11, 1, 0, 7] 0 st)).bind fun x => porterlaw07_VarintBack_g3 N x K

noncomputable def porterlaw07_VarintBack_t3 (N : Nat) : Tab Bool := [([0, 0, 1, 1, 1, 1, 1, 1], porterlaw07_VarintBack_h4 N)]

theorem porterlaw07_VarintBack_ok3 {N : Nat} {c : Ctx} (hb : Base Go.Proofs.Try.prog (porterlaw07_VarintBack_E N) c) : CodeOk Go.Proofs.Try.prog c (nodeAt porterlaw07_VarintBack_body [0, 1, 1, 1, 1, 1, 1]) (porterlaw07_VarintBack_h3 N) :=
  piece_ok (s := [(0, .v (.int .u64)), (0, .v (.int .u64)), (0, .v .str), (4, .v .str), (3, .v (.int .u64)), (0, .v (.int .i64)), (0, .v (.int .i64))]) (m := 89) (g := porterlaw07_VarintBack_g3 N) [13, 12, 2, 11, 1, 0, 7] (evN_sound hb N (porterlaw07_VarintBack_t3 N) porterlaw07_VarintBack_L porterlaw07_VarintBack_body (TabOk.cons (porterlaw07_VarintBack_ok4 hb) TabOk.nil) [0, 1, 1, 1, 1, 1, 1] _ rfl) (fun x K => by kernel_rfl)

noncomputable def porterlaw07_VarintBack (N : Nat) (n : Int) (m : Int) (s : (List UInt8)) : Option Bool :=
  cond (decide ((200 : Int) < (((List.length s) : Nat) : Int)))
  ((porterlaw07_works N).bind fun y =>
    some y)
  ((varint_Put N n).bind fun y1 =>
    cond (decide (((List.length y1) + (List.length s)) ≤ 9223372036854775807))
    ((varint_Take N (y1 ++ s)).bind fun y2 =>
      porterlaw07_VarintBack_p1 N n m s y1 y2.1 y2.2.1 y2.2.2.1
      (fun x6 => some x6)
      ((varint_Take N s).bind fun y3 =>
        porterlaw07_VarintBack_p3 N n m s y1 y3.1 y3.2.1 y3.2.2.1
        (fun x61 => some x61)
        ((varint_Put N m).bind fun y4 =>
          cond (n == m)
          ((porterlaw07_works N).bind fun y5 =>
            some y5)
          (cond (decide ((((List.length y4) : Nat) : Int) < (((List.length y1) : Nat) : Int)))
            ((porterlaw07_works N).bind fun y6 =>
              some y6)
            (cond (decide (((0 : Int) ≤ (((List.length y1) : Nat) : Int)) ∧ ((((List.length y1) : Nat) : Int) ≤ (((List.length y4) : Nat) : Int))))
              (cond (!((Go.Lift.cut y4 0 (Int.toNat (((List.length y1) : Nat) : Int))) == y1))
                ((porterlaw07_works N).bind fun y7 =>
                  some y7)
                (some false))
              (none))))))
    (none))

noncomputable def porterlaw07_VarintBack_t (N : Nat) : Tab Bool := [([0, 1, 1, 1, 1], porterlaw07_VarintBack_h1 N), ([0, 1, 1, 1, 1, 1, 1], porterlaw07_VarintBack_h3 N)]

theorem porterlaw07_VarintBack_link (N : Nat) (x : denS [(0, .v (.int .u64)), (0, .v (.int .u64)), (0, .v .str)]) : evFX (porterlaw07_VarintBack_E N) N (porterlaw07_VarintBack_t N) porterlaw07_VarintBack_L Go.Proofs.Try.f9 (mkS [(0, .v (.int .u64)), (0, .v (.int .u64)), (0, .v .str)] 0 x) (kRes (.v .bool) 3) = porterlaw07_VarintBack N x.1 x.2.1 x.2.2.1 := by kernel_rfl

noncomputable def porterlaw07_VarintBack_res (N : Nat) : List A → Res := resOf [(0, .v (.int .u64)), (0, .v (.int .u64)), (0, .v .str)] (fun x => porterlaw07_VarintBack N x.1 x.2.1 x.2.2.1) (oRes (.v .bool) 3)

theorem porterlaw07_VarintBack_ct (N : Nat) : Contract Go.Proofs.Try.prog noGlob 9 (porterlaw07_VarintBack_res N) :=
  Contract.of (E := porterlaw07_VarintBack_E N) (H := porterlaw07_VarintBack_t N) (L := porterlaw07_VarintBack_L) (N := N) (body := porterlaw07_VarintBack_body) (K := (kRes (.v .bool) 3)) (porterlaw07_VarintBack_Eok N) Go.Proofs.Try.func9 (by kernel_rfl) (by decide) (fun _ hb => (TabOk.cons (porterlaw07_VarintBack_ok1 hb) (TabOk.cons (porterlaw07_VarintBack_ok3 hb) TabOk.nil))) (fun x y h => by rw [porterlaw07_VarintBack_link]; exact h) (kRes_ok (s := (.v .bool)) (m := 3))

end Go.Proofs.YtjhjhfmemipflaaLf
