/- The functions of the seat, as plain functions, and what their calls do. Printed by a program of mine; checked here. -/
import Derived.Test.YtjhjhfmemipflaaLfW
import Derived.Test.YtjhjhfmemipflaaChecked
import Derived.KernelRfl
set_option linter.all false
set_option maxRecDepth 100000
namespace Go.Proofs.YtjhjhfmemipflaaLf
open Go Go.Lift

noncomputable def ty3 : TyI := ⟨(Go.TypeDesc.int Go.IntKind.i64), 1, 8, (.int .i64), (0 : Int), false⟩

theorem ty3_ok : TyOk Go.Proofs.Try.prog 3 ty3 := TyOk.of (by kernel_rfl) (by kernel_rfl) (by kernel_rfl) (by kernel_rfl)

noncomputable def ty4 : TyI := ⟨Go.TypeDesc.bool, 1, 1, .bool, false, false⟩

theorem ty4_ok : TyOk Go.Proofs.Try.prog 4 ty4 := TyOk.of (by kernel_rfl) (by kernel_rfl) (by kernel_rfl) (by kernel_rfl)

noncomputable def ty5 : TyI := ⟨(Go.TypeDesc.int Go.IntKind.u8), 1, 1, (.int .u8), (0 : Int), false⟩

theorem ty5_ok : TyOk Go.Proofs.Try.prog 5 ty5 := TyOk.of (by kernel_rfl) (by kernel_rfl) (by kernel_rfl) (by kernel_rfl)

noncomputable def ty9 : TyI := ⟨Go.TypeDesc.string, 1, 16, .str, ([] : List UInt8), false⟩

theorem ty9_ok : TyOk Go.Proofs.Try.prog 9 ty9 := TyOk.of (by kernel_rfl) (by kernel_rfl) (by kernel_rfl) (by kernel_rfl)

noncomputable def ty28 : TyI := ⟨(Go.TypeDesc.slice 9), 1, 24, (.sl .str), ([] : List (List UInt8)), false⟩

theorem ty28_ok : TyOk Go.Proofs.Try.prog 28 ty28 := TyOk.of (by kernel_rfl) (by kernel_rfl) (by kernel_rfl) (by kernel_rfl)

noncomputable def ty63 : TyI := ⟨(Go.TypeDesc.slice 5), 1, 24, (.sl (.int .u8)), ([] : List Int), false⟩

theorem ty63_ok : TyOk Go.Proofs.Try.prog 63 ty63 := TyOk.of (by kernel_rfl) (by kernel_rfl) (by kernel_rfl) (by kernel_rfl)

noncomputable def ty65 : TyI := ⟨(Go.TypeDesc.int Go.IntKind.u64), 1, 8, (.int .u64), (0 : Int), false⟩

theorem ty65_ok : TyOk Go.Proofs.Try.prog 65 ty65 := TyOk.of (by kernel_rfl) (by kernel_rfl) (by kernel_rfl) (by kernel_rfl)

noncomputable def tys : List (Nat × TyI) := [(3, ty3), (4, ty4), (5, ty5), (9, ty9), (28, ty28), (63, ty63), (65, ty65)]

theorem tys_ok : TysOk Go.Proofs.Try.prog tys := TysOk.cons ty3_ok (TysOk.cons ty4_ok (TysOk.cons ty5_ok (TysOk.cons ty9_ok (TysOk.cons ty28_ok (TysOk.cons ty63_ok (TysOk.cons ty65_ok (TysOk.nil)))))))

theorem mixed : Go.Proofs.Try.prog.follows .mixedOrders = true := by kernel_rfl

abbrev octet_Cut_R : Type := (List (List UInt8))

noncomputable def octet_Cut_body : Code := (Go.Proofs.Try.f24.body).getD .skip

noncomputable def octet_Cut_L : List (List Nat × List Nat) := [([0], [1, 0]), ([0, 0, 1], [13, 0, 1]), ([1, 0, 1], [0, 1]), ([0, 0, 1, 0, 1], [4]), ([1, 0, 1, 0, 1], [4]), ([0, 1, 1], [5, 1, 0]), ([0, 0, 1, 1, 1], [23, 22, 1, 5, 0]), ([0, 1, 0, 1, 1, 1], [23, 22, 1, 5, 0]), ([0, 0, 0, 1, 0, 1, 1, 1], [24, 23, 1, 5, 0, 22]), ([0, 1, 0, 0, 1, 0, 1, 1, 1], [23, 1, 5, 0, 22]), ([1, 0, 1, 0, 0, 1, 0, 1, 1, 1], [5]), ([0, 0, 0, 1, 1, 0, 0, 1, 0, 1, 1, 1], [6, 1, 5, 0, 23, 22]), ([0, 1, 0, 0, 1, 1, 0, 0, 1, 0, 1, 1, 1], [5, 6, 0, 7, 1, 23, 22]), ([1, 1, 0, 0, 1, 1, 0, 0, 1, 0, 1, 1, 1], [23, 22, 1, 5, 0]), ([0, 1, 1, 0, 0, 1, 0, 1, 1, 1], [23, 22, 1, 5, 0]), ([1, 1, 1, 0, 0, 1, 0, 1, 1, 1], [23, 22, 1, 5, 0]), ([1, 0, 1, 1, 1], [5]), ([0, 1, 1, 1, 1], [4]), ([1, 1, 1, 1, 1], [4])]

noncomputable def octet_Cut_E (N : Nat) : Env := mkEnv tys noGlob [] [(5, .str), (4, .str)] [] [] false

theorem octet_Cut_Eok (N : Nat) : EnvOk Go.Proofs.Try.prog (octet_Cut_E N) := mkEnv_ok mixed tys_ok (FnsOk.nil)

noncomputable def octet_Cut_p2 (N : Nat) (s : (List UInt8)) (size : Int) (k0 : Bool → Option (List (List UInt8))) : Option (List (List UInt8)) :=
  cond (decide (size < (1 : Int)))
  (k0 true)
  (k0 (s == ([] : List UInt8)))

noncomputable def octet_Cut_g2 (N : Nat) (x : denS [(0, .v .str), (0, .v (.int .i64))]) (K : Ex → List A → Option (List (List UInt8))) : Option (List (List UInt8)) :=
  octet_Cut_p2 N x.1 x.2.1 (fun a2 => (K .normal (mkS [(0, .v .str), (0, .v (.int .i64)), (11, .v .bool)] 31 (x.1, x.2.1, a2, ()))))

noncomputable def octet_Cut_h2 (N : Nat) : Hd (List (List UInt8)) := fun st K => (unS [(0, .v .str), (0, .v (.int .i64))] 43 (restr [1, 0] 0 st)).bind fun x => octet_Cut_g2 N x K

noncomputable def octet_Cut_t2 (N : Nat) : Tab (List (List UInt8)) := []

theorem octet_Cut_ok2 {N : Nat} {c : Ctx} (hb : Base Go.Proofs.Try.prog (octet_Cut_E N) c) : CodeOk Go.Proofs.Try.prog c (nodeAt octet_Cut_body [0, 0, 1]) (octet_Cut_h2 N) :=
  piece_ok (s := [(0, .v .str), (0, .v (.int .i64))]) (m := 43) (g := octet_Cut_g2 N) [1, 0] (evN_sound hb N (octet_Cut_t2 N) octet_Cut_L octet_Cut_body TabOk.nil [0, 0, 1] _ rfl) (fun x K => by kernel_rfl)

noncomputable def octet_Cut_p1 (N : Nat) (s : (List UInt8)) (size : Int) (k0 : (List (List UInt8)) → Option (List (List UInt8))) (k1 : Option (List (List UInt8))) : Option (List (List UInt8)) :=
  octet_Cut_p2 N s size
  (fun x13 => cond x13
    (k0 ([] : List (List UInt8)))
    (k1))

noncomputable def octet_Cut_g1 (N : Nat) (x : denS [(0, .v .str), (0, .v (.int .i64))]) (K : Ex → List A → Option (List (List UInt8))) : Option (List (List UInt8)) :=
  octet_Cut_p1 N x.1 x.2.1 (fun a0 => (K .ret (mkS [(4, .row .str)] 40 (a0, ())))) (K .normal (mkS [(0, .v .str), (0, .v (.int .i64))] 43 (x.1, x.2.1, ())))

noncomputable def octet_Cut_h1 (N : Nat) : Hd (List (List UInt8)) := fun st K => (unS [(0, .v .str), (0, .v (.int .i64))] 43 (restr [1, 0] 0 st)).bind fun x => octet_Cut_g1 N x K

noncomputable def octet_Cut_t1 (N : Nat) : Tab (List (List UInt8)) := [([0, 0, 1], octet_Cut_h2 N)]

theorem octet_Cut_ok1 {N : Nat} {c : Ctx} (hb : Base Go.Proofs.Try.prog (octet_Cut_E N) c) : CodeOk Go.Proofs.Try.prog c (nodeAt octet_Cut_body [0, 1]) (octet_Cut_h1 N) :=
  piece_ok (s := [(0, .v .str), (0, .v (.int .i64))]) (m := 43) (g := octet_Cut_g1 N) [1, 0] (evN_sound hb N (octet_Cut_t1 N) octet_Cut_L octet_Cut_body (TabOk.cons (octet_Cut_ok2 hb) TabOk.nil) [0, 1] _ rfl) (fun x K => by kernel_rfl)

noncomputable def octet_Cut_s3 (N : Nat) (s : (List UInt8)) (size : Int) (x22 : Int) (pieces : (List (List UInt8))) (x23 : Int) (rec : (List (List UInt8)) → Int → Option (List (List UInt8))) (k0 : (List (List UInt8)) → Option (List (List UInt8))) : Option (List (List UInt8)) :=
  cond (decide (x23 < x22))
  (cond (decide (((0 : Int) ≤ (Go.IntKind.wrap Go.IntKind.i64 ((Go.IntKind.wrap Go.IntKind.i64 (x23 * size)) + (if ((Go.IntKind.wrap Go.IntKind.i64 ((((List.length s) : Nat) : Int) - (Go.IntKind.wrap Go.IntKind.i64 (x23 * size)))) < size) then (Go.IntKind.wrap Go.IntKind.i64 ((((List.length s) : Nat) : Int) - (Go.IntKind.wrap Go.IntKind.i64 (x23 * size)))) else size)))) ∧ ((Go.IntKind.wrap Go.IntKind.i64 ((Go.IntKind.wrap Go.IntKind.i64 (x23 * size)) + (if ((Go.IntKind.wrap Go.IntKind.i64 ((((List.length s) : Nat) : Int) - (Go.IntKind.wrap Go.IntKind.i64 (x23 * size)))) < size) then (Go.IntKind.wrap Go.IntKind.i64 ((((List.length s) : Nat) : Int) - (Go.IntKind.wrap Go.IntKind.i64 (x23 * size)))) else size))) ≤ (((List.length s) : Nat) : Int))))
    (cond (decide (((0 : Int) ≤ (Go.IntKind.wrap Go.IntKind.i64 (x23 * size))) ∧ ((Go.IntKind.wrap Go.IntKind.i64 (x23 * size)) ≤ (Go.IntKind.wrap Go.IntKind.i64 ((Go.IntKind.wrap Go.IntKind.i64 (x23 * size)) + (if ((Go.IntKind.wrap Go.IntKind.i64 ((((List.length s) : Nat) : Int) - (Go.IntKind.wrap Go.IntKind.i64 (x23 * size)))) < size) then (Go.IntKind.wrap Go.IntKind.i64 ((((List.length s) : Nat) : Int) - (Go.IntKind.wrap Go.IntKind.i64 (x23 * size)))) else size))))))
      (cond (Go.Lift.inR x23 (List.length pieces))
        (cond (decide ((Int.toNat x23) < (List.length pieces)))
          (rec (List.set pieces (Int.toNat x23) (Go.Lift.cut s (Int.toNat (Go.IntKind.wrap Go.IntKind.i64 (x23 * size))) (Int.toNat (Go.IntKind.wrap Go.IntKind.i64 ((Go.IntKind.wrap Go.IntKind.i64 (x23 * size)) + (if ((Go.IntKind.wrap Go.IntKind.i64 ((((List.length s) : Nat) : Int) - (Go.IntKind.wrap Go.IntKind.i64 (x23 * size)))) < size) then (Go.IntKind.wrap Go.IntKind.i64 ((((List.length s) : Nat) : Int) - (Go.IntKind.wrap Go.IntKind.i64 (x23 * size)))) else size)))))) (Go.IntKind.wrap Go.IntKind.i64 (x23 + (1 : Int))))
          (none))
        (none))
      (none))
    (none))
  (k0 pieces)

noncomputable def octet_Cut_p3 (N : Nat) (s : (List UInt8)) (size : Int) (pieces : (List (List UInt8))) (x22 : Int) (x23 : Int) (k0 : (List (List UInt8)) → Option (List (List UInt8))) : Option (List (List UInt8)) :=
  iter (fun (v : ((List (List UInt8)) × Int)) r => octet_Cut_s3 N s size x22 v.1 v.2 (fun pieces x23 => (r (pieces, x23))) k0) N (pieces, x23)

noncomputable def octet_Cut_g3 (N : Nat) (i : ((List UInt8) × Int × Int)) (v : ((List (List UInt8)) × Int)) (r : ((List (List UInt8)) × Int) → Option (List (List UInt8))) (K : Ex → List A → Option (List (List UInt8))) : Option (List (List UInt8)) :=
  octet_Cut_s3 N i.1 i.2.1 i.2.2 v.1 v.2 (fun pieces x23 => (r (pieces, x23))) (fun a0 => (K (.exit 0) (mkS [(5, .row .str)] 39 (a0, ()))))

noncomputable def octet_Cut_h3 (N : Nat) : Hd (List (List UInt8)) := fun st K => (unS [(0, .v .str), (0, .v (.int .i64)), (3, .row .str), (16, .v (.int .i64)), (0, .v (.int .i64))] 21 (restr [23, 22, 1, 5, 0] 0 st)).bind fun x => iter (fun v r => octet_Cut_g3 N ((fun x => (x.1, x.2.1, x.2.2.2.1)) x) v r K) N ((fun x => (x.2.2.1, x.2.2.2.2.1)) x)

noncomputable def octet_Cut_t3 (N : Nat) : Tab (List (List UInt8)) := []

theorem octet_Cut_ok3 {N : Nat} {c : Ctx} (hb : Base Go.Proofs.Try.prog (octet_Cut_E N) c) : CodeOk Go.Proofs.Try.prog c (nodeAt octet_Cut_body [0, 1, 0, 1, 1, 1]) (octet_Cut_h3 N) :=
  loop_ok (s := [(0, .v .str), (0, .v (.int .i64)), (3, .row .str), (16, .v (.int .i64)), (0, .v (.int .i64))]) (m := 21) (octet_Cut_g3 N) [23, 22, 1, 5, 0] N (fun x => (x.1, x.2.1, x.2.2.2.1)) (fun x => (x.2.2.1, x.2.2.2.2.1)) (fun i v => (i.1, i.2.1, v.1, i.2.2, v.2, ())) (fun _ => rfl) (evN_sound hb N (octet_Cut_t3 N) octet_Cut_L octet_Cut_body TabOk.nil [0, 0, 1, 0, 1, 1, 1] _ rfl) (fun i v r K => by kernel_rfl)

noncomputable def octet_Cut (N : Nat) (s : (List UInt8)) (size : Int) : Option (List (List UInt8)) :=
  octet_Cut_p1 N s size
  (fun x4 => some x4)
  (cond (size == (0 : Int))
    (none)
    (cond (decide (((0 : Int) ≤ (Go.IntKind.wrap Go.IntKind.i64 ((Go.IntKind.wrap Go.IntKind.i64 (Int.tdiv (Go.IntKind.wrap Go.IntKind.i64 ((((List.length s) : Nat) : Int) - (1 : Int))) size)) + (1 : Int)))) ∧ (((Go.IntKind.wrap Go.IntKind.i64 ((Go.IntKind.wrap Go.IntKind.i64 (Int.tdiv (Go.IntKind.wrap Go.IntKind.i64 ((((List.length s) : Nat) : Int) - (1 : Int))) size)) + (1 : Int))) ≤ (Go.IntKind.wrap Go.IntKind.i64 ((Go.IntKind.wrap Go.IntKind.i64 (Int.tdiv (Go.IntKind.wrap Go.IntKind.i64 ((((List.length s) : Nat) : Int) - (1 : Int))) size)) + (1 : Int)))) ∧ ((((Go.IntKind.wrap Go.IntKind.i64 ((Go.IntKind.wrap Go.IntKind.i64 (Int.tdiv (Go.IntKind.wrap Go.IntKind.i64 ((((List.length s) : Nat) : Int) - (1 : Int))) size)) + (1 : Int))) * (16 : Int)) ≤ (281474976710656 : Int)) ∧ ((Go.IntKind.wrap Go.IntKind.i64 ((Go.IntKind.wrap Go.IntKind.i64 (Int.tdiv (Go.IntKind.wrap Go.IntKind.i64 ((((List.length s) : Nat) : Int) - (1 : Int))) size)) + (1 : Int))) ≤ (9223372036854775807 : Int))))))
      (octet_Cut_p3 N s size (List.replicate (Int.toNat (Go.IntKind.wrap Go.IntKind.i64 ((Go.IntKind.wrap Go.IntKind.i64 (Int.tdiv (Go.IntKind.wrap Go.IntKind.i64 ((((List.length s) : Nat) : Int) - (1 : Int))) size)) + (1 : Int)))) ([] : List UInt8)) (((List.length (List.replicate (Int.toNat (Go.IntKind.wrap Go.IntKind.i64 ((Go.IntKind.wrap Go.IntKind.i64 (Int.tdiv (Go.IntKind.wrap Go.IntKind.i64 ((((List.length s) : Nat) : Int) - (1 : Int))) size)) + (1 : Int)))) ([] : List UInt8))) : Nat) : Int) (0 : Int)
        (fun pieces => some pieces))
      (none)))

noncomputable def octet_Cut_t (N : Nat) : Tab (List (List UInt8)) := [([0, 1], octet_Cut_h1 N), ([0, 1, 0, 1, 1, 1], octet_Cut_h3 N)]

theorem octet_Cut_link (N : Nat) (x : denS [(0, .v .str), (0, .v (.int .i64))]) : evFX (octet_Cut_E N) N (octet_Cut_t N) octet_Cut_L Go.Proofs.Try.f24 (mkS [(0, .v .str), (0, .v (.int .i64))] 0 x) (kRes (.v (.sl .str)) 2) = octet_Cut N x.1 x.2.1 := by kernel_rfl

noncomputable def octet_Cut_res (N : Nat) : List A → Res := resOf [(0, .v .str), (0, .v (.int .i64))] (fun x => octet_Cut N x.1 x.2.1) (oRes (.v (.sl .str)) 2)

theorem octet_Cut_ct (N : Nat) : Contract Go.Proofs.Try.prog noGlob 24 (octet_Cut_res N) :=
  Contract.of (E := octet_Cut_E N) (H := octet_Cut_t N) (L := octet_Cut_L) (N := N) (body := octet_Cut_body) (K := (kRes (.v (.sl .str)) 2)) (octet_Cut_Eok N) Go.Proofs.Try.func24 (by kernel_rfl) (by decide) (fun _ hb => (TabOk.cons (octet_Cut_ok1 hb) (TabOk.cons (octet_Cut_ok3 hb) TabOk.nil))) (fun x y h => by rw [octet_Cut_link]; exact h) (kRes_ok (s := (.v (.sl .str))) (m := 2))

abbrev octet_digit_R : Type := (Int × Bool × Unit)

noncomputable def octet_digit_body : Code := (Go.Proofs.Try.f45.body).getD .skip

noncomputable def octet_digit_L : List (List Nat × List Nat) := [([0], [0]), ([0, 0, 1], [9, 0]), ([1, 0, 1], [0]), ([0, 0, 1, 0, 1], [2, 3]), ([1, 0, 1, 0, 1], [2, 3]), ([0, 0, 1, 1], [17, 0]), ([1, 0, 1, 1], []), ([0, 0, 1, 0, 1, 1], [2, 3]), ([1, 0, 1, 0, 1, 1], [2, 3]), ([0, 1, 1, 1], [2, 3]), ([1, 1, 1, 1], [2, 3])]

noncomputable def octet_digit_E (N : Nat) : Env := mkEnv tys noGlob [] [] [] [] false

theorem octet_digit_Eok (N : Nat) : EnvOk Go.Proofs.Try.prog (octet_digit_E N) := mkEnv_ok mixed tys_ok (FnsOk.nil)

noncomputable def octet_digit_p2 (N : Nat) (b : Int) (k0 : Bool → Option (Int × Bool × Unit)) : Option (Int × Bool × Unit) :=
  cond (decide ((48 : Int) ≤ b))
  (k0 (decide (b ≤ (57 : Int))))
  (k0 false)

noncomputable def octet_digit_g2 (N : Nat) (x : denS [(0, .v (.int .u8))]) (K : Ex → List A → Option (Int × Bool × Unit)) : Option (Int × Bool × Unit) :=
  octet_digit_p2 N x.1 (fun a1 => (K .normal (mkS [(0, .v (.int .u8)), (8, .v .bool)] 11 (x.1, a1, ()))))

noncomputable def octet_digit_h2 (N : Nat) : Hd (Int × Bool × Unit) := fun st K => (unS [(0, .v (.int .u8))] 20 (restr [0] 0 st)).bind fun x => octet_digit_g2 N x K

noncomputable def octet_digit_t2 (N : Nat) : Tab (Int × Bool × Unit) := []

theorem octet_digit_ok2 {N : Nat} {c : Ctx} (hb : Base Go.Proofs.Try.prog (octet_digit_E N) c) : CodeOk Go.Proofs.Try.prog c (nodeAt octet_digit_body [0, 0, 1]) (octet_digit_h2 N) :=
  piece_ok (s := [(0, .v (.int .u8))]) (m := 20) (g := octet_digit_g2 N) [0] (evN_sound hb N (octet_digit_t2 N) octet_digit_L octet_digit_body TabOk.nil [0, 0, 1] _ rfl) (fun x K => by kernel_rfl)

noncomputable def octet_digit_p1 (N : Nat) (b : Int) (k0 : Int → Bool → Option (Int × Bool × Unit)) (k1 : Option (Int × Bool × Unit)) : Option (Int × Bool × Unit) :=
  octet_digit_p2 N b
  (fun x9 => cond x9
    (k0 (Go.IntKind.wrap Go.IntKind.u8 (b - (48 : Int))) true)
    (k1))

noncomputable def octet_digit_g1 (N : Nat) (x : denS [(0, .v (.int .u8))]) (K : Ex → List A → Option (Int × Bool × Unit)) : Option (Int × Bool × Unit) :=
  octet_digit_p1 N x.1 (fun a0 a1 => (K .ret (mkS [(2, .v (.int .u8)), (0, .v .bool)] 17 (a0, a1, ())))) (K .normal (mkS [(0, .v (.int .u8))] 20 (x.1, ())))

noncomputable def octet_digit_h1 (N : Nat) : Hd (Int × Bool × Unit) := fun st K => (unS [(0, .v (.int .u8))] 20 (restr [0] 0 st)).bind fun x => octet_digit_g1 N x K

noncomputable def octet_digit_t1 (N : Nat) : Tab (Int × Bool × Unit) := [([0, 0, 1], octet_digit_h2 N)]

theorem octet_digit_ok1 {N : Nat} {c : Ctx} (hb : Base Go.Proofs.Try.prog (octet_digit_E N) c) : CodeOk Go.Proofs.Try.prog c (nodeAt octet_digit_body [0, 1]) (octet_digit_h1 N) :=
  piece_ok (s := [(0, .v (.int .u8))]) (m := 20) (g := octet_digit_g1 N) [0] (evN_sound hb N (octet_digit_t1 N) octet_digit_L octet_digit_body (TabOk.cons (octet_digit_ok2 hb) TabOk.nil) [0, 1] _ rfl) (fun x K => by kernel_rfl)

noncomputable def octet_digit_p3 (N : Nat) (b : Int) (k0 : Bool → Option (Int × Bool × Unit)) : Option (Int × Bool × Unit) :=
  cond (decide ((97 : Int) ≤ b))
  (k0 (decide (b ≤ (102 : Int))))
  (k0 false)

noncomputable def octet_digit_g3 (N : Nat) (x : denS [(0, .v (.int .u8))]) (K : Ex → List A → Option (Int × Bool × Unit)) : Option (Int × Bool × Unit) :=
  octet_digit_p3 N x.1 (fun a1 => (K .normal (mkS [(0, .v (.int .u8)), (16, .v .bool)] 3 (x.1, a1, ()))))

noncomputable def octet_digit_h3 (N : Nat) : Hd (Int × Bool × Unit) := fun st K => (unS [(0, .v (.int .u8))] 20 (restr [0] 0 st)).bind fun x => octet_digit_g3 N x K

noncomputable def octet_digit_t3 (N : Nat) : Tab (Int × Bool × Unit) := []

theorem octet_digit_ok3 {N : Nat} {c : Ctx} (hb : Base Go.Proofs.Try.prog (octet_digit_E N) c) : CodeOk Go.Proofs.Try.prog c (nodeAt octet_digit_body [0, 0, 1, 1]) (octet_digit_h3 N) :=
  piece_ok (s := [(0, .v (.int .u8))]) (m := 20) (g := octet_digit_g3 N) [0] (evN_sound hb N (octet_digit_t3 N) octet_digit_L octet_digit_body TabOk.nil [0, 0, 1, 1] _ rfl) (fun x K => by kernel_rfl)

noncomputable def octet_digit (N : Nat) (b : Int) : Option (Int × Bool × Unit) :=
  octet_digit_p1 N b
  (fun x2 x3 => some (x2, (x3, ())))
  (octet_digit_p3 N b
    (fun x17 => cond x17
      (some ((Go.IntKind.wrap Go.IntKind.u8 ((Go.IntKind.wrap Go.IntKind.u8 (b - (97 : Int))) + (10 : Int))), (true, ())))
      (some ((0 : Int), (false, ())))))

noncomputable def octet_digit_t (N : Nat) : Tab (Int × Bool × Unit) := [([0, 1], octet_digit_h1 N), ([0, 0, 1, 1], octet_digit_h3 N)]

theorem octet_digit_link (N : Nat) (x : denS [(0, .v (.int .u8))]) : evFX (octet_digit_E N) N (octet_digit_t N) octet_digit_L Go.Proofs.Try.f45 (mkS [(0, .v (.int .u8))] 0 x) (kRes (.tup [(.int .u8), .bool]) 1) = octet_digit N x.1 := by kernel_rfl

noncomputable def octet_digit_res (N : Nat) : List A → Res := resOf [(0, .v (.int .u8))] (fun x => octet_digit N x.1) (oRes (.tup [(.int .u8), .bool]) 1)

theorem octet_digit_ct (N : Nat) : Contract Go.Proofs.Try.prog noGlob 45 (octet_digit_res N) :=
  Contract.of (E := octet_digit_E N) (H := octet_digit_t N) (L := octet_digit_L) (N := N) (body := octet_digit_body) (K := (kRes (.tup [(.int .u8), .bool]) 1)) (octet_digit_Eok N) Go.Proofs.Try.func45 (by kernel_rfl) (by decide) (fun _ hb => (TabOk.cons (octet_digit_ok1 hb) (TabOk.cons (octet_digit_ok3 hb) TabOk.nil))) (fun x y h => by rw [octet_digit_link]; exact h) (kRes_ok (s := (.tup [(.int .u8), .bool])) (m := 1))

abbrev octet_Unhex_R : Type := ((List UInt8) × Bool × Unit)

noncomputable def octet_Unhex_body : Code := (Go.Proofs.Try.f27.body).getD .skip

noncomputable def octet_Unhex_L : List (List Nat × List Nat) := [([0], [0]), ([0, 0, 1], [13, 0]), ([1, 0, 1], [0]), ([0, 0, 1, 0, 1], [2, 3]), ([1, 0, 1, 0, 1], [2, 3]), ([0, 1, 1], [4, 0]), ([0, 0, 1, 1, 1], [20, 19, 0, 4]), ([0, 1, 0, 1, 1, 1], [20, 19, 0, 4]), ([0, 0, 0, 1, 0, 1, 1, 1], [21, 20, 0, 4, 19]), ([0, 1, 0, 0, 1, 0, 1, 1, 1], [20, 0, 4, 19]), ([1, 0, 1, 0, 0, 1, 0, 1, 1, 1], [4]), ([0, 0, 0, 1, 1, 0, 0, 1, 0, 1, 1, 1], [0, 5, 4, 20, 19]), ([0, 1, 0, 0, 1, 1, 0, 0, 1, 0, 1, 1, 1], [0, 5, 7, 4, 6, 20, 19]), ([0, 1, 1, 0, 0, 1, 1, 0, 0, 1, 0, 1, 1, 1], [7, 9, 4, 5, 6, 8, 20, 19, 0]), ([0, 0, 1, 1, 1, 0, 0, 1, 1, 0, 0, 1, 0, 1, 1, 1], [45, 4, 5, 6, 8, 20, 19, 0]), ([1, 0, 1, 1, 1, 0, 0, 1, 1, 0, 0, 1, 0, 1, 1, 1], [4, 5, 6, 8, 20, 19, 0]), ([0, 0, 1, 0, 1, 1, 1, 0, 0, 1, 1, 0, 0, 1, 0, 1, 1, 1], [2, 3]), ([1, 0, 1, 0, 1, 1, 1, 0, 0, 1, 1, 0, 0, 1, 0, 1, 1, 1], [2, 3]), ([1, 1, 1, 1, 0, 0, 1, 1, 0, 0, 1, 0, 1, 1, 1], [20, 19, 0, 4]), ([0, 1, 1, 0, 0, 1, 0, 1, 1, 1], [20, 19, 0, 4]), ([1, 1, 1, 0, 0, 1, 0, 1, 1, 1], [20, 19, 0, 4]), ([1, 0, 1, 1, 1], [4]), ([0, 1, 1, 1, 1], [2, 3]), ([1, 1, 1, 1, 1], [2, 3])]

noncomputable def octet_Unhex_E (N : Nat) : Env := mkEnv tys noGlob [(45, octet_digit_res N)] [(4, (.int .u8))] [] [] false

theorem octet_Unhex_Eok (N : Nat) : EnvOk Go.Proofs.Try.prog (octet_Unhex_E N) := mkEnv_ok mixed tys_ok (FnsOk.cons (octet_digit_ct N) (FnsOk.nil))

noncomputable def octet_Unhex_p3 (N : Nat) (s : (List UInt8)) (out : (List Int)) (i : Int) (high : Int) (ok : Bool) (low : Int) (also : Bool) (x19 : Int) (x20 : Int) (k0 : Bool → Option ((List UInt8) × Bool × Unit)) : Option ((List UInt8) × Bool × Unit) :=
  cond (!ok)
  (k0 true)
  (k0 (!also))

noncomputable def octet_Unhex_g3 (N : Nat) (x : denS [(0, .v .str), (3, .row (.int .u8)), (0, .v (.int .i64)), (0, .v (.int .u8)), (0, .v .bool), (0, .v (.int .u8)), (0, .v .bool), (9, .v (.int .i64)), (0, .v (.int .i64))]) (K : Ex → List A → Option ((List UInt8) × Bool × Unit)) : Option ((List UInt8) × Bool × Unit) :=
  octet_Unhex_p3 N x.1 x.2.1 x.2.2.1 x.2.2.2.1 x.2.2.2.2.1 x.2.2.2.2.2.1 x.2.2.2.2.2.2.1 x.2.2.2.2.2.2.2.1 x.2.2.2.2.2.2.2.2.1 (fun a7 => (K .normal (mkS [(0, .v .str), (3, .row (.int .u8)), (0, .v (.int .i64)), (0, .v (.int .u8)), (1, .v (.int .u8)), (10, .v (.int .i64)), (0, .v (.int .i64)), (24, .v .bool)] 10 (x.1, x.2.1, x.2.2.1, x.2.2.2.1, x.2.2.2.2.2.1, x.2.2.2.2.2.2.2.1, x.2.2.2.2.2.2.2.2.1, a7, ()))))

noncomputable def octet_Unhex_h3 (N : Nat) : Hd ((List UInt8) × Bool × Unit) := fun st K => (unS [(0, .v .str), (3, .row (.int .u8)), (0, .v (.int .i64)), (0, .v (.int .u8)), (0, .v .bool), (0, .v (.int .u8)), (0, .v .bool), (9, .v (.int .i64)), (0, .v (.int .i64))] 35 (restr [7, 9, 4, 5, 6, 8, 20, 19, 0] 0 st)).bind fun x => octet_Unhex_g3 N x K

noncomputable def octet_Unhex_t3 (N : Nat) : Tab ((List UInt8) × Bool × Unit) := []

theorem octet_Unhex_ok3 {N : Nat} {c : Ctx} (hb : Base Go.Proofs.Try.prog (octet_Unhex_E N) c) : CodeOk Go.Proofs.Try.prog c (nodeAt octet_Unhex_body [0, 0, 1, 1, 1, 0, 0, 1, 1, 0, 0, 1, 0, 1, 1, 1]) (octet_Unhex_h3 N) :=
  piece_ok (s := [(0, .v .str), (3, .row (.int .u8)), (0, .v (.int .i64)), (0, .v (.int .u8)), (0, .v .bool), (0, .v (.int .u8)), (0, .v .bool), (9, .v (.int .i64)), (0, .v (.int .i64))]) (m := 35) (g := octet_Unhex_g3 N) [7, 9, 4, 5, 6, 8, 20, 19, 0] (evN_sound hb N (octet_Unhex_t3 N) octet_Unhex_L octet_Unhex_body TabOk.nil [0, 0, 1, 1, 1, 0, 0, 1, 1, 0, 0, 1, 0, 1, 1, 1] _ rfl) (fun x K => by kernel_rfl)

noncomputable def octet_Unhex_p2 (N : Nat) (s : (List UInt8)) (out : (List Int)) (i : Int) (high : Int) (ok : Bool) (low : Int) (also : Bool) (x19 : Int) (x20 : Int) (k0 : (List UInt8) → Bool → Option ((List UInt8) × Bool × Unit)) (k1 : Option ((List UInt8) × Bool × Unit)) : Option ((List UInt8) × Bool × Unit) :=
  octet_Unhex_p3 N s out i high ok low also x19 x20
  (fun x45 => cond x45
    (k0 ([] : List UInt8) false)
    (k1))

noncomputable def octet_Unhex_g2 (N : Nat) (x : denS [(0, .v .str), (3, .row (.int .u8)), (0, .v (.int .i64)), (0, .v (.int .u8)), (0, .v .bool), (0, .v (.int .u8)), (0, .v .bool), (9, .v (.int .i64)), (0, .v (.int .i64))]) (K : Ex → List A → Option ((List UInt8) × Bool × Unit)) : Option ((List UInt8) × Bool × Unit) :=
  octet_Unhex_p2 N x.1 x.2.1 x.2.2.1 x.2.2.2.1 x.2.2.2.2.1 x.2.2.2.2.2.1 x.2.2.2.2.2.2.1 x.2.2.2.2.2.2.2.1 x.2.2.2.2.2.2.2.2.1 (fun a0 a1 => (K .ret (mkS [(2, .v .str), (0, .v .bool)] 52 (a0, a1, ())))) (K .normal (mkS [(0, .v .str), (3, .row (.int .u8)), (0, .v (.int .i64)), (0, .v (.int .u8)), (1, .v (.int .u8)), (10, .v (.int .i64)), (0, .v (.int .i64))] 35 (x.1, x.2.1, x.2.2.1, x.2.2.2.1, x.2.2.2.2.2.1, x.2.2.2.2.2.2.2.1, x.2.2.2.2.2.2.2.2.1, ())))

noncomputable def octet_Unhex_h2 (N : Nat) : Hd ((List UInt8) × Bool × Unit) := fun st K => (unS [(0, .v .str), (3, .row (.int .u8)), (0, .v (.int .i64)), (0, .v (.int .u8)), (0, .v .bool), (0, .v (.int .u8)), (0, .v .bool), (9, .v (.int .i64)), (0, .v (.int .i64))] 35 (restr [7, 9, 4, 5, 6, 8, 20, 19, 0] 0 st)).bind fun x => octet_Unhex_g2 N x K

noncomputable def octet_Unhex_t2 (N : Nat) : Tab ((List UInt8) × Bool × Unit) := [([0, 0, 1, 1, 1, 0, 0, 1, 1, 0, 0, 1, 0, 1, 1, 1], octet_Unhex_h3 N)]

theorem octet_Unhex_ok2 {N : Nat} {c : Ctx} (hb : Base Go.Proofs.Try.prog (octet_Unhex_E N) c) : CodeOk Go.Proofs.Try.prog c (nodeAt octet_Unhex_body [0, 1, 1, 1, 0, 0, 1, 1, 0, 0, 1, 0, 1, 1, 1]) (octet_Unhex_h2 N) :=
  piece_ok (s := [(0, .v .str), (3, .row (.int .u8)), (0, .v (.int .i64)), (0, .v (.int .u8)), (0, .v .bool), (0, .v (.int .u8)), (0, .v .bool), (9, .v (.int .i64)), (0, .v (.int .i64))]) (m := 35) (g := octet_Unhex_g2 N) [7, 9, 4, 5, 6, 8, 20, 19, 0] (evN_sound hb N (octet_Unhex_t2 N) octet_Unhex_L octet_Unhex_body (TabOk.cons (octet_Unhex_ok3 hb) TabOk.nil) [0, 1, 1, 1, 0, 0, 1, 1, 0, 0, 1, 0, 1, 1, 1] _ rfl) (fun x K => by kernel_rfl)

noncomputable def octet_Unhex_s1 (N : Nat) (s : (List UInt8)) (x19 : Int) (out : (List Int)) (x20 : Int) (rec : (List Int) → Int → Option ((List UInt8) × Bool × Unit)) (k0 : (List UInt8) → Bool → Option ((List UInt8) × Bool × Unit)) (k1 : (List Int) → Option ((List UInt8) × Bool × Unit)) : Option ((List UInt8) × Bool × Unit) :=
  cond (decide (x20 < x19))
  (cond (Go.Lift.inR (Go.IntKind.wrap Go.IntKind.i64 ((2 : Int) * x20)) (List.length s))
    ((octet_digit N (((UInt8.toNat (List.getD s (Int.toNat (Go.IntKind.wrap Go.IntKind.i64 ((2 : Int) * x20))) (0 : UInt8))) : Nat) : Int)).bind fun y =>
      cond (Go.Lift.inR (Go.IntKind.wrap Go.IntKind.i64 ((Go.IntKind.wrap Go.IntKind.i64 ((2 : Int) * x20)) + (1 : Int))) (List.length s))
      ((octet_digit N (((UInt8.toNat (List.getD s (Int.toNat (Go.IntKind.wrap Go.IntKind.i64 ((Go.IntKind.wrap Go.IntKind.i64 ((2 : Int) * x20)) + (1 : Int)))) (0 : UInt8))) : Nat) : Int)).bind fun y1 =>
        octet_Unhex_p2 N s out x20 y.1 y.2.1 y1.1 y1.2.1 x19 x20
        (fun x2 x3 => k0 x2 x3)
        (cond (Go.Lift.inR x20 (List.length out))
          (cond (decide ((Int.toNat x20) < (List.length out)))
            (rec (List.set out (Int.toNat x20) (Go.Lift.bitsOp Go.BinOp.or Go.IntKind.u8 (Go.Lift.shlI Go.IntKind.u8 y.1 (4 : Int)) y1.1)) (Go.IntKind.wrap Go.IntKind.i64 (x20 + (1 : Int))))
            (none))
          (none)))
      (none))
    (none))
  (k1 out)

noncomputable def octet_Unhex_p1 (N : Nat) (s : (List UInt8)) (out : (List Int)) (x19 : Int) (x20 : Int) (k0 : (List UInt8) → Bool → Option ((List UInt8) × Bool × Unit)) (k1 : (List Int) → Option ((List UInt8) × Bool × Unit)) : Option ((List UInt8) × Bool × Unit) :=
  iter (fun (v : ((List Int) × Int)) r => octet_Unhex_s1 N s x19 v.1 v.2 (fun out x20 => (r (out, x20))) k0 k1) N (out, x20)

noncomputable def octet_Unhex_g1 (N : Nat) (i : ((List UInt8) × Int)) (v : ((List Int) × Int)) (r : ((List Int) × Int) → Option ((List UInt8) × Bool × Unit)) (K : Ex → List A → Option ((List UInt8) × Bool × Unit)) : Option ((List UInt8) × Bool × Unit) :=
  octet_Unhex_s1 N i.1 i.2 v.1 v.2 (fun out x20 => (r (out, x20))) (fun a0 a1 => (K .ret (mkS [(2, .v .str), (0, .v .bool)] 52 (a0, a1, ())))) (fun a0 => (K (.exit 0) (mkS [(4, .row (.int .u8))] 51 (a0, ()))))

noncomputable def octet_Unhex_h1 (N : Nat) : Hd ((List UInt8) × Bool × Unit) := fun st K => (unS [(0, .v .str), (3, .row (.int .u8)), (14, .v (.int .i64)), (0, .v (.int .i64))] 35 (restr [20, 19, 0, 4] 0 st)).bind fun x => iter (fun v r => octet_Unhex_g1 N ((fun x => (x.1, x.2.2.1)) x) v r K) N ((fun x => (x.2.1, x.2.2.2.1)) x)

noncomputable def octet_Unhex_t1 (N : Nat) : Tab ((List UInt8) × Bool × Unit) := [([0, 1, 1, 1, 0, 0, 1, 1, 0, 0, 1, 0, 1, 1, 1], octet_Unhex_h2 N)]

theorem octet_Unhex_ok1 {N : Nat} {c : Ctx} (hb : Base Go.Proofs.Try.prog (octet_Unhex_E N) c) : CodeOk Go.Proofs.Try.prog c (nodeAt octet_Unhex_body [0, 1, 0, 1, 1, 1]) (octet_Unhex_h1 N) :=
  loop_ok (s := [(0, .v .str), (3, .row (.int .u8)), (14, .v (.int .i64)), (0, .v (.int .i64))]) (m := 35) (octet_Unhex_g1 N) [20, 19, 0, 4] N (fun x => (x.1, x.2.2.1)) (fun x => (x.2.1, x.2.2.2.1)) (fun i v => (i.1, v.1, i.2, v.2, ())) (fun _ => rfl) (evN_sound hb N (octet_Unhex_t1 N) octet_Unhex_L octet_Unhex_body (TabOk.cons (octet_Unhex_ok2 hb) TabOk.nil) [0, 0, 1, 0, 1, 1, 1] _ rfl) (fun i v r K => by kernel_rfl)

noncomputable def octet_Unhex (N : Nat) (s : (List UInt8)) : Option ((List UInt8) × Bool × Unit) :=
  cond ((Int.tmod (((List.length s) : Nat) : Int) (2 : Int)) != (0 : Int))
  (some (([] : List UInt8), (false, ())))
  (cond (decide (((0 : Int) ≤ (Go.IntKind.wrap Go.IntKind.i64 (Int.tdiv (((List.length s) : Nat) : Int) (2 : Int)))) ∧ (((Go.IntKind.wrap Go.IntKind.i64 (Int.tdiv (((List.length s) : Nat) : Int) (2 : Int))) ≤ (Go.IntKind.wrap Go.IntKind.i64 (Int.tdiv (((List.length s) : Nat) : Int) (2 : Int)))) ∧ ((((Go.IntKind.wrap Go.IntKind.i64 (Int.tdiv (((List.length s) : Nat) : Int) (2 : Int))) * (1 : Int)) ≤ (281474976710656 : Int)) ∧ ((Go.IntKind.wrap Go.IntKind.i64 (Int.tdiv (((List.length s) : Nat) : Int) (2 : Int))) ≤ (9223372036854775807 : Int))))))
    (octet_Unhex_p1 N s (List.replicate (Int.toNat (Go.IntKind.wrap Go.IntKind.i64 (Int.tdiv (((List.length s) : Nat) : Int) (2 : Int)))) (0 : Int)) (((List.length (List.replicate (Int.toNat (Go.IntKind.wrap Go.IntKind.i64 (Int.tdiv (((List.length s) : Nat) : Int) (2 : Int)))) (0 : Int))) : Nat) : Int) (0 : Int)
      (fun x2 x3 => some (x2, (x3, ())))
      (fun out => some ((Go.Lift.toStr out), (true, ()))))
    (none))

noncomputable def octet_Unhex_t (N : Nat) : Tab ((List UInt8) × Bool × Unit) := [([0, 1, 0, 1, 1, 1], octet_Unhex_h1 N)]

theorem octet_Unhex_link (N : Nat) (x : denS [(0, .v .str)]) : evFX (octet_Unhex_E N) N (octet_Unhex_t N) octet_Unhex_L Go.Proofs.Try.f27 (mkS [(0, .v .str)] 0 x) (kRes (.tup [.str, .bool]) 1) = octet_Unhex N x.1 := by kernel_rfl

noncomputable def octet_Unhex_res (N : Nat) : List A → Res := resOf [(0, .v .str)] (fun x => octet_Unhex N x.1) (oRes (.tup [.str, .bool]) 1)

theorem octet_Unhex_ct (N : Nat) : Contract Go.Proofs.Try.prog noGlob 27 (octet_Unhex_res N) :=
  Contract.of (E := octet_Unhex_E N) (H := octet_Unhex_t N) (L := octet_Unhex_L) (N := N) (body := octet_Unhex_body) (K := (kRes (.tup [.str, .bool]) 1)) (octet_Unhex_Eok N) Go.Proofs.Try.func27 (by kernel_rfl) (by decide) (fun _ hb => (TabOk.cons (octet_Unhex_ok1 hb) TabOk.nil)) (fun x y h => by rw [octet_Unhex_link]; exact h) (kRes_ok (s := (.tup [.str, .bool])) (m := 1))

abbrev octet_Hex_R : Type := (List UInt8)

noncomputable def octet_Hex_body : Code := (Go.Proofs.Try.f26.body).getD .skip

noncomputable def octet_Hex_L : List (List Nat × List Nat) := [([0], [0]), ([0, 1], [0, 3]), ([0, 0, 1, 1], [11, 10, 3, 0]), ([0, 1, 0, 1, 1], [11, 10, 3, 0]), ([0, 0, 0, 1, 0, 1, 1], [12, 11, 3, 0, 10]), ([0, 1, 0, 0, 1, 0, 1, 1], [11, 3, 0, 10]), ([1, 0, 1, 0, 0, 1, 0, 1, 1], [3]), ([0, 0, 0, 1, 1, 0, 0, 1, 0, 1, 1], [3, 0, 4, 11, 10]), ([1, 0, 0, 1, 1, 0, 0, 1, 0, 1, 1], [11, 10, 3, 0]), ([0, 1, 1, 0, 0, 1, 0, 1, 1], [11, 10, 3, 0]), ([1, 1, 1, 0, 0, 1, 0, 1, 1], [11, 10, 3, 0]), ([1, 0, 1, 1], [3]), ([0, 1, 1, 1], [2]), ([1, 1, 1, 1], [2])]

noncomputable def octet_Hex_E (N : Nat) : Env := mkEnv tys noGlob [] [(3, (.int .u8))] [] [] false

theorem octet_Hex_Eok (N : Nat) : EnvOk Go.Proofs.Try.prog (octet_Hex_E N) := mkEnv_ok mixed tys_ok (FnsOk.nil)

noncomputable def octet_Hex_s1 (N : Nat) (s : (List UInt8)) (x10 : Int) (out : (List Int)) (x11 : Int) (rec : (List Int) → Int → Option (List UInt8)) (k0 : (List Int) → Option (List UInt8)) : Option (List UInt8) :=
  cond (decide (x11 < x10))
  (cond (Go.Lift.inR x11 (List.length s))
    (cond (Go.Lift.inR (Go.Lift.shrI Go.IntKind.u8 (((UInt8.toNat (List.getD s (Int.toNat x11) (0 : UInt8))) : Nat) : Int) (4 : Int)) 16)
      (cond (Go.Lift.inR x11 (List.length s))
        (cond (Go.Lift.inR (Go.Lift.bitsOp Go.BinOp.and Go.IntKind.u8 (((UInt8.toNat (List.getD s (Int.toNat x11) (0 : UInt8))) : Nat) : Int) (15 : Int)) 16)
          (cond (decide ((((List.length out) + 2) * 1) ≤ 70368744177664))
            (rec (out ++ ([(((UInt8.toNat (List.getD ([(48 : UInt8), (49 : UInt8), (50 : UInt8), (51 : UInt8), (52 : UInt8), (53 : UInt8), (54 : UInt8), (55 : UInt8), (56 : UInt8), (57 : UInt8), (97 : UInt8), (98 : UInt8), (99 : UInt8), (100 : UInt8), (101 : UInt8), (102 : UInt8)] : List UInt8) (Int.toNat (Go.Lift.shrI Go.IntKind.u8 (((UInt8.toNat (List.getD s (Int.toNat x11) (0 : UInt8))) : Nat) : Int) (4 : Int))) (0 : UInt8))) : Nat) : Int), (((UInt8.toNat (List.getD ([(48 : UInt8), (49 : UInt8), (50 : UInt8), (51 : UInt8), (52 : UInt8), (53 : UInt8), (54 : UInt8), (55 : UInt8), (56 : UInt8), (57 : UInt8), (97 : UInt8), (98 : UInt8), (99 : UInt8), (100 : UInt8), (101 : UInt8), (102 : UInt8)] : List UInt8) (Int.toNat (Go.Lift.bitsOp Go.BinOp.and Go.IntKind.u8 (((UInt8.toNat (List.getD s (Int.toNat x11) (0 : UInt8))) : Nat) : Int) (15 : Int))) (0 : UInt8))) : Nat) : Int)] : List Int)) (Go.IntKind.wrap Go.IntKind.i64 (x11 + (1 : Int))))
            (none))
          (none))
        (none))
      (none))
    (none))
  (k0 out)

noncomputable def octet_Hex_p1 (N : Nat) (s : (List UInt8)) (out : (List Int)) (x10 : Int) (x11 : Int) (k0 : (List Int) → Option (List UInt8)) : Option (List UInt8) :=
  iter (fun (v : ((List Int) × Int)) r => octet_Hex_s1 N s x10 v.1 v.2 (fun out x11 => (r (out, x11))) k0) N (out, x11)

noncomputable def octet_Hex_g1 (N : Nat) (i : ((List UInt8) × Int)) (v : ((List Int) × Int)) (r : ((List Int) × Int) → Option (List UInt8)) (K : Ex → List A → Option (List UInt8)) : Option (List UInt8) :=
  octet_Hex_s1 N i.1 i.2 v.1 v.2 (fun out x11 => (r (out, x11))) (fun a0 => (K (.exit 0) (mkS [(3, .row (.int .u8))] 26 (a0, ()))))

noncomputable def octet_Hex_h1 (N : Nat) : Hd (List UInt8) := fun st K => (unS [(0, .v .str), (2, .row (.int .u8)), (6, .v (.int .i64)), (0, .v (.int .i64))] 18 (restr [11, 10, 3, 0] 0 st)).bind fun x => iter (fun v r => octet_Hex_g1 N ((fun x => (x.1, x.2.2.1)) x) v r K) N ((fun x => (x.2.1, x.2.2.2.1)) x)

noncomputable def octet_Hex_t1 (N : Nat) : Tab (List UInt8) := []

theorem octet_Hex_ok1 {N : Nat} {c : Ctx} (hb : Base Go.Proofs.Try.prog (octet_Hex_E N) c) : CodeOk Go.Proofs.Try.prog c (nodeAt octet_Hex_body [0, 1, 0, 1, 1]) (octet_Hex_h1 N) :=
  loop_ok (s := [(0, .v .str), (2, .row (.int .u8)), (6, .v (.int .i64)), (0, .v (.int .i64))]) (m := 18) (octet_Hex_g1 N) [11, 10, 3, 0] N (fun x => (x.1, x.2.2.1)) (fun x => (x.2.1, x.2.2.2.1)) (fun i v => (i.1, v.1, i.2, v.2, ())) (fun _ => rfl) (evN_sound hb N (octet_Hex_t1 N) octet_Hex_L octet_Hex_body TabOk.nil [0, 0, 1, 0, 1, 1] _ rfl) (fun i v r K => by kernel_rfl)

noncomputable def octet_Hex (N : Nat) (s : (List UInt8)) : Option (List UInt8) :=
  cond (decide (((0 : Int) ≤ (0 : Int)) ∧ (((0 : Int) ≤ (Go.IntKind.wrap Go.IntKind.i64 ((2 : Int) * (((List.length s) : Nat) : Int)))) ∧ ((((Go.IntKind.wrap Go.IntKind.i64 ((2 : Int) * (((List.length s) : Nat) : Int))) * (1 : Int)) ≤ (281474976710656 : Int)) ∧ ((Go.IntKind.wrap Go.IntKind.i64 ((2 : Int) * (((List.length s) : Nat) : Int))) ≤ (9223372036854775807 : Int))))))
  (octet_Hex_p1 N s ([] : List Int) (((List.length s) : Nat) : Int) (0 : Int)
    (fun out => some (Go.Lift.toStr out)))
  (none)

noncomputable def octet_Hex_t (N : Nat) : Tab (List UInt8) := [([0, 1, 0, 1, 1], octet_Hex_h1 N)]

theorem octet_Hex_link (N : Nat) (x : denS [(0, .v .str)]) : evFX (octet_Hex_E N) N (octet_Hex_t N) octet_Hex_L Go.Proofs.Try.f26 (mkS [(0, .v .str)] 0 x) (kRes (.v .str) 1) = octet_Hex N x.1 := by kernel_rfl

noncomputable def octet_Hex_res (N : Nat) : List A → Res := resOf [(0, .v .str)] (fun x => octet_Hex N x.1) (oRes (.v .str) 1)

theorem octet_Hex_ct (N : Nat) : Contract Go.Proofs.Try.prog noGlob 26 (octet_Hex_res N) :=
  Contract.of (E := octet_Hex_E N) (H := octet_Hex_t N) (L := octet_Hex_L) (N := N) (body := octet_Hex_body) (K := (kRes (.v .str) 1)) (octet_Hex_Eok N) Go.Proofs.Try.func26 (by kernel_rfl) (by decide) (fun _ hb => (TabOk.cons (octet_Hex_ok1 hb) TabOk.nil)) (fun x y h => by rw [octet_Hex_link]; exact h) (kRes_ok (s := (.v .str)) (m := 1))

abbrev octet_Equal_R : Type := Bool

noncomputable def octet_Equal_body : Code := (Go.Proofs.Try.f16.body).getD .skip

noncomputable def octet_Equal_L : List (List Nat × List Nat) := [([0], [0, 1]), ([0, 0, 1], [11, 0, 1]), ([1, 0, 1], [0, 1]), ([0, 0, 1, 0, 1], [4]), ([1, 0, 1, 0, 1], [4]), ([0, 1, 1], [0, 5, 1]), ([0, 0, 1, 1, 1], [14, 13, 5, 0, 1]), ([0, 1, 0, 1, 1, 1], [14, 13, 5, 0, 1]), ([0, 0, 0, 1, 0, 1, 1, 1], [15, 14, 5, 0, 1, 13]), ([0, 1, 0, 0, 1, 0, 1, 1, 1], [14, 5, 0, 1, 13]), ([1, 0, 1, 0, 0, 1, 0, 1, 1, 1], [5]), ([0, 0, 0, 1, 1, 0, 0, 1, 0, 1, 1, 1], [5, 0, 6, 1, 14, 13]), ([1, 0, 0, 1, 1, 0, 0, 1, 0, 1, 1, 1], [14, 13, 5, 0, 1]), ([0, 1, 1, 0, 0, 1, 0, 1, 1, 1], [14, 13, 5, 0, 1]), ([1, 1, 1, 0, 0, 1, 0, 1, 1, 1], [14, 13, 5, 0, 1]), ([1, 0, 1, 1, 1], [5]), ([0, 1, 1, 1, 1], [4]), ([1, 1, 1, 1, 1], [4])]

noncomputable def octet_Equal_E (N : Nat) : Env := mkEnv tys noGlob [] [] [] [] false

theorem octet_Equal_Eok (N : Nat) : EnvOk Go.Proofs.Try.prog (octet_Equal_E N) := mkEnv_ok mixed tys_ok (FnsOk.nil)

noncomputable def octet_Equal_s1 (N : Nat) (a : (List UInt8)) (b : (List UInt8)) (x13 : Int) (differ : Int) (x14 : Int) (rec : Int → Int → Option Bool) (k0 : Int → Option Bool) : Option Bool :=
  cond (decide (x14 < x13))
  (cond (Go.Lift.inR x14 (List.length a))
    (cond (Go.Lift.inR x14 (List.length b))
      (rec (Go.Lift.bitsOp Go.BinOp.or Go.IntKind.u8 differ (Go.Lift.bitsOp Go.BinOp.xor Go.IntKind.u8 (((UInt8.toNat (List.getD a (Int.toNat x14) (0 : UInt8))) : Nat) : Int) (((UInt8.toNat (List.getD b (Int.toNat x14) (0 : UInt8))) : Nat) : Int))) (Go.IntKind.wrap Go.IntKind.i64 (x14 + (1 : Int))))
      (none))
    (none))
  (k0 differ)

noncomputable def octet_Equal_p1 (N : Nat) (a : (List UInt8)) (b : (List UInt8)) (differ : Int) (x13 : Int) (x14 : Int) (k0 : Int → Option Bool) : Option Bool :=
  iter (fun (v : (Int × Int)) r => octet_Equal_s1 N a b x13 v.1 v.2 (fun differ x14 => (r (differ, x14))) k0) N (differ, x14)

noncomputable def octet_Equal_g1 (N : Nat) (i : ((List UInt8) × (List UInt8) × Int)) (v : (Int × Int)) (r : (Int × Int) → Option Bool) (K : Ex → List A → Option Bool) : Option Bool :=
  octet_Equal_s1 N i.1 i.2.1 i.2.2 v.1 v.2 (fun differ x14 => (r (differ, x14))) (fun a0 => (K (.exit 0) (mkS [(5, .v (.int .u8))] 23 (a0, ()))))

noncomputable def octet_Equal_h1 (N : Nat) : Hd Bool := fun st K => (unS [(0, .v .str), (0, .v .str), (3, .v (.int .u8)), (7, .v (.int .i64)), (0, .v (.int .i64))] 14 (restr [14, 13, 5, 0, 1] 0 st)).bind fun x => iter (fun v r => octet_Equal_g1 N ((fun x => (x.1, x.2.1, x.2.2.2.1)) x) v r K) N ((fun x => (x.2.2.1, x.2.2.2.2.1)) x)

noncomputable def octet_Equal_t1 (N : Nat) : Tab Bool := []

theorem octet_Equal_ok1 {N : Nat} {c : Ctx} (hb : Base Go.Proofs.Try.prog (octet_Equal_E N) c) : CodeOk Go.Proofs.Try.prog c (nodeAt octet_Equal_body [0, 1, 0, 1, 1, 1]) (octet_Equal_h1 N) :=
  loop_ok (s := [(0, .v .str), (0, .v .str), (3, .v (.int .u8)), (7, .v (.int .i64)), (0, .v (.int .i64))]) (m := 14) (octet_Equal_g1 N) [14, 13, 5, 0, 1] N (fun x => (x.1, x.2.1, x.2.2.2.1)) (fun x => (x.2.2.1, x.2.2.2.2.1)) (fun i v => (i.1, i.2.1, v.1, i.2.2, v.2, ())) (fun _ => rfl) (evN_sound hb N (octet_Equal_t1 N) octet_Equal_L octet_Equal_body TabOk.nil [0, 0, 1, 0, 1, 1, 1] _ rfl) (fun i v r K => by kernel_rfl)

noncomputable def octet_Equal (N : Nat) (a : (List UInt8)) (b : (List UInt8)) : Option Bool :=
  cond ((((List.length a) : Nat) : Int) != (((List.length b) : Nat) : Int))
  (some false)
  (octet_Equal_p1 N a b (0 : Int) (((List.length a) : Nat) : Int) (0 : Int)
    (fun differ => some (differ == (0 : Int))))

noncomputable def octet_Equal_t (N : Nat) : Tab Bool := [([0, 1, 0, 1, 1, 1], octet_Equal_h1 N)]

theorem octet_Equal_link (N : Nat) (x : denS [(0, .v .str), (0, .v .str)]) : evFX (octet_Equal_E N) N (octet_Equal_t N) octet_Equal_L Go.Proofs.Try.f16 (mkS [(0, .v .str), (0, .v .str)] 0 x) (kRes (.v .bool) 2) = octet_Equal N x.1 x.2.1 := by kernel_rfl

noncomputable def octet_Equal_res (N : Nat) : List A → Res := resOf [(0, .v .str), (0, .v .str)] (fun x => octet_Equal N x.1 x.2.1) (oRes (.v .bool) 2)

theorem octet_Equal_ct (N : Nat) : Contract Go.Proofs.Try.prog noGlob 16 (octet_Equal_res N) :=
  Contract.of (E := octet_Equal_E N) (H := octet_Equal_t N) (L := octet_Equal_L) (N := N) (body := octet_Equal_body) (K := (kRes (.v .bool) 2)) (octet_Equal_Eok N) Go.Proofs.Try.func16 (by kernel_rfl) (by decide) (fun _ hb => (TabOk.cons (octet_Equal_ok1 hb) TabOk.nil)) (fun x y h => by rw [octet_Equal_link]; exact h) (kRes_ok (s := (.v .bool)) (m := 2))

abbrev octet_order_R : Type := Int

noncomputable def octet_order_body : Code := (Go.Proofs.Try.f43.body).getD .skip

noncomputable def octet_order_L : List (List Nat × List Nat) := [([0], [0, 1]), ([0, 0, 1], [7, 0, 1]), ([1, 0, 1], [0, 1]), ([0, 0, 1, 0, 1], [4]), ([1, 0, 1, 0, 1], [4]), ([0, 0, 1, 1], [10]), ([1, 0, 1, 1], []), ([0, 0, 1, 0, 1, 1], [4]), ([1, 0, 1, 0, 1, 1], [4]), ([0, 1, 1, 1], [4]), ([1, 1, 1, 1], [4])]

noncomputable def octet_order_E (N : Nat) : Env := mkEnv tys noGlob [] [] [] [] false

theorem octet_order_Eok (N : Nat) : EnvOk Go.Proofs.Try.prog (octet_order_E N) := mkEnv_ok mixed tys_ok (FnsOk.nil)

noncomputable def octet_order (N : Nat) (a : Int) (b : Int) : Option Int :=
  cond (decide (a < b))
  (some (-(1 : Int)))
  (cond (decide (b < a))
    (some (1 : Int))
    (some (0 : Int)))

noncomputable def octet_order_t (N : Nat) : Tab Int := []

theorem octet_order_link (N : Nat) (x : denS [(0, .v (.int .i64)), (0, .v (.int .i64))]) : evFX (octet_order_E N) N (octet_order_t N) octet_order_L Go.Proofs.Try.f43 (mkS [(0, .v (.int .i64)), (0, .v (.int .i64))] 0 x) (kRes (.v (.int .i64)) 2) = octet_order N x.1 x.2.1 := by kernel_rfl

noncomputable def octet_order_res (N : Nat) : List A → Res := resOf [(0, .v (.int .i64)), (0, .v (.int .i64))] (fun x => octet_order N x.1 x.2.1) (oRes (.v (.int .i64)) 2)

theorem octet_order_ct (N : Nat) : Contract Go.Proofs.Try.prog noGlob 43 (octet_order_res N) :=
  Contract.of (E := octet_order_E N) (H := octet_order_t N) (L := octet_order_L) (N := N) (body := octet_order_body) (K := (kRes (.v (.int .i64)) 2)) (octet_order_Eok N) Go.Proofs.Try.func43 (by kernel_rfl) (by decide) (fun _ hb => TabOk.nil) (fun x y h => by rw [octet_order_link]; exact h) (kRes_ok (s := (.v (.int .i64))) (m := 2))

abbrev octet_Compare_R : Type := Int

noncomputable def octet_Compare_body : Code := (Go.Proofs.Try.f14.body).getD .skip

noncomputable def octet_Compare_L : List (List Nat × List Nat) := [([0], [0, 1]), ([0, 0, 1], [11, 10, 0, 1]), ([0, 1, 0, 1], [11, 10, 0, 1]), ([0, 0, 0, 1, 0, 1], [12, 11, 0, 1, 10]), ([0, 1, 0, 0, 1, 0, 1], [11, 0, 1, 10]), ([1, 0, 1, 0, 0, 1, 0, 1], [0, 1]), ([0, 0, 0, 1, 1, 0, 0, 1, 0, 1], [0, 5, 1, 11, 10]), ([0, 1, 0, 0, 1, 1, 0, 0, 1, 0, 1], [20, 0, 5, 1, 11, 10]), ([1, 1, 0, 0, 1, 1, 0, 0, 1, 0, 1], [11, 10, 0, 1]), ([0, 0, 1, 1, 0, 0, 1, 1, 0, 0, 1, 0, 1], [4]), ([1, 0, 1, 1, 0, 0, 1, 1, 0, 0, 1, 0, 1], [4]), ([0, 1, 1, 0, 0, 1, 0, 1], [11, 10, 0, 1]), ([1, 1, 1, 0, 0, 1, 0, 1], [11, 10, 0, 1]), ([1, 0, 1], [0, 1]), ([0, 1, 1], [4]), ([1, 1, 1], [4])]

noncomputable def octet_Compare_E (N : Nat) : Env := mkEnv tys noGlob [(43, octet_order_res N)] [] [] [] false

theorem octet_Compare_Eok (N : Nat) : EnvOk Go.Proofs.Try.prog (octet_Compare_E N) := mkEnv_ok mixed tys_ok (FnsOk.cons (octet_order_ct N) (FnsOk.nil))

noncomputable def octet_Compare_s1 (N : Nat) (a : (List UInt8)) (b : (List UInt8)) (x10 : Int) (x11 : Int) (rec : Int → Option Int) (k0 : Int → Option Int) (k1 : Option Int) : Option Int :=
  cond (decide (x11 < x10))
  (cond (Go.Lift.inR x11 (List.length a))
    (cond (Go.Lift.inR x11 (List.length b))
      (cond ((((UInt8.toNat (List.getD a (Int.toNat x11) (0 : UInt8))) : Nat) : Int) != (((UInt8.toNat (List.getD b (Int.toNat x11) (0 : UInt8))) : Nat) : Int))
        (cond (Go.Lift.inR x11 (List.length a))
          (cond (Go.Lift.inR x11 (List.length b))
            ((octet_order N (Go.IntKind.wrap Go.IntKind.i64 (((UInt8.toNat (List.getD a (Int.toNat x11) (0 : UInt8))) : Nat) : Int)) (Go.IntKind.wrap Go.IntKind.i64 (((UInt8.toNat (List.getD b (Int.toNat x11) (0 : UInt8))) : Nat) : Int))).bind fun y =>
              k0 y)
            (none))
          (none))
        (rec (Go.IntKind.wrap Go.IntKind.i64 (x11 + (1 : Int)))))
      (none))
    (none))
  (k1)

noncomputable def octet_Compare_p1 (N : Nat) (a : (List UInt8)) (b : (List UInt8)) (x10 : Int) (x11 : Int) (k0 : Int → Option Int) (k1 : Option Int) : Option Int :=
  iter (fun (v : Int) r => octet_Compare_s1 N a b x10 v (fun x11 => (r x11)) k0 k1) N x11

noncomputable def octet_Compare_g1 (N : Nat) (i : ((List UInt8) × (List UInt8) × Int)) (v : Int) (r : Int → Option Int) (K : Ex → List A → Option Int) : Option Int :=
  octet_Compare_s1 N i.1 i.2.1 i.2.2 v (fun x11 => (r x11)) (fun a0 => (K .ret (mkS [(4, .v (.int .i64))] 31 (a0, ())))) (K (.exit 0) (mkS [(0, .v .str), (0, .v .str)] 34 (i.1, i.2.1, ())))

noncomputable def octet_Compare_h1 (N : Nat) : Hd Int := fun st K => (unS [(0, .v .str), (0, .v .str), (8, .v (.int .i64)), (0, .v (.int .i64))] 24 (restr [11, 10, 0, 1] 0 st)).bind fun x => iter (fun v r => octet_Compare_g1 N ((fun x => (x.1, x.2.1, x.2.2.1)) x) v r K) N ((fun x => x.2.2.2.1) x)

noncomputable def octet_Compare_t1 (N : Nat) : Tab Int := []

theorem octet_Compare_ok1 {N : Nat} {c : Ctx} (hb : Base Go.Proofs.Try.prog (octet_Compare_E N) c) : CodeOk Go.Proofs.Try.prog c (nodeAt octet_Compare_body [0, 1, 0, 1]) (octet_Compare_h1 N) :=
  loop_ok (s := [(0, .v .str), (0, .v .str), (8, .v (.int .i64)), (0, .v (.int .i64))]) (m := 24) (octet_Compare_g1 N) [11, 10, 0, 1] N (fun x => (x.1, x.2.1, x.2.2.1)) (fun x => x.2.2.2.1) (fun i v => (i.1, i.2.1, i.2.2, v, ())) (fun _ => rfl) (evN_sound hb N (octet_Compare_t1 N) octet_Compare_L octet_Compare_body TabOk.nil [0, 0, 1, 0, 1] _ rfl) (fun i v r K => by kernel_rfl)

noncomputable def octet_Compare (N : Nat) (a : (List UInt8)) (b : (List UInt8)) : Option Int :=
  octet_Compare_p1 N a b (if ((((List.length b) : Nat) : Int) < (((List.length a) : Nat) : Int)) then (((List.length b) : Nat) : Int) else (((List.length a) : Nat) : Int)) (0 : Int)
  (fun x4 => some x4)
  ((octet_order N (((List.length a) : Nat) : Int) (((List.length b) : Nat) : Int)).bind fun y =>
    some y)

noncomputable def octet_Compare_t (N : Nat) : Tab Int := [([0, 1, 0, 1], octet_Compare_h1 N)]

theorem octet_Compare_link (N : Nat) (x : denS [(0, .v .str), (0, .v .str)]) : evFX (octet_Compare_E N) N (octet_Compare_t N) octet_Compare_L Go.Proofs.Try.f14 (mkS [(0, .v .str), (0, .v .str)] 0 x) (kRes (.v (.int .i64)) 2) = octet_Compare N x.1 x.2.1 := by kernel_rfl

noncomputable def octet_Compare_res (N : Nat) : List A → Res := resOf [(0, .v .str), (0, .v .str)] (fun x => octet_Compare N x.1 x.2.1) (oRes (.v (.int .i64)) 2)

theorem octet_Compare_ct (N : Nat) : Contract Go.Proofs.Try.prog noGlob 14 (octet_Compare_res N) :=
  Contract.of (E := octet_Compare_E N) (H := octet_Compare_t N) (L := octet_Compare_L) (N := N) (body := octet_Compare_body) (K := (kRes (.v (.int .i64)) 2)) (octet_Compare_Eok N) Go.Proofs.Try.func14 (by kernel_rfl) (by decide) (fun _ hb => (TabOk.cons (octet_Compare_ok1 hb) TabOk.nil)) (fun x y h => by rw [octet_Compare_link]; exact h) (kRes_ok (s := (.v (.int .i64))) (m := 2))

abbrev octet_Xor_R : Type := (List UInt8)

noncomputable def octet_Xor_body : Code := (Go.Proofs.Try.f19.body).getD .skip

noncomputable def octet_Xor_L : List (List Nat × List Nat) := [([0], [0, 1]), ([0, 1], [5, 0, 1]), ([0, 0, 1, 1], [15, 14, 5, 0, 1]), ([0, 1, 0, 1, 1], [15, 14, 5, 0, 1]), ([0, 0, 0, 1, 0, 1, 1], [16, 15, 5, 0, 1, 14]), ([0, 1, 0, 0, 1, 0, 1, 1], [15, 5, 0, 1, 14]), ([1, 0, 1, 0, 0, 1, 0, 1, 1], [5]), ([0, 0, 0, 1, 1, 0, 0, 1, 0, 1, 1], [5, 6, 0, 1, 15, 14]), ([1, 0, 0, 1, 1, 0, 0, 1, 0, 1, 1], [15, 14, 5, 0, 1]), ([0, 1, 1, 0, 0, 1, 0, 1, 1], [15, 14, 5, 0, 1]), ([1, 1, 1, 0, 0, 1, 0, 1, 1], [15, 14, 5, 0, 1]), ([1, 0, 1, 1], [5]), ([0, 1, 1, 1], [4]), ([1, 1, 1, 1], [4])]

noncomputable def octet_Xor_E (N : Nat) : Env := mkEnv tys noGlob [] [(5, (.int .u8))] [] [] false

theorem octet_Xor_Eok (N : Nat) : EnvOk Go.Proofs.Try.prog (octet_Xor_E N) := mkEnv_ok mixed tys_ok (FnsOk.nil)

noncomputable def octet_Xor_s1 (N : Nat) (a : (List UInt8)) (b : (List UInt8)) (x14 : Int) (out : (List Int)) (x15 : Int) (rec : (List Int) → Int → Option (List UInt8)) (k0 : (List Int) → Option (List UInt8)) : Option (List UInt8) :=
  cond (decide (x15 < x14))
  (cond (Go.Lift.inR x15 (List.length a))
    (cond (Go.Lift.inR x15 (List.length b))
      (cond (Go.Lift.inR x15 (List.length out))
        (cond (decide ((Int.toNat x15) < (List.length out)))
          (rec (List.set out (Int.toNat x15) (Go.Lift.bitsOp Go.BinOp.xor Go.IntKind.u8 (((UInt8.toNat (List.getD a (Int.toNat x15) (0 : UInt8))) : Nat) : Int) (((UInt8.toNat (List.getD b (Int.toNat x15) (0 : UInt8))) : Nat) : Int))) (Go.IntKind.wrap Go.IntKind.i64 (x15 + (1 : Int))))
          (none))
        (none))
      (none))
    (none))
  (k0 out)

noncomputable def octet_Xor_p1 (N : Nat) (a : (List UInt8)) (b : (List UInt8)) (out : (List Int)) (x14 : Int) (x15 : Int) (k0 : (List Int) → Option (List UInt8)) : Option (List UInt8) :=
  iter (fun (v : ((List Int) × Int)) r => octet_Xor_s1 N a b x14 v.1 v.2 (fun out x15 => (r (out, x15))) k0) N (out, x15)

noncomputable def octet_Xor_g1 (N : Nat) (i : ((List UInt8) × (List UInt8) × Int)) (v : ((List Int) × Int)) (r : ((List Int) × Int) → Option (List UInt8)) (K : Ex → List A → Option (List UInt8)) : Option (List UInt8) :=
  octet_Xor_s1 N i.1 i.2.1 i.2.2 v.1 v.2 (fun out x15 => (r (out, x15))) (fun a0 => (K (.exit 0) (mkS [(5, .row (.int .u8))] 25 (a0, ()))))

noncomputable def octet_Xor_h1 (N : Nat) : Hd (List UInt8) := fun st K => (unS [(0, .v .str), (0, .v .str), (3, .row (.int .u8)), (8, .v (.int .i64)), (0, .v (.int .i64))] 15 (restr [15, 14, 5, 0, 1] 0 st)).bind fun x => iter (fun v r => octet_Xor_g1 N ((fun x => (x.1, x.2.1, x.2.2.2.1)) x) v r K) N ((fun x => (x.2.2.1, x.2.2.2.2.1)) x)

noncomputable def octet_Xor_t1 (N : Nat) : Tab (List UInt8) := []

theorem octet_Xor_ok1 {N : Nat} {c : Ctx} (hb : Base Go.Proofs.Try.prog (octet_Xor_E N) c) : CodeOk Go.Proofs.Try.prog c (nodeAt octet_Xor_body [0, 1, 0, 1, 1]) (octet_Xor_h1 N) :=
  loop_ok (s := [(0, .v .str), (0, .v .str), (3, .row (.int .u8)), (8, .v (.int .i64)), (0, .v (.int .i64))]) (m := 15) (octet_Xor_g1 N) [15, 14, 5, 0, 1] N (fun x => (x.1, x.2.1, x.2.2.2.1)) (fun x => (x.2.2.1, x.2.2.2.2.1)) (fun i v => (i.1, i.2.1, v.1, i.2.2, v.2, ())) (fun _ => rfl) (evN_sound hb N (octet_Xor_t1 N) octet_Xor_L octet_Xor_body TabOk.nil [0, 0, 1, 0, 1, 1] _ rfl) (fun i v r K => by kernel_rfl)

noncomputable def octet_Xor (N : Nat) (a : (List UInt8)) (b : (List UInt8)) : Option (List UInt8) :=
  cond (decide (((0 : Int) ≤ (if ((((List.length b) : Nat) : Int) < (((List.length a) : Nat) : Int)) then (((List.length b) : Nat) : Int) else (((List.length a) : Nat) : Int))) ∧ (((if ((((List.length b) : Nat) : Int) < (((List.length a) : Nat) : Int)) then (((List.length b) : Nat) : Int) else (((List.length a) : Nat) : Int)) ≤ (if ((((List.length b) : Nat) : Int) < (((List.length a) : Nat) : Int)) then (((List.length b) : Nat) : Int) else (((List.length a) : Nat) : Int))) ∧ ((((if ((((List.length b) : Nat) : Int) < (((List.length a) : Nat) : Int)) then (((List.length b) : Nat) : Int) else (((List.length a) : Nat) : Int)) * (1 : Int)) ≤ (281474976710656 : Int)) ∧ ((if ((((List.length b) : Nat) : Int) < (((List.length a) : Nat) : Int)) then (((List.length b) : Nat) : Int) else (((List.length a) : Nat) : Int)) ≤ (9223372036854775807 : Int))))))
  (octet_Xor_p1 N a b (List.replicate (Int.toNat (if ((((List.length b) : Nat) : Int) < (((List.length a) : Nat) : Int)) then (((List.length b) : Nat) : Int) else (((List.length a) : Nat) : Int))) (0 : Int)) (((List.length (List.replicate (Int.toNat (if ((((List.length b) : Nat) : Int) < (((List.length a) : Nat) : Int)) then (((List.length b) : Nat) : Int) else (((List.length a) : Nat) : Int))) (0 : Int))) : Nat) : Int) (0 : Int)
    (fun out => some (Go.Lift.toStr out)))
  (none)

noncomputable def octet_Xor_t (N : Nat) : Tab (List UInt8) := [([0, 1, 0, 1, 1], octet_Xor_h1 N)]

theorem octet_Xor_link (N : Nat) (x : denS [(0, .v .str), (0, .v .str)]) : evFX (octet_Xor_E N) N (octet_Xor_t N) octet_Xor_L Go.Proofs.Try.f19 (mkS [(0, .v .str), (0, .v .str)] 0 x) (kRes (.v .str) 2) = octet_Xor N x.1 x.2.1 := by kernel_rfl

noncomputable def octet_Xor_res (N : Nat) : List A → Res := resOf [(0, .v .str), (0, .v .str)] (fun x => octet_Xor N x.1 x.2.1) (oRes (.v .str) 2)

theorem octet_Xor_ct (N : Nat) : Contract Go.Proofs.Try.prog noGlob 19 (octet_Xor_res N) :=
  Contract.of (E := octet_Xor_E N) (H := octet_Xor_t N) (L := octet_Xor_L) (N := N) (body := octet_Xor_body) (K := (kRes (.v .str) 2)) (octet_Xor_Eok N) Go.Proofs.Try.func19 (by kernel_rfl) (by decide) (fun _ hb => (TabOk.cons (octet_Xor_ok1 hb) TabOk.nil)) (fun x y h => by rw [octet_Xor_link]; exact h) (kRes_ok (s := (.v .str)) (m := 2))

abbrev porterlaw02_works_R : Type := Bool

noncomputable def porterlaw02_works_body : Code := (Go.Proofs.Try.f13.body).getD .skip

noncomputable def porterlaw02_works_L : List (List Nat × List Nat) := [([0], []), ([0, 1], [1]), ([0, 1, 1], [1, 2, 3]), ([0, 1, 1, 1], [0]), ([1, 1, 1, 1], [0])]

noncomputable def porterlaw02_works_E (N : Nat) : Env := mkEnv tys noGlob [(19, octet_Xor_res N), (14, octet_Compare_res N), (16, octet_Equal_res N), (26, octet_Hex_res N), (27, octet_Unhex_res N), (24, octet_Cut_res N)] [] [] [] false

theorem porterlaw02_works_Eok (N : Nat) : EnvOk Go.Proofs.Try.prog (porterlaw02_works_E N) := mkEnv_ok mixed tys_ok (FnsOk.cons (octet_Xor_ct N) (FnsOk.cons (octet_Compare_ct N) (FnsOk.cons (octet_Equal_ct N) (FnsOk.cons (octet_Hex_ct N) (FnsOk.cons (octet_Unhex_ct N) (FnsOk.cons (octet_Cut_ct N) (FnsOk.nil)))))))

noncomputable def porterlaw02_works (N : Nat) : Option Bool :=
  (octet_Cut N ([(97 : UInt8), (98 : UInt8), (99 : UInt8), (100 : UInt8), (101 : UInt8)] : List UInt8) (2 : Int)).bind fun y =>
  (octet_Unhex N ([(54 : UInt8), (49 : UInt8), (102 : UInt8), (102 : UInt8)] : List UInt8)).bind fun y1 =>
  (octet_Hex N ([(97 : UInt8), (255 : UInt8)] : List UInt8)).bind fun y2 =>
  cond (y2 == ([(54 : UInt8), (49 : UInt8), (102 : UInt8), (102 : UInt8)] : List UInt8))
  (cond ((((List.length y) : Nat) : Int) == (3 : Int))
    (cond (Go.Lift.inR (2 : Int) (List.length y))
      (cond ((List.getD y 2 ([] : List UInt8)) == ([(101 : UInt8)] : List UInt8))
        (cond (y1.1 == ([(97 : UInt8), (255 : UInt8)] : List UInt8))
          (cond y1.2.1
            ((octet_Equal N ([(97 : UInt8), (98 : UInt8)] : List UInt8) ([(97 : UInt8), (98 : UInt8)] : List UInt8)).bind fun y3 =>
              cond y3
              ((octet_Compare N ([(97 : UInt8)] : List UInt8) ([(98 : UInt8)] : List UInt8)).bind fun y4 =>
                cond (y4 == (-(1 : Int)))
                ((octet_Xor N ([(97 : UInt8)] : List UInt8) ([(98 : UInt8)] : List UInt8)).bind fun y5 =>
                  some (y5 == ([(3 : UInt8)] : List UInt8)))
                (some false))
              (some false))
            (some false))
          (some false))
        (some false))
      (none))
    (some false))
  (some false)

noncomputable def porterlaw02_works_t (N : Nat) : Tab Bool := []

theorem porterlaw02_works_link (N : Nat) (x : denS []) : evFX (porterlaw02_works_E N) N (porterlaw02_works_t N) porterlaw02_works_L Go.Proofs.Try.f13 (mkS [] 0 x) (kRes (.v .bool) 0) = porterlaw02_works N := by kernel_rfl

noncomputable def porterlaw02_works_res (N : Nat) : List A → Res := resOf [] (fun x => porterlaw02_works N) (oRes (.v .bool) 0)

theorem porterlaw02_works_ct (N : Nat) : Contract Go.Proofs.Try.prog noGlob 13 (porterlaw02_works_res N) :=
  Contract.of (E := porterlaw02_works_E N) (H := porterlaw02_works_t N) (L := porterlaw02_works_L) (N := N) (body := porterlaw02_works_body) (K := (kRes (.v .bool) 0)) (porterlaw02_works_Eok N) Go.Proofs.Try.func13 (by kernel_rfl) (by decide) (fun _ hb => TabOk.nil) (fun x y h => by rw [porterlaw02_works_link]; exact h) (kRes_ok (s := (.v .bool)) (m := 0))

abbrev porterref02_Compare_R : Type := Int

noncomputable def porterref02_Compare_body : Code := (Go.Proofs.Try.f15.body).getD .skip

noncomputable def porterref02_Compare_L : List (List Nat × List Nat) := [([0], [0, 1]), ([0, 0, 1], [5, 0, 1]), ([0, 1, 0, 1], [5, 0, 1]), ([0, 0, 0, 0, 1, 0, 1], [15, 0, 5, 1]), ([1, 0, 0, 0, 1, 0, 1], [0, 5, 1]), ([1, 1, 0, 0, 0, 1, 0, 1], [0, 1]), ([0, 0, 0, 0, 1, 0, 0, 1, 0, 1], [24, 0, 5, 1]), ([1, 0, 0, 0, 1, 0, 0, 1, 0, 1], [0, 5, 1]), ([0, 0, 1, 0, 0, 0, 1, 0, 0, 1, 0, 1], [4]), ([1, 0, 1, 0, 0, 0, 1, 0, 0, 1, 0, 1], [4]), ([0, 1, 0, 0, 1, 0, 0, 1, 0, 1], [31, 5, 0, 1]), ([1, 1, 0, 0, 1, 0, 0, 1, 0, 1], [5, 0, 1]), ([0, 0, 1, 1, 0, 0, 1, 0, 0, 1, 0, 1], [4]), ([1, 0, 1, 1, 0, 0, 1, 0, 0, 1, 0, 1], [4]), ([0, 1, 0, 0, 1, 0, 1], [5, 0, 1]), ([1, 1, 0, 0, 1, 0, 1], [5, 0, 1]), ([1, 0, 1], [0, 1]), ([0, 0, 1, 1], [36, 0, 1]), ([1, 0, 1, 1], [0, 1]), ([0, 0, 1, 0, 1, 1], [4]), ([1, 0, 1, 0, 1, 1], [4]), ([0, 0, 1, 1, 1], [41]), ([1, 0, 1, 1, 1], []), ([0, 0, 1, 0, 1, 1, 1], [4]), ([1, 0, 1, 0, 1, 1, 1], [4]), ([0, 1, 1, 1, 1], [4]), ([1, 1, 1, 1, 1], [4])]

noncomputable def porterref02_Compare_E (N : Nat) : Env := mkEnv tys noGlob [] [] [] [] false

theorem porterref02_Compare_Eok (N : Nat) : EnvOk Go.Proofs.Try.prog (porterref02_Compare_E N) := mkEnv_ok mixed tys_ok (FnsOk.nil)

noncomputable def porterref02_Compare_p3 (N : Nat) (a : (List UInt8)) (b : (List UInt8)) (i : Int) (k0 : Option Int) (k1 : Option Int) : Option Int :=
  cond (decide (i < (((List.length a) : Nat) : Int)))
  (cond (decide (i < (((List.length b) : Nat) : Int)))
    (k0)
    (k1))
  (k1)

noncomputable def porterref02_Compare_g3 (N : Nat) (x : denS [(0, .v .str), (0, .v .str), (3, .v (.int .i64))]) (K : Ex → List A → Option Int) : Option Int :=
  porterref02_Compare_p3 N x.1 x.2.1 x.2.2.1 (K .normal (mkS [(0, .v .str), (0, .v .str), (3, .v (.int .i64))] 36 (x.1, x.2.1, x.2.2.1, ()))) (K (.exit 0) (mkS [(0, .v .str), (0, .v .str)] 40 (x.1, x.2.1, ())))

noncomputable def porterref02_Compare_h3 (N : Nat) : Hd Int := fun st K => (unS [(0, .v .str), (0, .v .str), (3, .v (.int .i64))] 36 (restr [5, 0, 1] 0 st)).bind fun x => porterref02_Compare_g3 N x K

noncomputable def porterref02_Compare_t3 (N : Nat) : Tab Int := []

theorem porterref02_Compare_ok3 {N : Nat} {c : Ctx} (hb : Base Go.Proofs.Try.prog (porterref02_Compare_E N) c) : CodeOk Go.Proofs.Try.prog c (nodeAt porterref02_Compare_body [0, 0, 0, 1, 0, 1]) (porterref02_Compare_h3 N) :=
  piece_ok (s := [(0, .v .str), (0, .v .str), (3, .v (.int .i64))]) (m := 36) (g := porterref02_Compare_g3 N) [5, 0, 1] (evN_sound hb N (porterref02_Compare_t3 N) porterref02_Compare_L porterref02_Compare_body TabOk.nil [0, 0, 0, 1, 0, 1] _ rfl) (fun x K => by kernel_rfl)

noncomputable def porterref02_Compare_s2 (N : Nat) (a : (List UInt8)) (b : (List UInt8)) (i : Int) (rec : Int → Option Int) (k0 : Int → Option Int) (k1 : Option Int) : Option Int :=
  porterref02_Compare_p3 N a b i
  (cond (Go.Lift.inR i (List.length a))
    (cond (Go.Lift.inR i (List.length b))
      (cond (decide ((((UInt8.toNat (List.getD a (Int.toNat i) (0 : UInt8))) : Nat) : Int) < (((UInt8.toNat (List.getD b (Int.toNat i) (0 : UInt8))) : Nat) : Int)))
        (k0 (-(1 : Int)))
        (cond (Go.Lift.inR i (List.length a))
          (cond (Go.Lift.inR i (List.length b))
            (cond (decide ((((UInt8.toNat (List.getD b (Int.toNat i) (0 : UInt8))) : Nat) : Int) < (((UInt8.toNat (List.getD a (Int.toNat i) (0 : UInt8))) : Nat) : Int)))
              (k0 (1 : Int))
              (rec (Go.IntKind.wrap Go.IntKind.i64 (i + (1 : Int)))))
            (none))
          (none)))
      (none))
    (none))
  (k1)

noncomputable def porterref02_Compare_p2 (N : Nat) (a : (List UInt8)) (b : (List UInt8)) (i : Int) (k0 : Int → Option Int) (k1 : Option Int) : Option Int :=
  iter (fun (v : Int) r => porterref02_Compare_s2 N a b v (fun i => (r i)) k0 k1) N i

noncomputable def porterref02_Compare_g2 (N : Nat) (i : ((List UInt8) × (List UInt8))) (v : Int) (r : Int → Option Int) (K : Ex → List A → Option Int) : Option Int :=
  porterref02_Compare_s2 N i.1 i.2 v (fun i => (r i)) (fun a0 => (K .ret (mkS [(4, .v (.int .i64))] 37 (a0, ())))) (K (.exit 0) (mkS [(0, .v .str), (0, .v .str)] 40 (i.1, i.2, ())))

noncomputable def porterref02_Compare_h2 (N : Nat) : Hd Int := fun st K => (unS [(0, .v .str), (0, .v .str), (3, .v (.int .i64))] 36 (restr [5, 0, 1] 0 st)).bind fun x => iter (fun v r => porterref02_Compare_g2 N ((fun x => (x.1, x.2.1)) x) v r K) N ((fun x => x.2.2.1) x)

noncomputable def porterref02_Compare_t2 (N : Nat) : Tab Int := [([0, 0, 0, 1, 0, 1], porterref02_Compare_h3 N)]

theorem porterref02_Compare_ok2 {N : Nat} {c : Ctx} (hb : Base Go.Proofs.Try.prog (porterref02_Compare_E N) c) : CodeOk Go.Proofs.Try.prog c (nodeAt porterref02_Compare_body [0, 1, 0, 1]) (porterref02_Compare_h2 N) :=
  loop_ok (s := [(0, .v .str), (0, .v .str), (3, .v (.int .i64))]) (m := 36) (porterref02_Compare_g2 N) [5, 0, 1] N (fun x => (x.1, x.2.1)) (fun x => x.2.2.1) (fun i v => (i.1, i.2, v, ())) (fun _ => rfl) (evN_sound hb N (porterref02_Compare_t2 N) porterref02_Compare_L porterref02_Compare_body (TabOk.cons (porterref02_Compare_ok3 hb) TabOk.nil) [0, 0, 1, 0, 1] _ rfl) (fun i v r K => by kernel_rfl)

noncomputable def porterref02_Compare_p1 (N : Nat) (a : (List UInt8)) (b : (List UInt8)) (k0 : Int → Option Int) (k1 : Option Int) : Option Int :=
  porterref02_Compare_p2 N a b (0 : Int)
  (fun x4 => k0 x4)
  (k1)

noncomputable def porterref02_Compare_g1 (N : Nat) (x : denS [(0, .v .str), (0, .v .str)]) (K : Ex → List A → Option Int) : Option Int :=
  porterref02_Compare_p1 N x.1 x.2.1 (fun a0 => (K .ret (mkS [(4, .v (.int .i64))] 37 (a0, ())))) (K .normal (mkS [(0, .v .str), (0, .v .str)] 40 (x.1, x.2.1, ())))

noncomputable def porterref02_Compare_h1 (N : Nat) : Hd Int := fun st K => (unS [(0, .v .str), (0, .v .str)] 40 (restr [0, 1] 0 st)).bind fun x => porterref02_Compare_g1 N x K

noncomputable def porterref02_Compare_t1 (N : Nat) : Tab Int := [([0, 1, 0, 1], porterref02_Compare_h2 N)]

theorem porterref02_Compare_ok1 {N : Nat} {c : Ctx} (hb : Base Go.Proofs.Try.prog (porterref02_Compare_E N) c) : CodeOk Go.Proofs.Try.prog c (nodeAt porterref02_Compare_body [0, 1]) (porterref02_Compare_h1 N) :=
  piece_ok (s := [(0, .v .str), (0, .v .str)]) (m := 40) (g := porterref02_Compare_g1 N) [0, 1] (evN_sound hb N (porterref02_Compare_t1 N) porterref02_Compare_L porterref02_Compare_body (TabOk.cons (porterref02_Compare_ok2 hb) TabOk.nil) [0, 1] _ rfl) (fun x K => by kernel_rfl)

noncomputable def porterref02_Compare (N : Nat) (a : (List UInt8)) (b : (List UInt8)) : Option Int :=
  porterref02_Compare_p1 N a b
  (fun x4 => some x4)
  (cond (decide ((((List.length a) : Nat) : Int) < (((List.length b) : Nat) : Int)))
    (some (-(1 : Int)))
    (cond (decide ((((List.length b) : Nat) : Int) < (((List.length a) : Nat) : Int)))
      (some (1 : Int))
      (some (0 : Int))))

noncomputable def porterref02_Compare_t (N : Nat) : Tab Int := [([0, 1], porterref02_Compare_h1 N)]

theorem porterref02_Compare_link (N : Nat) (x : denS [(0, .v .str), (0, .v .str)]) : evFX (porterref02_Compare_E N) N (porterref02_Compare_t N) porterref02_Compare_L Go.Proofs.Try.f15 (mkS [(0, .v .str), (0, .v .str)] 0 x) (kRes (.v (.int .i64)) 2) = porterref02_Compare N x.1 x.2.1 := by kernel_rfl

noncomputable def porterref02_Compare_res (N : Nat) : List A → Res := resOf [(0, .v .str), (0, .v .str)] (fun x => porterref02_Compare N x.1 x.2.1) (oRes (.v (.int .i64)) 2)

theorem porterref02_Compare_ct (N : Nat) : Contract Go.Proofs.Try.prog noGlob 15 (porterref02_Compare_res N) :=
  Contract.of (E := porterref02_Compare_E N) (H := porterref02_Compare_t N) (L := porterref02_Compare_L) (N := N) (body := porterref02_Compare_body) (K := (kRes (.v (.int .i64)) 2)) (porterref02_Compare_Eok N) Go.Proofs.Try.func15 (by kernel_rfl) (by decide) (fun _ hb => (TabOk.cons (porterref02_Compare_ok1 hb) TabOk.nil)) (fun x y h => by rw [porterref02_Compare_link]; exact h) (kRes_ok (s := (.v (.int .i64))) (m := 2))

abbrev octet_Common_R : Type := Int

noncomputable def octet_Common_body : Code := (Go.Proofs.Try.f17.body).getD .skip

noncomputable def octet_Common_L : List (List Nat × List Nat) := [([0], [0, 1]), ([0, 1], [5, 0, 1]), ([0, 0, 1, 1], [13, 12, 0, 1, 5]), ([0, 1, 0, 1, 1], [13, 12, 0, 1, 5]), ([0, 0, 0, 1, 0, 1, 1], [14, 13, 0, 1, 12, 5]), ([0, 1, 0, 0, 1, 0, 1, 1], [13, 0, 1, 12, 5]), ([1, 0, 1, 0, 0, 1, 0, 1, 1], [5]), ([0, 0, 0, 1, 1, 0, 0, 1, 0, 1, 1], [0, 6, 1, 13, 12, 5]), ([0, 1, 0, 0, 1, 1, 0, 0, 1, 0, 1, 1], [22, 6, 13, 12, 0, 1, 5]), ([1, 1, 0, 0, 1, 1, 0, 0, 1, 0, 1, 1], [13, 12, 0, 1, 5]), ([0, 0, 1, 1, 0, 0, 1, 1, 0, 0, 1, 0, 1, 1], [4]), ([1, 0, 1, 1, 0, 0, 1, 1, 0, 0, 1, 0, 1, 1], [4]), ([0, 1, 1, 0, 0, 1, 0, 1, 1], [13, 12, 0, 1, 5]), ([1, 1, 1, 0, 0, 1, 0, 1, 1], [13, 12, 0, 1, 5]), ([1, 0, 1, 1], [5]), ([0, 1, 1, 1], [4]), ([1, 1, 1, 1], [4])]

noncomputable def octet_Common_E (N : Nat) : Env := mkEnv tys noGlob [] [] [] [] false

theorem octet_Common_Eok (N : Nat) : EnvOk Go.Proofs.Try.prog (octet_Common_E N) := mkEnv_ok mixed tys_ok (FnsOk.nil)

noncomputable def octet_Common_s1 (N : Nat) (a : (List UInt8)) (b : (List UInt8)) (n : Int) (x12 : Int) (x13 : Int) (rec : Int → Option Int) (k0 : Int → Option Int) (k1 : Option Int) : Option Int :=
  cond (decide (x13 < x12))
  (cond (Go.Lift.inR x13 (List.length a))
    (cond (Go.Lift.inR x13 (List.length b))
      (cond ((((UInt8.toNat (List.getD a (Int.toNat x13) (0 : UInt8))) : Nat) : Int) != (((UInt8.toNat (List.getD b (Int.toNat x13) (0 : UInt8))) : Nat) : Int))
        (k0 x13)
        (rec (Go.IntKind.wrap Go.IntKind.i64 (x13 + (1 : Int)))))
      (none))
    (none))
  (k1)

noncomputable def octet_Common_p1 (N : Nat) (a : (List UInt8)) (b : (List UInt8)) (n : Int) (x12 : Int) (x13 : Int) (k0 : Int → Option Int) (k1 : Option Int) : Option Int :=
  iter (fun (v : Int) r => octet_Common_s1 N a b n x12 v (fun x13 => (r x13)) k0 k1) N x13

noncomputable def octet_Common_g1 (N : Nat) (i : ((List UInt8) × (List UInt8) × Int × Int)) (v : Int) (r : Int → Option Int) (K : Ex → List A → Option Int) : Option Int :=
  octet_Common_s1 N i.1 i.2.1 i.2.2.1 i.2.2.2 v (fun x13 => (r x13)) (fun a0 => (K .ret (mkS [(4, .v (.int .i64))] 21 (a0, ())))) (K (.exit 0) (mkS [(5, .v (.int .i64))] 20 (i.2.2.1, ())))

noncomputable def octet_Common_h1 (N : Nat) : Hd Int := fun st K => (unS [(0, .v .str), (0, .v .str), (3, .v (.int .i64)), (6, .v (.int .i64)), (0, .v (.int .i64))] 12 (restr [13, 12, 0, 1, 5] 0 st)).bind fun x => iter (fun v r => octet_Common_g1 N ((fun x => (x.1, x.2.1, x.2.2.1, x.2.2.2.1)) x) v r K) N ((fun x => x.2.2.2.2.1) x)

noncomputable def octet_Common_t1 (N : Nat) : Tab Int := []

theorem octet_Common_ok1 {N : Nat} {c : Ctx} (hb : Base Go.Proofs.Try.prog (octet_Common_E N) c) : CodeOk Go.Proofs.Try.prog c (nodeAt octet_Common_body [0, 1, 0, 1, 1]) (octet_Common_h1 N) :=
  loop_ok (s := [(0, .v .str), (0, .v .str), (3, .v (.int .i64)), (6, .v (.int .i64)), (0, .v (.int .i64))]) (m := 12) (octet_Common_g1 N) [13, 12, 0, 1, 5] N (fun x => (x.1, x.2.1, x.2.2.1, x.2.2.2.1)) (fun x => x.2.2.2.2.1) (fun i v => (i.1, i.2.1, i.2.2.1, i.2.2.2, v, ())) (fun _ => rfl) (evN_sound hb N (octet_Common_t1 N) octet_Common_L octet_Common_body TabOk.nil [0, 0, 1, 0, 1, 1] _ rfl) (fun i v r K => by kernel_rfl)

noncomputable def octet_Common (N : Nat) (a : (List UInt8)) (b : (List UInt8)) : Option Int :=
  octet_Common_p1 N a b (if ((((List.length b) : Nat) : Int) < (((List.length a) : Nat) : Int)) then (((List.length b) : Nat) : Int) else (((List.length a) : Nat) : Int)) (if ((((List.length b) : Nat) : Int) < (((List.length a) : Nat) : Int)) then (((List.length b) : Nat) : Int) else (((List.length a) : Nat) : Int)) (0 : Int)
  (fun x4 => some x4)
  (some (if ((((List.length b) : Nat) : Int) < (((List.length a) : Nat) : Int)) then (((List.length b) : Nat) : Int) else (((List.length a) : Nat) : Int)))

noncomputable def octet_Common_t (N : Nat) : Tab Int := [([0, 1, 0, 1, 1], octet_Common_h1 N)]

theorem octet_Common_link (N : Nat) (x : denS [(0, .v .str), (0, .v .str)]) : evFX (octet_Common_E N) N (octet_Common_t N) octet_Common_L Go.Proofs.Try.f17 (mkS [(0, .v .str), (0, .v .str)] 0 x) (kRes (.v (.int .i64)) 2) = octet_Common N x.1 x.2.1 := by kernel_rfl

noncomputable def octet_Common_res (N : Nat) : List A → Res := resOf [(0, .v .str), (0, .v .str)] (fun x => octet_Common N x.1 x.2.1) (oRes (.v (.int .i64)) 2)

theorem octet_Common_ct (N : Nat) : Contract Go.Proofs.Try.prog noGlob 17 (octet_Common_res N) :=
  Contract.of (E := octet_Common_E N) (H := octet_Common_t N) (L := octet_Common_L) (N := N) (body := octet_Common_body) (K := (kRes (.v (.int .i64)) 2)) (octet_Common_Eok N) Go.Proofs.Try.func17 (by kernel_rfl) (by decide) (fun _ hb => (TabOk.cons (octet_Common_ok1 hb) TabOk.nil)) (fun x y h => by rw [octet_Common_link]; exact h) (kRes_ok (s := (.v (.int .i64))) (m := 2))

abbrev porterref02_Common_R : Type := Int

noncomputable def porterref02_Common_body : Code := (Go.Proofs.Try.f18.body).getD .skip

noncomputable def porterref02_Common_L : List (List Nat × List Nat) := [([0], [0, 1]), ([0, 1], [5, 0, 1]), ([0, 0, 1, 1], [5, 0, 1]), ([0, 0, 0, 0, 0, 1, 1], [24, 5, 0, 1]), ([1, 0, 0, 0, 0, 1, 1], [5, 0, 1]), ([1, 1, 0, 0, 0, 0, 1, 1], [5]), ([0, 1, 0, 0, 0, 1, 1], [5, 0, 1]), ([1, 0, 0, 0, 1, 1], [5, 0, 1]), ([0, 1, 1], [5]), ([0, 1, 1, 1], [4]), ([1, 1, 1, 1], [4])]

noncomputable def porterref02_Common_E (N : Nat) : Env := mkEnv tys noGlob [] [] [] [] false

theorem porterref02_Common_Eok (N : Nat) : EnvOk Go.Proofs.Try.prog (porterref02_Common_E N) := mkEnv_ok mixed tys_ok (FnsOk.nil)

noncomputable def porterref02_Common_p2 (N : Nat) (a : (List UInt8)) (b : (List UInt8)) (n : Int) (k0 : Option Int) (k1 : Option Int) : Option Int :=
  cond (decide (n < (((List.length a) : Nat) : Int)))
  (cond (decide (n < (((List.length b) : Nat) : Int)))
    (cond (Go.Lift.inR n (List.length a))
      (cond (Go.Lift.inR n (List.length b))
        (cond ((((UInt8.toNat (List.getD a (Int.toNat n) (0 : UInt8))) : Nat) : Int) == (((UInt8.toNat (List.getD b (Int.toNat n) (0 : UInt8))) : Nat) : Int))
          (k0)
          (k1))
        (none))
      (none))
    (k1))
  (k1)

noncomputable def porterref02_Common_g2 (N : Nat) (x : denS [(0, .v .str), (0, .v .str), (3, .v (.int .i64))]) (K : Ex → List A → Option Int) : Option Int :=
  porterref02_Common_p2 N x.1 x.2.1 x.2.2.1 (K .normal (mkS [(0, .v .str), (0, .v .str), (3, .v (.int .i64))] 22 (x.1, x.2.1, x.2.2.1, ()))) (K (.exit 0) (mkS [(5, .v (.int .i64))] 22 (x.2.2.1, ())))

noncomputable def porterref02_Common_h2 (N : Nat) : Hd Int := fun st K => (unS [(0, .v .str), (0, .v .str), (3, .v (.int .i64))] 22 (restr [5, 0, 1] 0 st)).bind fun x => porterref02_Common_g2 N x K

noncomputable def porterref02_Common_t2 (N : Nat) : Tab Int := []

theorem porterref02_Common_ok2 {N : Nat} {c : Ctx} (hb : Base Go.Proofs.Try.prog (porterref02_Common_E N) c) : CodeOk Go.Proofs.Try.prog c (nodeAt porterref02_Common_body [0, 0, 0, 0, 1, 1]) (porterref02_Common_h2 N) :=
  piece_ok (s := [(0, .v .str), (0, .v .str), (3, .v (.int .i64))]) (m := 22) (g := porterref02_Common_g2 N) [5, 0, 1] (evN_sound hb N (porterref02_Common_t2 N) porterref02_Common_L porterref02_Common_body TabOk.nil [0, 0, 0, 0, 1, 1] _ rfl) (fun x K => by kernel_rfl)

noncomputable def porterref02_Common_s1 (N : Nat) (a : (List UInt8)) (b : (List UInt8)) (n : Int) (rec : Int → Option Int) (k0 : Int → Option Int) : Option Int :=
  porterref02_Common_p2 N a b n
  (rec (Go.IntKind.wrap Go.IntKind.i64 (n + (1 : Int))))
  (k0 n)

noncomputable def porterref02_Common_p1 (N : Nat) (a : (List UInt8)) (b : (List UInt8)) (n : Int) (k0 : Int → Option Int) : Option Int :=
  iter (fun (v : Int) r => porterref02_Common_s1 N a b v (fun n => (r n)) k0) N n

noncomputable def porterref02_Common_g1 (N : Nat) (i : ((List UInt8) × (List UInt8))) (v : Int) (r : Int → Option Int) (K : Ex → List A → Option Int) : Option Int :=
  porterref02_Common_s1 N i.1 i.2 v (fun n => (r n)) (fun a0 => (K (.exit 0) (mkS [(5, .v (.int .i64))] 22 (a0, ()))))

noncomputable def porterref02_Common_h1 (N : Nat) : Hd Int := fun st K => (unS [(0, .v .str), (0, .v .str), (3, .v (.int .i64))] 22 (restr [5, 0, 1] 0 st)).bind fun x => iter (fun v r => porterref02_Common_g1 N ((fun x => (x.1, x.2.1)) x) v r K) N ((fun x => x.2.2.1) x)

noncomputable def porterref02_Common_t1 (N : Nat) : Tab Int := [([0, 0, 0, 0, 1, 1], porterref02_Common_h2 N)]

theorem porterref02_Common_ok1 {N : Nat} {c : Ctx} (hb : Base Go.Proofs.Try.prog (porterref02_Common_E N) c) : CodeOk Go.Proofs.Try.prog c (nodeAt porterref02_Common_body [0, 0, 1, 1]) (porterref02_Common_h1 N) :=
  loop_ok (s := [(0, .v .str), (0, .v .str), (3, .v (.int .i64))]) (m := 22) (porterref02_Common_g1 N) [5, 0, 1] N (fun x => (x.1, x.2.1)) (fun x => x.2.2.1) (fun i v => (i.1, i.2, v, ())) (fun _ => rfl) (evN_sound hb N (porterref02_Common_t1 N) porterref02_Common_L porterref02_Common_body (TabOk.cons (porterref02_Common_ok2 hb) TabOk.nil) [0, 0, 0, 1, 1] _ rfl) (fun i v r K => by kernel_rfl)

noncomputable def porterref02_Common (N : Nat) (a : (List UInt8)) (b : (List UInt8)) : Option Int :=
  porterref02_Common_p1 N a b (0 : Int)
  (fun n => some n)

noncomputable def porterref02_Common_t (N : Nat) : Tab Int := [([0, 0, 1, 1], porterref02_Common_h1 N)]

theorem porterref02_Common_link (N : Nat) (x : denS [(0, .v .str), (0, .v .str)]) : evFX (porterref02_Common_E N) N (porterref02_Common_t N) porterref02_Common_L Go.Proofs.Try.f18 (mkS [(0, .v .str), (0, .v .str)] 0 x) (kRes (.v (.int .i64)) 2) = porterref02_Common N x.1 x.2.1 := by kernel_rfl

noncomputable def porterref02_Common_res (N : Nat) : List A → Res := resOf [(0, .v .str), (0, .v .str)] (fun x => porterref02_Common N x.1 x.2.1) (oRes (.v (.int .i64)) 2)

theorem porterref02_Common_ct (N : Nat) : Contract Go.Proofs.Try.prog noGlob 18 (porterref02_Common_res N) :=
  Contract.of (E := porterref02_Common_E N) (H := porterref02_Common_t N) (L := porterref02_Common_L) (N := N) (body := porterref02_Common_body) (K := (kRes (.v (.int .i64)) 2)) (porterref02_Common_Eok N) Go.Proofs.Try.func18 (by kernel_rfl) (by decide) (fun _ hb => (TabOk.cons (porterref02_Common_ok1 hb) TabOk.nil)) (fun x y h => by rw [porterref02_Common_link]; exact h) (kRes_ok (s := (.v (.int .i64))) (m := 2))

abbrev porterlaw02_OctetOrders_R : Type := Bool

noncomputable def porterlaw02_OctetOrders_body : Code := (Go.Proofs.Try.f3.body).getD .skip

noncomputable def porterlaw02_OctetOrders_L : List (List Nat × List Nat) := [([0], [0, 1]), ([0, 0, 1], [12, 0, 1]), ([1, 0, 1], [0, 1]), ([0, 0, 1, 0, 1], [4]), ([1, 0, 1, 0, 1], [4]), ([0, 1, 1], [4]), ([1, 1, 1], [4])]

noncomputable def porterlaw02_OctetOrders_E (N : Nat) : Env := mkEnv tys noGlob [(18, porterref02_Common_res N), (17, octet_Common_res N), (15, porterref02_Compare_res N), (13, porterlaw02_works_res N), (14, octet_Compare_res N), (16, octet_Equal_res N)] [] [] [] false

theorem porterlaw02_OctetOrders_Eok (N : Nat) : EnvOk Go.Proofs.Try.prog (porterlaw02_OctetOrders_E N) := mkEnv_ok mixed tys_ok (FnsOk.cons (porterref02_Common_ct N) (FnsOk.cons (octet_Common_ct N) (FnsOk.cons (porterref02_Compare_ct N) (FnsOk.cons (porterlaw02_works_ct N) (FnsOk.cons (octet_Compare_ct N) (FnsOk.cons (octet_Equal_ct N) (FnsOk.nil)))))))

noncomputable def porterlaw02_OctetOrders_p2 (N : Nat) (a : (List UInt8)) (b : (List UInt8)) (k0 : Bool → Option Bool) : Option Bool :=
  cond (decide ((2000 : Int) < (((List.length a) : Nat) : Int)))
  (k0 true)
  (k0 (decide ((2000 : Int) < (((List.length b) : Nat) : Int))))

noncomputable def porterlaw02_OctetOrders_g2 (N : Nat) (x : denS [(0, .v .str), (0, .v .str)]) (K : Ex → List A → Option Bool) : Option Bool :=
  porterlaw02_OctetOrders_p2 N x.1 x.2.1 (fun a2 => (K .normal (mkS [(0, .v .str), (0, .v .str), (10, .v .bool)] 29 (x.1, x.2.1, a2, ()))))

noncomputable def porterlaw02_OctetOrders_h2 (N : Nat) : Hd Bool := fun st K => (unS [(0, .v .str), (0, .v .str)] 40 (restr [0, 1] 0 st)).bind fun x => porterlaw02_OctetOrders_g2 N x K

noncomputable def porterlaw02_OctetOrders_t2 (N : Nat) : Tab Bool := []

theorem porterlaw02_OctetOrders_ok2 {N : Nat} {c : Ctx} (hb : Base Go.Proofs.Try.prog (porterlaw02_OctetOrders_E N) c) : CodeOk Go.Proofs.Try.prog c (nodeAt porterlaw02_OctetOrders_body [0, 0, 1]) (porterlaw02_OctetOrders_h2 N) :=
  piece_ok (s := [(0, .v .str), (0, .v .str)]) (m := 40) (g := porterlaw02_OctetOrders_g2 N) [0, 1] (evN_sound hb N (porterlaw02_OctetOrders_t2 N) porterlaw02_OctetOrders_L porterlaw02_OctetOrders_body TabOk.nil [0, 0, 1] _ rfl) (fun x K => by kernel_rfl)

noncomputable def porterlaw02_OctetOrders_p1 (N : Nat) (a : (List UInt8)) (b : (List UInt8)) (k0 : Bool → Option Bool) (k1 : Option Bool) : Option Bool :=
  porterlaw02_OctetOrders_p2 N a b
  (fun x12 => cond x12
    ((porterlaw02_works N).bind fun y =>
      k0 y)
    (k1))

noncomputable def porterlaw02_OctetOrders_g1 (N : Nat) (x : denS [(0, .v .str), (0, .v .str)]) (K : Ex → List A → Option Bool) : Option Bool :=
  porterlaw02_OctetOrders_p1 N x.1 x.2.1 (fun a0 => (K .ret (mkS [(4, .v .bool)] 37 (a0, ())))) (K .normal (mkS [(0, .v .str), (0, .v .str)] 40 (x.1, x.2.1, ())))

noncomputable def porterlaw02_OctetOrders_h1 (N : Nat) : Hd Bool := fun st K => (unS [(0, .v .str), (0, .v .str)] 40 (restr [0, 1] 0 st)).bind fun x => porterlaw02_OctetOrders_g1 N x K

noncomputable def porterlaw02_OctetOrders_t1 (N : Nat) : Tab Bool := [([0, 0, 1], porterlaw02_OctetOrders_h2 N)]

theorem porterlaw02_OctetOrders_ok1 {N : Nat} {c : Ctx} (hb : Base Go.Proofs.Try.prog (porterlaw02_OctetOrders_E N) c) : CodeOk Go.Proofs.Try.prog c (nodeAt porterlaw02_OctetOrders_body [0, 1]) (porterlaw02_OctetOrders_h1 N) :=
  piece_ok (s := [(0, .v .str), (0, .v .str)]) (m := 40) (g := porterlaw02_OctetOrders_g1 N) [0, 1] (evN_sound hb N (porterlaw02_OctetOrders_t1 N) porterlaw02_OctetOrders_L porterlaw02_OctetOrders_body (TabOk.cons (porterlaw02_OctetOrders_ok2 hb) TabOk.nil) [0, 1] _ rfl) (fun x K => by kernel_rfl)

noncomputable def porterlaw02_OctetOrders (N : Nat) (a : (List UInt8)) (b : (List UInt8)) : Option Bool :=
  porterlaw02_OctetOrders_p1 N a b
  (fun x4 => some x4)
  ((octet_Compare N a b).bind fun y =>
    (porterref02_Compare N a b).bind fun y1 =>
    cond (y == y1)
    ((octet_Equal N a b).bind fun y2 =>
      cond (y2 == (a == b))
      ((octet_Common N a b).bind fun y3 =>
        (porterref02_Common N a b).bind fun y4 =>
        cond (y3 == y4)
        ((porterlaw02_works N).bind fun y5 =>
          some y5)
        (some false))
      (some false))
    (some false))

noncomputable def porterlaw02_OctetOrders_t (N : Nat) : Tab Bool := [([0, 1], porterlaw02_OctetOrders_h1 N)]

theorem porterlaw02_OctetOrders_link (N : Nat) (x : denS [(0, .v .str), (0, .v .str)]) : evFX (porterlaw02_OctetOrders_E N) N (porterlaw02_OctetOrders_t N) porterlaw02_OctetOrders_L Go.Proofs.Try.f3 (mkS [(0, .v .str), (0, .v .str)] 0 x) (kRes (.v .bool) 2) = porterlaw02_OctetOrders N x.1 x.2.1 := by kernel_rfl

noncomputable def porterlaw02_OctetOrders_res (N : Nat) : List A → Res := resOf [(0, .v .str), (0, .v .str)] (fun x => porterlaw02_OctetOrders N x.1 x.2.1) (oRes (.v .bool) 2)

theorem porterlaw02_OctetOrders_ct (N : Nat) : Contract Go.Proofs.Try.prog noGlob 3 (porterlaw02_OctetOrders_res N) :=
  Contract.of (E := porterlaw02_OctetOrders_E N) (H := porterlaw02_OctetOrders_t N) (L := porterlaw02_OctetOrders_L) (N := N) (body := porterlaw02_OctetOrders_body) (K := (kRes (.v .bool) 2)) (porterlaw02_OctetOrders_Eok N) Go.Proofs.Try.func3 (by kernel_rfl) (by decide) (fun _ hb => (TabOk.cons (porterlaw02_OctetOrders_ok1 hb) TabOk.nil)) (fun x y h => by rw [porterlaw02_OctetOrders_link]; exact h) (kRes_ok (s := (.v .bool)) (m := 2))

abbrev porterref02_Byte_R : Type := (List UInt8)

noncomputable def porterref02_Byte_body : Code := (Go.Proofs.Try.f44.body).getD .skip

noncomputable def porterref02_Byte_L : List (List Nat × List Nat) := [([0], [0]), ([0, 1], [3]), ([0, 1, 1], [2]), ([1, 1, 1], [2])]

noncomputable def porterref02_Byte_E (N : Nat) : Env := mkEnv tys noGlob [] [] [] [] false

theorem porterref02_Byte_Eok (N : Nat) : EnvOk Go.Proofs.Try.prog (porterref02_Byte_E N) := mkEnv_ok mixed tys_ok (FnsOk.nil)

noncomputable def porterref02_Byte (N : Nat) (n : Int) : Option (List UInt8) :=
  some (Go.Lift.toStr ([(Go.IntKind.wrap Go.IntKind.u8 n)] : List Int))

noncomputable def porterref02_Byte_t (N : Nat) : Tab (List UInt8) := []

theorem porterref02_Byte_link (N : Nat) (x : denS [(0, .v (.int .i64))]) : evFX (porterref02_Byte_E N) N (porterref02_Byte_t N) porterref02_Byte_L Go.Proofs.Try.f44 (mkS [(0, .v (.int .i64))] 0 x) (kRes (.v .str) 1) = porterref02_Byte N x.1 := by kernel_rfl

noncomputable def porterref02_Byte_res (N : Nat) : List A → Res := resOf [(0, .v (.int .i64))] (fun x => porterref02_Byte N x.1) (oRes (.v .str) 1)

theorem porterref02_Byte_ct (N : Nat) : Contract Go.Proofs.Try.prog noGlob 44 (porterref02_Byte_res N) :=
  Contract.of (E := porterref02_Byte_E N) (H := porterref02_Byte_t N) (L := porterref02_Byte_L) (N := N) (body := porterref02_Byte_body) (K := (kRes (.v .str) 1)) (porterref02_Byte_Eok N) Go.Proofs.Try.func44 (by kernel_rfl) (by decide) (fun _ hb => TabOk.nil) (fun x y h => by rw [porterref02_Byte_link]; exact h) (kRes_ok (s := (.v .str)) (m := 1))

abbrev porterref02_Xor_R : Type := (List UInt8)

noncomputable def porterref02_Xor_body : Code := (Go.Proofs.Try.f20.body).getD .skip

noncomputable def porterref02_Xor_L : List (List Nat × List Nat) := [([0], [0, 1]), ([0, 1], [0, 1, 5]), ([0, 0, 1, 1], [6, 0, 1, 5]), ([0, 1, 0, 1, 1], [6, 0, 1, 5]), ([0, 0, 0, 0, 1, 0, 1, 1], [21, 0, 6, 1, 5]), ([1, 0, 0, 0, 1, 0, 1, 1], [0, 6, 1, 5]), ([1, 1, 0, 0, 0, 1, 0, 1, 1], [5]), ([0, 0, 0, 1, 0, 0, 1, 0, 1, 1], [7, 8, 9, 10, 5, 6, 0, 1]), ([0, 0, 1, 0, 0, 1, 0, 0, 1, 0, 1, 1], [11, 7, 8, 9, 10, 5, 6, 0, 1]), ([0, 1, 0, 1, 0, 0, 1, 0, 0, 1, 0, 1, 1], [11, 7, 8, 9, 10, 5, 6, 0, 1]), ([0, 0, 0, 0, 1, 0, 1, 0, 0, 1, 0, 0, 1, 0, 1, 1], [33, 7, 8, 9, 10, 11, 5, 6, 0, 1]), ([1, 0, 0, 0, 1, 0, 1, 0, 0, 1, 0, 0, 1, 0, 1, 1], [7, 8, 9, 10, 11, 5, 6, 0, 1]), ([1, 1, 0, 0, 0, 1, 0, 1, 0, 0, 1, 0, 0, 1, 0, 1, 1], [5, 9, 6, 0, 1]), ([0, 0, 0, 0, 1, 0, 0, 1, 0, 1, 0, 0, 1, 0, 0, 1, 0, 1, 1], [40, 9, 10, 7, 8, 11, 5, 6, 0, 1]), ([1, 0, 0, 0, 1, 0, 0, 1, 0, 1, 0, 0, 1, 0, 0, 1, 0, 1, 1], [7, 8, 10, 11, 9, 5, 6, 0, 1]), ([0, 1, 0, 0, 0, 1, 0, 0, 1, 0, 1, 0, 0, 1, 0, 0, 1, 0, 1, 1], [7, 8, 10, 11, 9, 5, 6, 0, 1]), ([0, 1, 0, 0, 1, 0, 0, 1, 0, 1, 0, 0, 1, 0, 0, 1, 0, 1, 1], [8, 10, 11, 7, 9, 5, 6, 0, 1]), ([0, 1, 1, 0, 0, 1, 0, 0, 1, 0, 1, 0, 0, 1, 0, 0, 1, 0, 1, 1], [10, 11, 7, 8, 9, 5, 6, 0, 1]), ([1, 1, 1, 0, 0, 1, 0, 0, 1, 0, 1, 0, 0, 1, 0, 0, 1, 0, 1, 1], [11, 7, 8, 9, 10, 5, 6, 0, 1]), ([0, 1, 0, 0, 1, 0, 1, 0, 0, 1, 0, 0, 1, 0, 1, 1], [11, 7, 8, 9, 10, 5, 6, 0, 1]), ([1, 1, 0, 0, 1, 0, 1, 0, 0, 1, 0, 0, 1, 0, 1, 1], [11, 7, 8, 9, 10, 5, 6, 0, 1]), ([1, 0, 1, 0, 0, 1, 0, 0, 1, 0, 1, 1], [5, 9, 6, 0, 1]), ([1, 1, 0, 0, 1, 0, 0, 1, 0, 1, 1], [6, 0, 1, 5]), ([0, 1, 0, 0, 1, 0, 1, 1], [6, 0, 1, 5]), ([1, 1, 0, 0, 1, 0, 1, 1], [6, 0, 1, 5]), ([1, 0, 1, 1], [5]), ([0, 1, 1, 1], [4]), ([1, 1, 1, 1], [4])]

noncomputable def porterref02_Xor_E (N : Nat) : Env := mkEnv tys noGlob [(44, porterref02_Byte_res N)] [] [] [] false

theorem porterref02_Xor_Eok (N : Nat) : EnvOk Go.Proofs.Try.prog (porterref02_Xor_E N) := mkEnv_ok mixed tys_ok (FnsOk.cons (porterref02_Byte_ct N) (FnsOk.nil))

noncomputable def porterref02_Xor_p2 (N : Nat) (a : (List UInt8)) (b : (List UInt8)) (out : (List UInt8)) (i : Int) (k0 : Option (List UInt8)) (k1 : Option (List UInt8)) : Option (List UInt8) :=
  cond (decide (i < (((List.length a) : Nat) : Int)))
  (cond (decide (i < (((List.length b) : Nat) : Int)))
    (k0)
    (k1))
  (k1)

noncomputable def porterref02_Xor_g2 (N : Nat) (x : denS [(0, .v .str), (0, .v .str), (3, .v .str), (0, .v (.int .i64))]) (K : Ex → List A → Option (List UInt8)) : Option (List UInt8) :=
  porterref02_Xor_p2 N x.1 x.2.1 x.2.2.1 x.2.2.2.1 (K .normal (mkS [(0, .v .str), (0, .v .str), (3, .v .str), (0, .v (.int .i64))] 48 (x.1, x.2.1, x.2.2.1, x.2.2.2.1, ()))) (K (.exit 0) (mkS [(5, .v .str)] 49 (x.2.2.1, ())))

noncomputable def porterref02_Xor_h2 (N : Nat) : Hd (List UInt8) := fun st K => (unS [(0, .v .str), (0, .v .str), (3, .v .str), (0, .v (.int .i64))] 48 (restr [6, 0, 1, 5] 0 st)).bind fun x => porterref02_Xor_g2 N x K

noncomputable def porterref02_Xor_t2 (N : Nat) : Tab (List UInt8) := []

theorem porterref02_Xor_ok2 {N : Nat} {c : Ctx} (hb : Base Go.Proofs.Try.prog (porterref02_Xor_E N) c) : CodeOk Go.Proofs.Try.prog c (nodeAt porterref02_Xor_body [0, 0, 0, 1, 0, 1, 1]) (porterref02_Xor_h2 N) :=
  piece_ok (s := [(0, .v .str), (0, .v .str), (3, .v .str), (0, .v (.int .i64))]) (m := 48) (g := porterref02_Xor_g2 N) [6, 0, 1, 5] (evN_sound hb N (porterref02_Xor_t2 N) porterref02_Xor_L porterref02_Xor_body TabOk.nil [0, 0, 0, 1, 0, 1, 1] _ rfl) (fun x K => by kernel_rfl)

noncomputable def porterref02_Xor_p5 (N : Nat) (a : (List UInt8)) (b : (List UInt8)) (out : (List UInt8)) (i : Int) (x7 : Int) (y : Int) (n : Int) (bit : Int) (k : Int) (k0 : Int → Option (List UInt8)) : Option (List UInt8) :=
  cond ((Int.tmod x7 (2 : Int)) != (Int.tmod y (2 : Int)))
  (k0 (Go.IntKind.wrap Go.IntKind.i64 (n + bit)))
  (k0 n)

noncomputable def porterref02_Xor_g5 (N : Nat) (x : denS [(0, .v .str), (0, .v .str), (3, .v .str), (0, .v (.int .i64)), (0, .v (.int .i64)), (0, .v (.int .i64)), (0, .v (.int .i64)), (0, .v (.int .i64)), (0, .v (.int .i64))]) (K : Ex → List A → Option (List UInt8)) : Option (List UInt8) :=
  porterref02_Xor_p5 N x.1 x.2.1 x.2.2.1 x.2.2.2.1 x.2.2.2.2.1 x.2.2.2.2.2.1 x.2.2.2.2.2.2.1 x.2.2.2.2.2.2.2.1 x.2.2.2.2.2.2.2.2.1 (fun a6 => (K .normal (mkS [(0, .v .str), (0, .v .str), (3, .v .str), (0, .v (.int .i64)), (0, .v (.int .i64)), (0, .v (.int .i64)), (0, .v (.int .i64)), (0, .v (.int .i64)), (0, .v (.int .i64))] 43 (x.1, x.2.1, x.2.2.1, x.2.2.2.1, x.2.2.2.2.1, x.2.2.2.2.2.1, a6, x.2.2.2.2.2.2.2.1, x.2.2.2.2.2.2.2.2.1, ()))))

noncomputable def porterref02_Xor_h5 (N : Nat) : Hd (List UInt8) := fun st K => (unS [(0, .v .str), (0, .v .str), (3, .v .str), (0, .v (.int .i64)), (0, .v (.int .i64)), (0, .v (.int .i64)), (0, .v (.int .i64)), (0, .v (.int .i64)), (0, .v (.int .i64))] 43 (restr [7, 8, 9, 10, 11, 5, 6, 0, 1] 0 st)).bind fun x => porterref02_Xor_g5 N x K

noncomputable def porterref02_Xor_t5 (N : Nat) : Tab (List UInt8) := []

theorem porterref02_Xor_ok5 {N : Nat} {c : Ctx} (hb : Base Go.Proofs.Try.prog (porterref02_Xor_E N) c) : CodeOk Go.Proofs.Try.prog c (nodeAt porterref02_Xor_body [0, 0, 0, 1, 0, 0, 1, 0, 1, 0, 0, 1, 0, 0, 1, 0, 1, 1]) (porterref02_Xor_h5 N) :=
  piece_ok (s := [(0, .v .str), (0, .v .str), (3, .v .str), (0, .v (.int .i64)), (0, .v (.int .i64)), (0, .v (.int .i64)), (0, .v (.int .i64)), (0, .v (.int .i64)), (0, .v (.int .i64))]) (m := 43) (g := porterref02_Xor_g5 N) [7, 8, 9, 10, 11, 5, 6, 0, 1] (evN_sound hb N (porterref02_Xor_t5 N) porterref02_Xor_L porterref02_Xor_body TabOk.nil [0, 0, 0, 1, 0, 0, 1, 0, 1, 0, 0, 1, 0, 0, 1, 0, 1, 1] _ rfl) (fun x K => by kernel_rfl)

noncomputable def porterref02_Xor_p4 (N : Nat) (a : (List UInt8)) (b : (List UInt8)) (out : (List UInt8)) (i : Int) (x7 : Int) (y : Int) (n : Int) (bit : Int) (k : Int) (k0 : Int → Int → Int → Int → Option (List UInt8)) : Option (List UInt8) :=
  porterref02_Xor_p5 N a b out i x7 y n bit k
  (fun n1 => k0 (Go.IntKind.wrap Go.IntKind.i64 (Int.tdiv x7 (2 : Int))) (Go.IntKind.wrap Go.IntKind.i64 (Int.tdiv y (2 : Int))) n1 (Go.IntKind.wrap Go.IntKind.i64 (bit * (2 : Int))))

noncomputable def porterref02_Xor_g4 (N : Nat) (x : denS [(0, .v .str), (0, .v .str), (3, .v .str), (0, .v (.int .i64)), (0, .v (.int .i64)), (0, .v (.int .i64)), (0, .v (.int .i64)), (0, .v (.int .i64)), (0, .v (.int .i64))]) (K : Ex → List A → Option (List UInt8)) : Option (List UInt8) :=
  porterref02_Xor_p4 N x.1 x.2.1 x.2.2.1 x.2.2.2.1 x.2.2.2.2.1 x.2.2.2.2.2.1 x.2.2.2.2.2.2.1 x.2.2.2.2.2.2.2.1 x.2.2.2.2.2.2.2.2.1 (fun a4 a5 a6 a7 => (K .normal (mkS [(0, .v .str), (0, .v .str), (3, .v .str), (0, .v (.int .i64)), (0, .v (.int .i64)), (0, .v (.int .i64)), (0, .v (.int .i64)), (0, .v (.int .i64)), (0, .v (.int .i64))] 43 (x.1, x.2.1, x.2.2.1, x.2.2.2.1, a4, a5, a6, a7, x.2.2.2.2.2.2.2.2.1, ()))))

noncomputable def porterref02_Xor_h4 (N : Nat) : Hd (List UInt8) := fun st K => (unS [(0, .v .str), (0, .v .str), (3, .v .str), (0, .v (.int .i64)), (0, .v (.int .i64)), (0, .v (.int .i64)), (0, .v (.int .i64)), (0, .v (.int .i64)), (0, .v (.int .i64))] 43 (restr [7, 8, 9, 10, 11, 5, 6, 0, 1] 0 st)).bind fun x => porterref02_Xor_g4 N x K

noncomputable def porterref02_Xor_t4 (N : Nat) : Tab (List UInt8) := [([0, 0, 0, 1, 0, 0, 1, 0, 1, 0, 0, 1, 0, 0, 1, 0, 1, 1], porterref02_Xor_h5 N)]

theorem porterref02_Xor_ok4 {N : Nat} {c : Ctx} (hb : Base Go.Proofs.Try.prog (porterref02_Xor_E N) c) : CodeOk Go.Proofs.Try.prog c (nodeAt porterref02_Xor_body [0, 1, 0, 0, 1, 0, 1, 0, 0, 1, 0, 0, 1, 0, 1, 1]) (porterref02_Xor_h4 N) :=
  piece_ok (s := [(0, .v .str), (0, .v .str), (3, .v .str), (0, .v (.int .i64)), (0, .v (.int .i64)), (0, .v (.int .i64)), (0, .v (.int .i64)), (0, .v (.int .i64)), (0, .v (.int .i64))]) (m := 43) (g := porterref02_Xor_g4 N) [7, 8, 9, 10, 11, 5, 6, 0, 1] (evN_sound hb N (porterref02_Xor_t4 N) porterref02_Xor_L porterref02_Xor_body (TabOk.cons (porterref02_Xor_ok5 hb) TabOk.nil) [0, 1, 0, 0, 1, 0, 1, 0, 0, 1, 0, 0, 1, 0, 1, 1] _ rfl) (fun x K => by kernel_rfl)

noncomputable def porterref02_Xor_s3 (N : Nat) (a : (List UInt8)) (b : (List UInt8)) (out : (List UInt8)) (i : Int) (x7 : Int) (y : Int) (n : Int) (bit : Int) (k : Int) (rec : Int → Int → Int → Int → Int → Option (List UInt8)) (k0 : Int → Option (List UInt8)) : Option (List UInt8) :=
  cond (decide (k < (8 : Int)))
  (porterref02_Xor_p4 N a b out i x7 y n bit k
    (fun x71 y1 n1 bit1 => rec x71 y1 n1 bit1 (Go.IntKind.wrap Go.IntKind.i64 (k + (1 : Int)))))
  (k0 n)

noncomputable def porterref02_Xor_p3 (N : Nat) (a : (List UInt8)) (b : (List UInt8)) (out : (List UInt8)) (i : Int) (x7 : Int) (y : Int) (n : Int) (bit : Int) (k : Int) (k0 : Int → Option (List UInt8)) : Option (List UInt8) :=
  iter (fun (v : (Int × Int × Int × Int × Int)) r => porterref02_Xor_s3 N a b out i v.1 v.2.1 v.2.2.1 v.2.2.2.1 v.2.2.2.2 (fun x7 y n bit k => (r (x7, y, n, bit, k))) k0) N (x7, y, n, bit, k)

noncomputable def porterref02_Xor_g3 (N : Nat) (i : ((List UInt8) × (List UInt8) × (List UInt8) × Int)) (v : (Int × Int × Int × Int × Int)) (r : (Int × Int × Int × Int × Int) → Option (List UInt8)) (K : Ex → List A → Option (List UInt8)) : Option (List UInt8) :=
  porterref02_Xor_s3 N i.1 i.2.1 i.2.2.1 i.2.2.2 v.1 v.2.1 v.2.2.1 v.2.2.2.1 v.2.2.2.2 (fun x7 y n bit k => (r (x7, y, n, bit, k))) (fun a4 => (K (.exit 2) (mkS [(0, .v .str), (0, .v .str), (3, .v .str), (0, .v (.int .i64)), (2, .v (.int .i64))] 45 (i.1, i.2.1, i.2.2.1, i.2.2.2, a4, ()))))

noncomputable def porterref02_Xor_h3 (N : Nat) : Hd (List UInt8) := fun st K => (unS [(0, .v .str), (0, .v .str), (3, .v .str), (0, .v (.int .i64)), (0, .v (.int .i64)), (0, .v (.int .i64)), (0, .v (.int .i64)), (0, .v (.int .i64)), (0, .v (.int .i64))] 43 (restr [11, 7, 8, 9, 10, 5, 6, 0, 1] 0 st)).bind fun x => iter (fun v r => porterref02_Xor_g3 N ((fun x => (x.1, x.2.1, x.2.2.1, x.2.2.2.1)) x) v r K) N ((fun x => (x.2.2.2.2.1, x.2.2.2.2.2.1, x.2.2.2.2.2.2.1, x.2.2.2.2.2.2.2.1, x.2.2.2.2.2.2.2.2.1)) x)

noncomputable def porterref02_Xor_t3 (N : Nat) : Tab (List UInt8) := [([0, 1, 0, 0, 1, 0, 1, 0, 0, 1, 0, 0, 1, 0, 1, 1], porterref02_Xor_h4 N)]

theorem porterref02_Xor_ok3 {N : Nat} {c : Ctx} (hb : Base Go.Proofs.Try.prog (porterref02_Xor_E N) c) : CodeOk Go.Proofs.Try.prog c (nodeAt porterref02_Xor_body [0, 1, 0, 1, 0, 0, 1, 0, 0, 1, 0, 1, 1]) (porterref02_Xor_h3 N) :=
  loop_ok (s := [(0, .v .str), (0, .v .str), (3, .v .str), (0, .v (.int .i64)), (0, .v (.int .i64)), (0, .v (.int .i64)), (0, .v (.int .i64)), (0, .v (.int .i64)), (0, .v (.int .i64))]) (m := 43) (porterref02_Xor_g3 N) [11, 7, 8, 9, 10, 5, 6, 0, 1] N (fun x => (x.1, x.2.1, x.2.2.1, x.2.2.2.1)) (fun x => (x.2.2.2.2.1, x.2.2.2.2.2.1, x.2.2.2.2.2.2.1, x.2.2.2.2.2.2.2.1, x.2.2.2.2.2.2.2.2.1)) (fun i v => (i.1, i.2.1, i.2.2.1, i.2.2.2, v.1, v.2.1, v.2.2.1, v.2.2.2.1, v.2.2.2.2, ())) (fun _ => rfl) (evN_sound hb N (porterref02_Xor_t3 N) porterref02_Xor_L porterref02_Xor_body (TabOk.cons (porterref02_Xor_ok4 hb) TabOk.nil) [0, 0, 1, 0, 1, 0, 0, 1, 0, 0, 1, 0, 1, 1] _ rfl) (fun i v r K => by kernel_rfl)

noncomputable def porterref02_Xor_s1 (N : Nat) (a : (List UInt8)) (b : (List UInt8)) (out : (List UInt8)) (i : Int) (rec : (List UInt8) → Int → Option (List UInt8)) (k0 : (List UInt8) → Option (List UInt8)) : Option (List UInt8) :=
  porterref02_Xor_p2 N a b out i
  (cond (Go.Lift.inR i (List.length a))
    (cond (Go.Lift.inR i (List.length b))
      (porterref02_Xor_p3 N a b out i (Go.IntKind.wrap Go.IntKind.i64 (((UInt8.toNat (List.getD a (Int.toNat i) (0 : UInt8))) : Nat) : Int)) (Go.IntKind.wrap Go.IntKind.i64 (((UInt8.toNat (List.getD b (Int.toNat i) (0 : UInt8))) : Nat) : Int)) (0 : Int) (1 : Int) (0 : Int)
        (fun n => cond (decide (((List.length out) + (List.length (Go.Lift.toStr ([(Go.IntKind.wrap Go.IntKind.u8 n)] : List Int)))) ≤ 9223372036854775807))
          (rec (out ++ (Go.Lift.toStr ([(Go.IntKind.wrap Go.IntKind.u8 n)] : List Int))) (Go.IntKind.wrap Go.IntKind.i64 (i + (1 : Int))))
          (none)))
      (none))
    (none))
  (k0 out)

noncomputable def porterref02_Xor_p1 (N : Nat) (a : (List UInt8)) (b : (List UInt8)) (out : (List UInt8)) (i : Int) (k0 : (List UInt8) → Option (List UInt8)) : Option (List UInt8) :=
  iter (fun (v : ((List UInt8) × Int)) r => porterref02_Xor_s1 N a b v.1 v.2 (fun out i => (r (out, i))) k0) N (out, i)

noncomputable def porterref02_Xor_g1 (N : Nat) (i : ((List UInt8) × (List UInt8))) (v : ((List UInt8) × Int)) (r : ((List UInt8) × Int) → Option (List UInt8)) (K : Ex → List A → Option (List UInt8)) : Option (List UInt8) :=
  porterref02_Xor_s1 N i.1 i.2 v.1 v.2 (fun out i => (r (out, i))) (fun a0 => (K (.exit 0) (mkS [(5, .v .str)] 49 (a0, ()))))

noncomputable def porterref02_Xor_h1 (N : Nat) : Hd (List UInt8) := fun st K => (unS [(0, .v .str), (0, .v .str), (3, .v .str), (0, .v (.int .i64))] 48 (restr [6, 0, 1, 5] 0 st)).bind fun x => iter (fun v r => porterref02_Xor_g1 N ((fun x => (x.1, x.2.1)) x) v r K) N ((fun x => (x.2.2.1, x.2.2.2.1)) x)

noncomputable def porterref02_Xor_t1 (N : Nat) : Tab (List UInt8) := [([0, 0, 0, 1, 0, 1, 1], porterref02_Xor_h2 N), ([0, 1, 0, 1, 0, 0, 1, 0, 0, 1, 0, 1, 1], porterref02_Xor_h3 N)]

theorem porterref02_Xor_ok1 {N : Nat} {c : Ctx} (hb : Base Go.Proofs.Try.prog (porterref02_Xor_E N) c) : CodeOk Go.Proofs.Try.prog c (nodeAt porterref02_Xor_body [0, 1, 0, 1, 1]) (porterref02_Xor_h1 N) :=
  loop_ok (s := [(0, .v .str), (0, .v .str), (3, .v .str), (0, .v (.int .i64))]) (m := 48) (porterref02_Xor_g1 N) [6, 0, 1, 5] N (fun x => (x.1, x.2.1)) (fun x => (x.2.2.1, x.2.2.2.1)) (fun i v => (i.1, i.2, v.1, v.2, ())) (fun _ => rfl) (evN_sound hb N (porterref02_Xor_t1 N) porterref02_Xor_L porterref02_Xor_body (TabOk.cons (porterref02_Xor_ok2 hb) (TabOk.cons (porterref02_Xor_ok3 hb) TabOk.nil)) [0, 0, 1, 0, 1, 1] _ rfl) (fun i v r K => by kernel_rfl)

noncomputable def porterref02_Xor (N : Nat) (a : (List UInt8)) (b : (List UInt8)) : Option (List UInt8) :=
  porterref02_Xor_p1 N a b ([] : List UInt8) (0 : Int)
  (fun out => some out)

noncomputable def porterref02_Xor_t (N : Nat) : Tab (List UInt8) := [([0, 1, 0, 1, 1], porterref02_Xor_h1 N)]

theorem porterref02_Xor_link (N : Nat) (x : denS [(0, .v .str), (0, .v .str)]) : evFX (porterref02_Xor_E N) N (porterref02_Xor_t N) porterref02_Xor_L Go.Proofs.Try.f20 (mkS [(0, .v .str), (0, .v .str)] 0 x) (kRes (.v .str) 2) = porterref02_Xor N x.1 x.2.1 := by kernel_rfl

noncomputable def porterref02_Xor_res (N : Nat) : List A → Res := resOf [(0, .v .str), (0, .v .str)] (fun x => porterref02_Xor N x.1 x.2.1) (oRes (.v .str) 2)

theorem porterref02_Xor_ct (N : Nat) : Contract Go.Proofs.Try.prog noGlob 20 (porterref02_Xor_res N) :=
  Contract.of (E := porterref02_Xor_E N) (H := porterref02_Xor_t N) (L := porterref02_Xor_L) (N := N) (body := porterref02_Xor_body) (K := (kRes (.v .str) 2)) (porterref02_Xor_Eok N) Go.Proofs.Try.func20 (by kernel_rfl) (by decide) (fun _ hb => (TabOk.cons (porterref02_Xor_ok1 hb) TabOk.nil)) (fun x y h => by rw [porterref02_Xor_link]; exact h) (kRes_ok (s := (.v .str)) (m := 2))

abbrev octet_Pad_R : Type := (List UInt8)

noncomputable def octet_Pad_body : Code := (Go.Proofs.Try.f21.body).getD .skip

noncomputable def octet_Pad_L : List (List Nat × List Nat) := [([0], [1, 0]), ([0, 1], [1, 0]), ([0, 0, 1, 1], [10, 0, 1]), ([1, 0, 1, 1], [0, 1]), ([0, 0, 1, 0, 1, 1], [4]), ([1, 0, 1, 0, 1, 1], [4]), ([0, 1, 1, 1], [4]), ([1, 1, 1, 1], [4])]

noncomputable def octet_Pad_E (N : Nat) : Env := mkEnv tys noGlob [] [] [] [] false

theorem octet_Pad_Eok (N : Nat) : EnvOk Go.Proofs.Try.prog (octet_Pad_E N) := mkEnv_ok mixed tys_ok (FnsOk.nil)

noncomputable def octet_Pad (N : Nat) (s : (List UInt8)) (n : Int) : Option (List UInt8) :=
  cond (decide ((if ((65536 : Int) < n) then (65536 : Int) else n) ≤ (((List.length s) : Nat) : Int)))
  (some s)
  (cond (decide (((0 : Int) ≤ (Go.IntKind.wrap Go.IntKind.i64 ((if ((65536 : Int) < n) then (65536 : Int) else n) - (((List.length s) : Nat) : Int)))) ∧ (((Go.IntKind.wrap Go.IntKind.i64 ((if ((65536 : Int) < n) then (65536 : Int) else n) - (((List.length s) : Nat) : Int))) ≤ (Go.IntKind.wrap Go.IntKind.i64 ((if ((65536 : Int) < n) then (65536 : Int) else n) - (((List.length s) : Nat) : Int)))) ∧ ((((Go.IntKind.wrap Go.IntKind.i64 ((if ((65536 : Int) < n) then (65536 : Int) else n) - (((List.length s) : Nat) : Int))) * (1 : Int)) ≤ (281474976710656 : Int)) ∧ ((Go.IntKind.wrap Go.IntKind.i64 ((if ((65536 : Int) < n) then (65536 : Int) else n) - (((List.length s) : Nat) : Int))) ≤ (9223372036854775807 : Int))))))
    (cond (decide (((List.length s) + (List.length (Go.Lift.toStr (List.replicate (Int.toNat (Go.IntKind.wrap Go.IntKind.i64 ((if ((65536 : Int) < n) then (65536 : Int) else n) - (((List.length s) : Nat) : Int)))) (0 : Int))))) ≤ 9223372036854775807))
      (some (s ++ (Go.Lift.toStr (List.replicate (Int.toNat (Go.IntKind.wrap Go.IntKind.i64 ((if ((65536 : Int) < n) then (65536 : Int) else n) - (((List.length s) : Nat) : Int)))) (0 : Int)))))
      (none))
    (none))

noncomputable def octet_Pad_t (N : Nat) : Tab (List UInt8) := []

theorem octet_Pad_link (N : Nat) (x : denS [(0, .v .str), (0, .v (.int .i64))]) : evFX (octet_Pad_E N) N (octet_Pad_t N) octet_Pad_L Go.Proofs.Try.f21 (mkS [(0, .v .str), (0, .v (.int .i64))] 0 x) (kRes (.v .str) 2) = octet_Pad N x.1 x.2.1 := by kernel_rfl

noncomputable def octet_Pad_res (N : Nat) : List A → Res := resOf [(0, .v .str), (0, .v (.int .i64))] (fun x => octet_Pad N x.1 x.2.1) (oRes (.v .str) 2)

theorem octet_Pad_ct (N : Nat) : Contract Go.Proofs.Try.prog noGlob 21 (octet_Pad_res N) :=
  Contract.of (E := octet_Pad_E N) (H := octet_Pad_t N) (L := octet_Pad_L) (N := N) (body := octet_Pad_body) (K := (kRes (.v .str) 2)) (octet_Pad_Eok N) Go.Proofs.Try.func21 (by kernel_rfl) (by decide) (fun _ hb => TabOk.nil) (fun x y h => by rw [octet_Pad_link]; exact h) (kRes_ok (s := (.v .str)) (m := 2))

abbrev porterref02_Pad_R : Type := (List UInt8)

noncomputable def porterref02_Pad_body : Code := (Go.Proofs.Try.f22.body).getD .skip

noncomputable def porterref02_Pad_L : List (List Nat × List Nat) := [([0], [1, 0]), ([0, 0, 1], [7, 0, 1]), ([1, 0, 1], [0, 1]), ([0, 1, 0, 1], [0, 1]), ([0, 0, 1, 1], [11, 0, 1]), ([1, 0, 1, 1], [1, 0]), ([0, 0, 1, 0, 1, 1], [4]), ([1, 0, 1, 0, 1, 1], [4]), ([0, 1, 1, 1], [0, 5]), ([0, 1, 1, 1, 1], [4]), ([1, 1, 1, 1, 1], [4])]

noncomputable def porterref02_Pad_E (N : Nat) : Env := mkEnv tys noGlob [] [] [] [] false

theorem porterref02_Pad_Eok (N : Nat) : EnvOk Go.Proofs.Try.prog (porterref02_Pad_E N) := mkEnv_ok mixed tys_ok (FnsOk.nil)

noncomputable def porterref02_Pad_p1 (N : Nat) (s : (List UInt8)) (n : Int) (k0 : Int → Option (List UInt8)) : Option (List UInt8) :=
  cond (decide ((65536 : Int) < n))
  (k0 (65536 : Int))
  (k0 n)

noncomputable def porterref02_Pad_g1 (N : Nat) (x : denS [(0, .v .str), (0, .v (.int .i64))]) (K : Ex → List A → Option (List UInt8)) : Option (List UInt8) :=
  porterref02_Pad_p1 N x.1 x.2.1 (fun a1 => (K .normal (mkS [(0, .v .str), (0, .v (.int .i64))] 20 (x.1, a1, ()))))

noncomputable def porterref02_Pad_h1 (N : Nat) : Hd (List UInt8) := fun st K => (unS [(0, .v .str), (0, .v (.int .i64))] 20 (restr [1, 0] 0 st)).bind fun x => porterref02_Pad_g1 N x K

noncomputable def porterref02_Pad_t1 (N : Nat) : Tab (List UInt8) := []

theorem porterref02_Pad_ok1 {N : Nat} {c : Ctx} (hb : Base Go.Proofs.Try.prog (porterref02_Pad_E N) c) : CodeOk Go.Proofs.Try.prog c (nodeAt porterref02_Pad_body [0, 1]) (porterref02_Pad_h1 N) :=
  piece_ok (s := [(0, .v .str), (0, .v (.int .i64))]) (m := 20) (g := porterref02_Pad_g1 N) [1, 0] (evN_sound hb N (porterref02_Pad_t1 N) porterref02_Pad_L porterref02_Pad_body TabOk.nil [0, 1] _ rfl) (fun x K => by kernel_rfl)

noncomputable def porterref02_Pad (N : Nat) (s : (List UInt8)) (n : Int) : Option (List UInt8) :=
  porterref02_Pad_p1 N s n
  (fun n1 => cond (decide (n1 ≤ (((List.length s) : Nat) : Int)))
    (some s)
    (cond (decide (((0 : Int) ≤ (Go.IntKind.wrap Go.IntKind.i64 (n1 - (((List.length s) : Nat) : Int)))) ∧ (((Go.IntKind.wrap Go.IntKind.i64 (n1 - (((List.length s) : Nat) : Int))) ≤ (Go.IntKind.wrap Go.IntKind.i64 (n1 - (((List.length s) : Nat) : Int)))) ∧ ((((Go.IntKind.wrap Go.IntKind.i64 (n1 - (((List.length s) : Nat) : Int))) * (1 : Int)) ≤ (281474976710656 : Int)) ∧ ((Go.IntKind.wrap Go.IntKind.i64 (n1 - (((List.length s) : Nat) : Int))) ≤ (9223372036854775807 : Int))))))
      (cond (decide (((List.length s) + (List.length (Go.Lift.toStr (List.replicate (Int.toNat (Go.IntKind.wrap Go.IntKind.i64 (n1 - (((List.length s) : Nat) : Int)))) (0 : Int))))) ≤ 9223372036854775807))
        (some (s ++ (Go.Lift.toStr (List.replicate (Int.toNat (Go.IntKind.wrap Go.IntKind.i64 (n1 - (((List.length s) : Nat) : Int)))) (0 : Int)))))
        (none))
      (none)))

noncomputable def porterref02_Pad_t (N : Nat) : Tab (List UInt8) := [([0, 1], porterref02_Pad_h1 N)]

theorem porterref02_Pad_link (N : Nat) (x : denS [(0, .v .str), (0, .v (.int .i64))]) : evFX (porterref02_Pad_E N) N (porterref02_Pad_t N) porterref02_Pad_L Go.Proofs.Try.f22 (mkS [(0, .v .str), (0, .v (.int .i64))] 0 x) (kRes (.v .str) 2) = porterref02_Pad N x.1 x.2.1 := by kernel_rfl

noncomputable def porterref02_Pad_res (N : Nat) : List A → Res := resOf [(0, .v .str), (0, .v (.int .i64))] (fun x => porterref02_Pad N x.1 x.2.1) (oRes (.v .str) 2)

theorem porterref02_Pad_ct (N : Nat) : Contract Go.Proofs.Try.prog noGlob 22 (porterref02_Pad_res N) :=
  Contract.of (E := porterref02_Pad_E N) (H := porterref02_Pad_t N) (L := porterref02_Pad_L) (N := N) (body := porterref02_Pad_body) (K := (kRes (.v .str) 2)) (porterref02_Pad_Eok N) Go.Proofs.Try.func22 (by kernel_rfl) (by decide) (fun _ hb => (TabOk.cons (porterref02_Pad_ok1 hb) TabOk.nil)) (fun x y h => by rw [porterref02_Pad_link]; exact h) (kRes_ok (s := (.v .str)) (m := 2))

abbrev porterref02_Cut_R : Type := (List (List UInt8))

noncomputable def porterref02_Cut_body : Code := (Go.Proofs.Try.f25.body).getD .skip

noncomputable def porterref02_Cut_L : List (List Nat × List Nat) := [([0], [1, 0]), ([0, 1], [1, 0, 5]), ([0, 1, 1], [1, 6, 0, 5]), ([0, 0, 1, 1, 1], [1, 6, 0, 5]), ([0, 0, 0, 0, 0, 1, 1, 1], [14, 1, 0, 6, 5]), ([1, 0, 0, 0, 0, 1, 1, 1], [1, 0, 6, 5]), ([1, 1, 0, 0, 0, 0, 1, 1, 1], [5]), ([0, 0, 0, 1, 0, 0, 0, 1, 1, 1], [20, 5, 0, 6, 1]), ([1, 0, 0, 1, 0, 0, 0, 1, 1, 1], [5, 0, 6, 1]), ([0, 0, 1, 0, 0, 1, 0, 0, 0, 1, 1, 1], [4]), ([1, 0, 1, 0, 0, 1, 0, 0, 0, 1, 1, 1], [4]), ([0, 1, 0, 1, 0, 0, 0, 1, 1, 1], [6, 1, 0, 5]), ([1, 1, 0, 1, 0, 0, 0, 1, 1, 1], [1, 6, 0, 5]), ([1, 0, 0, 0, 1, 1, 1], [1, 6, 0, 5]), ([0, 1, 1, 1], [5]), ([0, 1, 1, 1, 1], [4]), ([1, 1, 1, 1, 1], [4])]

noncomputable def porterref02_Cut_E (N : Nat) : Env := mkEnv tys noGlob [] [(5, .str), (4, .str)] [] [] false

theorem porterref02_Cut_Eok (N : Nat) : EnvOk Go.Proofs.Try.prog (porterref02_Cut_E N) := mkEnv_ok mixed tys_ok (FnsOk.nil)

noncomputable def porterref02_Cut_p2 (N : Nat) (s : (List UInt8)) (size : Int) (out : (List (List UInt8))) (at_ : Int) (k0 : Option (List (List UInt8))) (k1 : Option (List (List UInt8))) : Option (List (List UInt8)) :=
  cond (decide ((0 : Int) < size))
  (cond (decide (at_ < (((List.length s) : Nat) : Int)))
    (k0)
    (k1))
  (k1)

noncomputable def porterref02_Cut_g2 (N : Nat) (x : denS [(0, .v .str), (0, .v (.int .i64)), (3, .row .str), (0, .v (.int .i64))]) (K : Ex → List A → Option (List (List UInt8))) : Option (List (List UInt8)) :=
  porterref02_Cut_p2 N x.1 x.2.1 x.2.2.1 x.2.2.2.1 (K .normal (mkS [(0, .v .str), (0, .v (.int .i64)), (3, .row .str), (0, .v (.int .i64))] 33 (x.1, x.2.1, x.2.2.1, x.2.2.2.1, ()))) (K (.exit 0) (mkS [(5, .row .str)] 34 (x.2.2.1, ())))

noncomputable def porterref02_Cut_h2 (N : Nat) : Hd (List (List UInt8)) := fun st K => (unS [(0, .v .str), (0, .v (.int .i64)), (3, .row .str), (0, .v (.int .i64))] 33 (restr [1, 6, 0, 5] 0 st)).bind fun x => porterref02_Cut_g2 N x K

noncomputable def porterref02_Cut_t2 (N : Nat) : Tab (List (List UInt8)) := []

theorem porterref02_Cut_ok2 {N : Nat} {c : Ctx} (hb : Base Go.Proofs.Try.prog (porterref02_Cut_E N) c) : CodeOk Go.Proofs.Try.prog c (nodeAt porterref02_Cut_body [0, 0, 0, 0, 1, 1, 1]) (porterref02_Cut_h2 N) :=
  piece_ok (s := [(0, .v .str), (0, .v (.int .i64)), (3, .row .str), (0, .v (.int .i64))]) (m := 33) (g := porterref02_Cut_g2 N) [1, 6, 0, 5] (evN_sound hb N (porterref02_Cut_t2 N) porterref02_Cut_L porterref02_Cut_body TabOk.nil [0, 0, 0, 0, 1, 1, 1] _ rfl) (fun x K => by kernel_rfl)

noncomputable def porterref02_Cut_s1 (N : Nat) (s : (List UInt8)) (size : Int) (out : (List (List UInt8))) (at_ : Int) (rec : (List (List UInt8)) → Int → Option (List (List UInt8))) (k0 : (List (List UInt8)) → Option (List (List UInt8))) (k1 : (List (List UInt8)) → Option (List (List UInt8))) : Option (List (List UInt8)) :=
  porterref02_Cut_p2 N s size out at_
  (cond (decide ((Go.IntKind.wrap Go.IntKind.i64 ((((List.length s) : Nat) : Int) - at_)) ≤ size))
    (cond (decide (((0 : Int) ≤ at_) ∧ (at_ ≤ (((List.length s) : Nat) : Int))))
      (cond (decide ((((List.length out) + 1) * 16) ≤ 70368744177664))
        (k0 (out ++ ([(Go.Lift.cut s (Int.toNat at_) (List.length s))] : List (List UInt8))))
        (none))
      (none))
    (cond (decide (((0 : Int) ≤ (Go.IntKind.wrap Go.IntKind.i64 (at_ + size))) ∧ ((Go.IntKind.wrap Go.IntKind.i64 (at_ + size)) ≤ (((List.length s) : Nat) : Int))))
      (cond (decide (((0 : Int) ≤ at_) ∧ (at_ ≤ (Go.IntKind.wrap Go.IntKind.i64 (at_ + size)))))
        (cond (decide ((((List.length out) + 1) * 16) ≤ 70368744177664))
          (rec (out ++ ([(Go.Lift.cut s (Int.toNat at_) (Int.toNat (Go.IntKind.wrap Go.IntKind.i64 (at_ + size))))] : List (List UInt8))) (Go.IntKind.wrap Go.IntKind.i64 (at_ + size)))
          (none))
        (none))
      (none)))
  (k1 out)

noncomputable def porterref02_Cut_p1 (N : Nat) (s : (List UInt8)) (size : Int) (out : (List (List UInt8))) (at_ : Int) (k0 : (List (List UInt8)) → Option (List (List UInt8))) (k1 : (List (List UInt8)) → Option (List (List UInt8))) : Option (List (List UInt8)) :=
  iter (fun (v : ((List (List UInt8)) × Int)) r => porterref02_Cut_s1 N s size v.1 v.2 (fun out at_ => (r (out, at_))) k0 k1) N (out, at_)

noncomputable def porterref02_Cut_g1 (N : Nat) (i : ((List UInt8) × Int)) (v : ((List (List UInt8)) × Int)) (r : ((List (List UInt8)) × Int) → Option (List (List UInt8))) (K : Ex → List A → Option (List (List UInt8))) : Option (List (List UInt8)) :=
  porterref02_Cut_s1 N i.1 i.2 v.1 v.2 (fun out at_ => (r (out, at_))) (fun a0 => (K .ret (mkS [(4, .row .str)] 35 (a0, ())))) (fun a0 => (K (.exit 0) (mkS [(5, .row .str)] 34 (a0, ()))))

noncomputable def porterref02_Cut_h1 (N : Nat) : Hd (List (List UInt8)) := fun st K => (unS [(0, .v .str), (0, .v (.int .i64)), (3, .row .str), (0, .v (.int .i64))] 33 (restr [1, 6, 0, 5] 0 st)).bind fun x => iter (fun v r => porterref02_Cut_g1 N ((fun x => (x.1, x.2.1)) x) v r K) N ((fun x => (x.2.2.1, x.2.2.2.1)) x)

noncomputable def porterref02_Cut_t1 (N : Nat) : Tab (List (List UInt8)) := [([0, 0, 0, 0, 1, 1, 1], porterref02_Cut_h2 N)]

theorem porterref02_Cut_ok1 {N : Nat} {c : Ctx} (hb : Base Go.Proofs.Try.prog (porterref02_Cut_E N) c) : CodeOk Go.Proofs.Try.prog c (nodeAt porterref02_Cut_body [0, 0, 1, 1, 1]) (porterref02_Cut_h1 N) :=
  loop_ok (s := [(0, .v .str), (0, .v (.int .i64)), (3, .row .str), (0, .v (.int .i64))]) (m := 33) (porterref02_Cut_g1 N) [1, 6, 0, 5] N (fun x => (x.1, x.2.1)) (fun x => (x.2.2.1, x.2.2.2.1)) (fun i v => (i.1, i.2, v.1, v.2, ())) (fun _ => rfl) (evN_sound hb N (porterref02_Cut_t1 N) porterref02_Cut_L porterref02_Cut_body (TabOk.cons (porterref02_Cut_ok2 hb) TabOk.nil) [0, 0, 0, 1, 1, 1] _ rfl) (fun i v r K => by kernel_rfl)

noncomputable def porterref02_Cut (N : Nat) (s : (List UInt8)) (size : Int) : Option (List (List UInt8)) :=
  porterref02_Cut_p1 N s size ([] : List (List UInt8)) (0 : Int)
  (fun x4 => some x4)
  (fun out => some out)

noncomputable def porterref02_Cut_t (N : Nat) : Tab (List (List UInt8)) := [([0, 0, 1, 1, 1], porterref02_Cut_h1 N)]

theorem porterref02_Cut_link (N : Nat) (x : denS [(0, .v .str), (0, .v (.int .i64))]) : evFX (porterref02_Cut_E N) N (porterref02_Cut_t N) porterref02_Cut_L Go.Proofs.Try.f25 (mkS [(0, .v .str), (0, .v (.int .i64))] 0 x) (kRes (.v (.sl .str)) 2) = porterref02_Cut N x.1 x.2.1 := by kernel_rfl

noncomputable def porterref02_Cut_res (N : Nat) : List A → Res := resOf [(0, .v .str), (0, .v (.int .i64))] (fun x => porterref02_Cut N x.1 x.2.1) (oRes (.v (.sl .str)) 2)

theorem porterref02_Cut_ct (N : Nat) : Contract Go.Proofs.Try.prog noGlob 25 (porterref02_Cut_res N) :=
  Contract.of (E := porterref02_Cut_E N) (H := porterref02_Cut_t N) (L := porterref02_Cut_L) (N := N) (body := porterref02_Cut_body) (K := (kRes (.v (.sl .str)) 2)) (porterref02_Cut_Eok N) Go.Proofs.Try.func25 (by kernel_rfl) (by decide) (fun _ hb => (TabOk.cons (porterref02_Cut_ok1 hb) TabOk.nil)) (fun x y h => by rw [porterref02_Cut_link]; exact h) (kRes_ok (s := (.v (.sl .str))) (m := 2))

abbrev porterbase_SameTexts_R : Type := Bool

noncomputable def porterbase_SameTexts_body : Code := (Go.Proofs.Try.f23.body).getD .skip

noncomputable def porterbase_SameTexts_L : List (List Nat × List Nat) := [([0], [0, 1]), ([0, 0, 1], [10, 0, 1]), ([1, 0, 1], [0, 1]), ([0, 0, 1, 0, 1], [4]), ([1, 0, 1, 0, 1], [4]), ([0, 0, 1, 1], [5, 0, 1]), ([0, 1, 0, 1, 1], [5, 0, 1]), ([0, 0, 0, 0, 1, 0, 1, 1], [14, 0, 5, 1]), ([1, 0, 0, 0, 1, 0, 1, 1], [0, 5, 1]), ([1, 1, 0, 0, 0, 1, 0, 1, 1], []), ([0, 0, 0, 1, 0, 0, 1, 0, 1, 1], [25, 5, 0, 1]), ([1, 0, 0, 1, 0, 0, 1, 0, 1, 1], [5, 0, 1]), ([0, 0, 1, 0, 0, 1, 0, 0, 1, 0, 1, 1], [4]), ([1, 0, 1, 0, 0, 1, 0, 0, 1, 0, 1, 1], [4]), ([0, 1, 0, 0, 1, 0, 1, 1], [5, 0, 1]), ([1, 1, 0, 0, 1, 0, 1, 1], [5, 0, 1]), ([1, 0, 1, 1], []), ([0, 1, 1, 1], [4]), ([1, 1, 1, 1], [4])]

noncomputable def porterbase_SameTexts_E (N : Nat) : Env := mkEnv tys noGlob [] [] [] [] false

theorem porterbase_SameTexts_Eok (N : Nat) : EnvOk Go.Proofs.Try.prog (porterbase_SameTexts_E N) := mkEnv_ok mixed tys_ok (FnsOk.nil)

noncomputable def porterbase_SameTexts_s1 (N : Nat) (a : (List (List UInt8))) (b : (List (List UInt8))) (i : Int) (rec : Int → Option Bool) (k0 : Bool → Option Bool) (k1 : Option Bool) : Option Bool :=
  cond (decide (i < (((List.length a) : Nat) : Int)))
  (cond (Go.Lift.inR i (List.length a))
    (cond (Go.Lift.inR i (List.length b))
      (cond (!((List.getD a (Int.toNat i) ([] : List UInt8)) == (List.getD b (Int.toNat i) ([] : List UInt8))))
        (k0 false)
        (rec (Go.IntKind.wrap Go.IntKind.i64 (i + (1 : Int)))))
      (none))
    (none))
  (k1)

noncomputable def porterbase_SameTexts_p1 (N : Nat) (a : (List (List UInt8))) (b : (List (List UInt8))) (i : Int) (k0 : Bool → Option Bool) (k1 : Option Bool) : Option Bool :=
  iter (fun (v : Int) r => porterbase_SameTexts_s1 N a b v (fun i => (r i)) k0 k1) N i

noncomputable def porterbase_SameTexts_g1 (N : Nat) (i : ((List (List UInt8)) × (List (List UInt8)))) (v : Int) (r : Int → Option Bool) (K : Ex → List A → Option Bool) : Option Bool :=
  porterbase_SameTexts_s1 N i.1 i.2 v (fun i => (r i)) (fun a0 => (K .ret (mkS [(4, .v .bool)] 21 (a0, ())))) (K (.exit 0) (mkS [] 26 ()))

noncomputable def porterbase_SameTexts_h1 (N : Nat) : Hd Bool := fun st K => (unS [(0, .v (.sl .str)), (0, .v (.sl .str)), (3, .v (.int .i64))] 20 (restr [5, 0, 1] 0 st)).bind fun x => iter (fun v r => porterbase_SameTexts_g1 N ((fun x => (x.1, x.2.1)) x) v r K) N ((fun x => x.2.2.1) x)

noncomputable def porterbase_SameTexts_t1 (N : Nat) : Tab Bool := []

theorem porterbase_SameTexts_ok1 {N : Nat} {c : Ctx} (hb : Base Go.Proofs.Try.prog (porterbase_SameTexts_E N) c) : CodeOk Go.Proofs.Try.prog c (nodeAt porterbase_SameTexts_body [0, 1, 0, 1, 1]) (porterbase_SameTexts_h1 N) :=
  loop_ok (s := [(0, .v (.sl .str)), (0, .v (.sl .str)), (3, .v (.int .i64))]) (m := 20) (porterbase_SameTexts_g1 N) [5, 0, 1] N (fun x => (x.1, x.2.1)) (fun x => x.2.2.1) (fun i v => (i.1, i.2, v, ())) (fun _ => rfl) (evN_sound hb N (porterbase_SameTexts_t1 N) porterbase_SameTexts_L porterbase_SameTexts_body TabOk.nil [0, 0, 1, 0, 1, 1] _ rfl) (fun i v r K => by kernel_rfl)

noncomputable def porterbase_SameTexts (N : Nat) (a : (List (List UInt8))) (b : (List (List UInt8))) : Option Bool :=
  cond ((((List.length a) : Nat) : Int) != (((List.length b) : Nat) : Int))
  (some false)
  (porterbase_SameTexts_p1 N a b (0 : Int)
    (fun x4 => some x4)
    (some true))

noncomputable def porterbase_SameTexts_t (N : Nat) : Tab Bool := [([0, 1, 0, 1, 1], porterbase_SameTexts_h1 N)]

theorem porterbase_SameTexts_link (N : Nat) (x : denS [(0, .v (.sl .str)), (0, .v (.sl .str))]) : evFX (porterbase_SameTexts_E N) N (porterbase_SameTexts_t N) porterbase_SameTexts_L Go.Proofs.Try.f23 (mkS [(0, .v (.sl .str)), (0, .v (.sl .str))] 0 x) (kRes (.v .bool) 2) = porterbase_SameTexts N x.1 x.2.1 := by kernel_rfl

noncomputable def porterbase_SameTexts_res (N : Nat) : List A → Res := resOf [(0, .v (.sl .str)), (0, .v (.sl .str))] (fun x => porterbase_SameTexts N x.1 x.2.1) (oRes (.v .bool) 2)

theorem porterbase_SameTexts_ct (N : Nat) : Contract Go.Proofs.Try.prog noGlob 23 (porterbase_SameTexts_res N) :=
  Contract.of (E := porterbase_SameTexts_E N) (H := porterbase_SameTexts_t N) (L := porterbase_SameTexts_L) (N := N) (body := porterbase_SameTexts_body) (K := (kRes (.v .bool) 2)) (porterbase_SameTexts_Eok N) Go.Proofs.Try.func23 (by kernel_rfl) (by decide) (fun _ hb => (TabOk.cons (porterbase_SameTexts_ok1 hb) TabOk.nil)) (fun x y h => by rw [porterbase_SameTexts_link]; exact h) (kRes_ok (s := (.v .bool)) (m := 2))

abbrev porterlaw02_OctetTurns_R : Type := Bool

noncomputable def porterlaw02_OctetTurns_body : Code := (Go.Proofs.Try.f4.body).getD .skip

noncomputable def porterlaw02_OctetTurns_L : List (List Nat × List Nat) := [([0], [0, 1, 2]), ([0, 0, 1], [14, 0, 1, 2]), ([1, 0, 1], [0, 1, 2]), ([0, 0, 1, 0, 1], [6]), ([1, 0, 1, 0, 1], [6]), ([0, 1, 1], [6]), ([1, 1, 1], [6])]

noncomputable def porterlaw02_OctetTurns_E (N : Nat) : Env := mkEnv tys noGlob [(23, porterbase_SameTexts_res N), (25, porterref02_Cut_res N), (22, porterref02_Pad_res N), (21, octet_Pad_res N), (20, porterref02_Xor_res N), (13, porterlaw02_works_res N), (19, octet_Xor_res N), (24, octet_Cut_res N)] [] [] [] false

theorem porterlaw02_OctetTurns_Eok (N : Nat) : EnvOk Go.Proofs.Try.prog (porterlaw02_OctetTurns_E N) := mkEnv_ok mixed tys_ok (FnsOk.cons (porterbase_SameTexts_ct N) (FnsOk.cons (porterref02_Cut_ct N) (FnsOk.cons (porterref02_Pad_ct N) (FnsOk.cons (octet_Pad_ct N) (FnsOk.cons (porterref02_Xor_ct N) (FnsOk.cons (porterlaw02_works_ct N) (FnsOk.cons (octet_Xor_ct N) (FnsOk.cons (octet_Cut_ct N) (FnsOk.nil)))))))))

noncomputable def porterlaw02_OctetTurns_p2 (N : Nat) (a : (List UInt8)) (b : (List UInt8)) (n : Int) (k0 : Bool → Option Bool) : Option Bool :=
  cond (decide ((300 : Int) < (((List.length a) : Nat) : Int)))
  (k0 true)
  (k0 (decide ((300 : Int) < (((List.length b) : Nat) : Int))))

noncomputable def porterlaw02_OctetTurns_g2 (N : Nat) (x : denS [(0, .v .str), (0, .v .str), (0, .v (.int .i64))]) (K : Ex → List A → Option Bool) : Option Bool :=
  porterlaw02_OctetTurns_p2 N x.1 x.2.1 x.2.2.1 (fun a3 => (K .normal (mkS [(0, .v .str), (0, .v .str), (0, .v (.int .i64)), (11, .v .bool)] 29 (x.1, x.2.1, x.2.2.1, a3, ()))))

noncomputable def porterlaw02_OctetTurns_h2 (N : Nat) : Hd Bool := fun st K => (unS [(0, .v .str), (0, .v .str), (0, .v (.int .i64))] 41 (restr [0, 1, 2] 0 st)).bind fun x => porterlaw02_OctetTurns_g2 N x K

noncomputable def porterlaw02_OctetTurns_t2 (N : Nat) : Tab Bool := []

theorem porterlaw02_OctetTurns_ok2 {N : Nat} {c : Ctx} (hb : Base Go.Proofs.Try.prog (porterlaw02_OctetTurns_E N) c) : CodeOk Go.Proofs.Try.prog c (nodeAt porterlaw02_OctetTurns_body [0, 0, 1]) (porterlaw02_OctetTurns_h2 N) :=
  piece_ok (s := [(0, .v .str), (0, .v .str), (0, .v (.int .i64))]) (m := 41) (g := porterlaw02_OctetTurns_g2 N) [0, 1, 2] (evN_sound hb N (porterlaw02_OctetTurns_t2 N) porterlaw02_OctetTurns_L porterlaw02_OctetTurns_body TabOk.nil [0, 0, 1] _ rfl) (fun x K => by kernel_rfl)

noncomputable def porterlaw02_OctetTurns_p1 (N : Nat) (a : (List UInt8)) (b : (List UInt8)) (n : Int) (k0 : Bool → Option Bool) (k1 : Option Bool) : Option Bool :=
  porterlaw02_OctetTurns_p2 N a b n
  (fun x14 => cond x14
    ((porterlaw02_works N).bind fun y =>
      k0 y)
    (k1))

noncomputable def porterlaw02_OctetTurns_g1 (N : Nat) (x : denS [(0, .v .str), (0, .v .str), (0, .v (.int .i64))]) (K : Ex → List A → Option Bool) : Option Bool :=
  porterlaw02_OctetTurns_p1 N x.1 x.2.1 x.2.2.1 (fun a0 => (K .ret (mkS [(6, .v .bool)] 37 (a0, ())))) (K .normal (mkS [(0, .v .str), (0, .v .str), (0, .v (.int .i64))] 41 (x.1, x.2.1, x.2.2.1, ())))

noncomputable def porterlaw02_OctetTurns_h1 (N : Nat) : Hd Bool := fun st K => (unS [(0, .v .str), (0, .v .str), (0, .v (.int .i64))] 41 (restr [0, 1, 2] 0 st)).bind fun x => porterlaw02_OctetTurns_g1 N x K

noncomputable def porterlaw02_OctetTurns_t1 (N : Nat) : Tab Bool := [([0, 0, 1], porterlaw02_OctetTurns_h2 N)]

theorem porterlaw02_OctetTurns_ok1 {N : Nat} {c : Ctx} (hb : Base Go.Proofs.Try.prog (porterlaw02_OctetTurns_E N) c) : CodeOk Go.Proofs.Try.prog c (nodeAt porterlaw02_OctetTurns_body [0, 1]) (porterlaw02_OctetTurns_h1 N) :=
  piece_ok (s := [(0, .v .str), (0, .v .str), (0, .v (.int .i64))]) (m := 41) (g := porterlaw02_OctetTurns_g1 N) [0, 1, 2] (evN_sound hb N (porterlaw02_OctetTurns_t1 N) porterlaw02_OctetTurns_L porterlaw02_OctetTurns_body (TabOk.cons (porterlaw02_OctetTurns_ok2 hb) TabOk.nil) [0, 1] _ rfl) (fun x K => by kernel_rfl)

noncomputable def porterlaw02_OctetTurns (N : Nat) (a : (List UInt8)) (b : (List UInt8)) (n : Int) : Option Bool :=
  porterlaw02_OctetTurns_p1 N a b n
  (fun x6 => some x6)
  ((octet_Xor N a b).bind fun y =>
    (porterref02_Xor N a b).bind fun y1 =>
    cond (y == y1)
    ((octet_Pad N a n).bind fun y2 =>
      (porterref02_Pad N a n).bind fun y3 =>
      cond (y2 == y3)
      ((octet_Cut N a n).bind fun y4 =>
        (porterref02_Cut N a n).bind fun y5 =>
        (porterbase_SameTexts N y4 y5).bind fun y6 =>
        cond y6
        ((porterlaw02_works N).bind fun y7 =>
          some y7)
        (some false))
      (some false))
    (some false))

noncomputable def porterlaw02_OctetTurns_t (N : Nat) : Tab Bool := [([0, 1], porterlaw02_OctetTurns_h1 N)]

theorem porterlaw02_OctetTurns_link (N : Nat) (x : denS [(0, .v .str), (0, .v .str), (0, .v (.int .i64))]) : evFX (porterlaw02_OctetTurns_E N) N (porterlaw02_OctetTurns_t N) porterlaw02_OctetTurns_L Go.Proofs.Try.f4 (mkS [(0, .v .str), (0, .v .str), (0, .v (.int .i64))] 0 x) (kRes (.v .bool) 3) = porterlaw02_OctetTurns N x.1 x.2.1 x.2.2.1 := by kernel_rfl

noncomputable def porterlaw02_OctetTurns_res (N : Nat) : List A → Res := resOf [(0, .v .str), (0, .v .str), (0, .v (.int .i64))] (fun x => porterlaw02_OctetTurns N x.1 x.2.1 x.2.2.1) (oRes (.v .bool) 3)

theorem porterlaw02_OctetTurns_ct (N : Nat) : Contract Go.Proofs.Try.prog noGlob 4 (porterlaw02_OctetTurns_res N) :=
  Contract.of (E := porterlaw02_OctetTurns_E N) (H := porterlaw02_OctetTurns_t N) (L := porterlaw02_OctetTurns_L) (N := N) (body := porterlaw02_OctetTurns_body) (K := (kRes (.v .bool) 3)) (porterlaw02_OctetTurns_Eok N) Go.Proofs.Try.func4 (by kernel_rfl) (by decide) (fun _ hb => (TabOk.cons (porterlaw02_OctetTurns_ok1 hb) TabOk.nil)) (fun x y h => by rw [porterlaw02_OctetTurns_link]; exact h) (kRes_ok (s := (.v .bool)) (m := 3))

abbrev porterref02_Hex_R : Type := (List UInt8)

noncomputable def porterref02_Hex_body : Code := (Go.Proofs.Try.f28.body).getD .skip

noncomputable def porterref02_Hex_L : List (List Nat × List Nat) := [([0], [0]), ([0, 1], [0, 3]), ([0, 1, 1], [0, 4, 3]), ([0, 0, 1, 1, 1], [5, 0, 4, 3]), ([0, 1, 0, 1, 1, 1], [5, 0, 4, 3]), ([0, 0, 0, 0, 1, 0, 1, 1, 1], [11, 0, 5, 4, 3]), ([1, 0, 0, 0, 1, 0, 1, 1, 1], [0, 5, 4, 3]), ([1, 1, 0, 0, 0, 1, 0, 1, 1, 1], [4]), ([0, 0, 0, 1, 0, 0, 1, 0, 1, 1, 1], [4, 3, 6, 7, 5, 0]), ([1, 0, 0, 1, 0, 0, 1, 0, 1, 1, 1], [5, 0, 4, 3]), ([0, 1, 0, 0, 1, 0, 1, 1, 1], [5, 0, 4, 3]), ([1, 1, 0, 0, 1, 0, 1, 1, 1], [5, 0, 4, 3]), ([1, 0, 1, 1, 1], [4]), ([0, 1, 1, 1, 1], [2]), ([1, 1, 1, 1, 1], [2])]

noncomputable def porterref02_Hex_E (N : Nat) : Env := mkEnv tys noGlob [] [] [] [] false

theorem porterref02_Hex_Eok (N : Nat) : EnvOk Go.Proofs.Try.prog (porterref02_Hex_E N) := mkEnv_ok mixed tys_ok (FnsOk.nil)

noncomputable def porterref02_Hex_s1 (N : Nat) (s : (List UInt8)) (d : (List UInt8)) (out : (List UInt8)) (i : Int) (rec : (List UInt8) → Int → Option (List UInt8)) (k0 : (List UInt8) → Option (List UInt8)) : Option (List UInt8) :=
  cond (decide (i < (((List.length s) : Nat) : Int)))
  (cond (Go.Lift.inR i (List.length s))
    (cond (Go.Lift.inR i (List.length s))
      (cond (decide (((0 : Int) ≤ (Go.IntKind.wrap Go.IntKind.i64 ((Go.IntKind.wrap Go.IntKind.i64 (Int.tdiv (Go.IntKind.wrap Go.IntKind.i64 (((UInt8.toNat (List.getD s (Int.toNat i) (0 : UInt8))) : Nat) : Int)) (16 : Int))) + (1 : Int)))) ∧ ((Go.IntKind.wrap Go.IntKind.i64 ((Go.IntKind.wrap Go.IntKind.i64 (Int.tdiv (Go.IntKind.wrap Go.IntKind.i64 (((UInt8.toNat (List.getD s (Int.toNat i) (0 : UInt8))) : Nat) : Int)) (16 : Int))) + (1 : Int))) ≤ (((List.length d) : Nat) : Int))))
        (cond (decide (((0 : Int) ≤ (Go.IntKind.wrap Go.IntKind.i64 (Int.tdiv (Go.IntKind.wrap Go.IntKind.i64 (((UInt8.toNat (List.getD s (Int.toNat i) (0 : UInt8))) : Nat) : Int)) (16 : Int)))) ∧ ((Go.IntKind.wrap Go.IntKind.i64 (Int.tdiv (Go.IntKind.wrap Go.IntKind.i64 (((UInt8.toNat (List.getD s (Int.toNat i) (0 : UInt8))) : Nat) : Int)) (16 : Int))) ≤ (Go.IntKind.wrap Go.IntKind.i64 ((Go.IntKind.wrap Go.IntKind.i64 (Int.tdiv (Go.IntKind.wrap Go.IntKind.i64 (((UInt8.toNat (List.getD s (Int.toNat i) (0 : UInt8))) : Nat) : Int)) (16 : Int))) + (1 : Int))))))
          (cond (decide (((List.length out) + (List.length (Go.Lift.cut d (Int.toNat (Go.IntKind.wrap Go.IntKind.i64 (Int.tdiv (Go.IntKind.wrap Go.IntKind.i64 (((UInt8.toNat (List.getD s (Int.toNat i) (0 : UInt8))) : Nat) : Int)) (16 : Int)))) (Int.toNat (Go.IntKind.wrap Go.IntKind.i64 ((Go.IntKind.wrap Go.IntKind.i64 (Int.tdiv (Go.IntKind.wrap Go.IntKind.i64 (((UInt8.toNat (List.getD s (Int.toNat i) (0 : UInt8))) : Nat) : Int)) (16 : Int))) + (1 : Int))))))) ≤ 9223372036854775807))
            (cond (decide (((0 : Int) ≤ (Go.IntKind.wrap Go.IntKind.i64 ((Int.tmod (Go.IntKind.wrap Go.IntKind.i64 (((UInt8.toNat (List.getD s (Int.toNat i) (0 : UInt8))) : Nat) : Int)) (16 : Int)) + (1 : Int)))) ∧ ((Go.IntKind.wrap Go.IntKind.i64 ((Int.tmod (Go.IntKind.wrap Go.IntKind.i64 (((UInt8.toNat (List.getD s (Int.toNat i) (0 : UInt8))) : Nat) : Int)) (16 : Int)) + (1 : Int))) ≤ (((List.length d) : Nat) : Int))))
              (cond (decide (((0 : Int) ≤ (Int.tmod (Go.IntKind.wrap Go.IntKind.i64 (((UInt8.toNat (List.getD s (Int.toNat i) (0 : UInt8))) : Nat) : Int)) (16 : Int))) ∧ ((Int.tmod (Go.IntKind.wrap Go.IntKind.i64 (((UInt8.toNat (List.getD s (Int.toNat i) (0 : UInt8))) : Nat) : Int)) (16 : Int)) ≤ (Go.IntKind.wrap Go.IntKind.i64 ((Int.tmod (Go.IntKind.wrap Go.IntKind.i64 (((UInt8.toNat (List.getD s (Int.toNat i) (0 : UInt8))) : Nat) : Int)) (16 : Int)) + (1 : Int))))))
                (cond (decide (((List.length (out ++ (Go.Lift.cut d (Int.toNat (Go.IntKind.wrap Go.IntKind.i64 (Int.tdiv (Go.IntKind.wrap Go.IntKind.i64 (((UInt8.toNat (List.getD s (Int.toNat i) (0 : UInt8))) : Nat) : Int)) (16 : Int)))) (Int.toNat (Go.IntKind.wrap Go.IntKind.i64 ((Go.IntKind.wrap Go.IntKind.i64 (Int.tdiv (Go.IntKind.wrap Go.IntKind.i64 (((UInt8.toNat (List.getD s (Int.toNat i) (0 : UInt8))) : Nat) : Int)) (16 : Int))) + (1 : Int))))))) + (List.length (Go.Lift.cut d (Int.toNat (Int.tmod (Go.IntKind.wrap Go.IntKind.i64 (((UInt8.toNat (List.getD s (Int.toNat i) (0 : UInt8))) : Nat) : Int)) (16 : Int))) (Int.toNat (Go.IntKind.wrap Go.IntKind.i64 ((Int.tmod (Go.IntKind.wrap Go.IntKind.i64 (((UInt8.toNat (List.getD s (Int.toNat i) (0 : UInt8))) : Nat) : Int)) (16 : Int)) + (1 : Int))))))) ≤ 9223372036854775807))
                  (rec ((out ++ (Go.Lift.cut d (Int.toNat (Go.IntKind.wrap Go.IntKind.i64 (Int.tdiv (Go.IntKind.wrap Go.IntKind.i64 (((UInt8.toNat (List.getD s (Int.toNat i) (0 : UInt8))) : Nat) : Int)) (16 : Int)))) (Int.toNat (Go.IntKind.wrap Go.IntKind.i64 ((Go.IntKind.wrap Go.IntKind.i64 (Int.tdiv (Go.IntKind.wrap Go.IntKind.i64 (((UInt8.toNat (List.getD s (Int.toNat i) (0 : UInt8))) : Nat) : Int)) (16 : Int))) + (1 : Int)))))) ++ (Go.Lift.cut d (Int.toNat (Int.tmod (Go.IntKind.wrap Go.IntKind.i64 (((UInt8.toNat (List.getD s (Int.toNat i) (0 : UInt8))) : Nat) : Int)) (16 : Int))) (Int.toNat (Go.IntKind.wrap Go.IntKind.i64 ((Int.tmod (Go.IntKind.wrap Go.IntKind.i64 (((UInt8.toNat (List.getD s (Int.toNat i) (0 : UInt8))) : Nat) : Int)) (16 : Int)) + (1 : Int)))))) (Go.IntKind.wrap Go.IntKind.i64 (i + (1 : Int))))
                  (none))
                (none))
              (none))
            (none))
          (none))
        (none))
      (none))
    (none))
  (k0 out)

noncomputable def porterref02_Hex_p1 (N : Nat) (s : (List UInt8)) (d : (List UInt8)) (out : (List UInt8)) (i : Int) (k0 : (List UInt8) → Option (List UInt8)) : Option (List UInt8) :=
  iter (fun (v : ((List UInt8) × Int)) r => porterref02_Hex_s1 N s d v.1 v.2 (fun out i => (r (out, i))) k0) N (out, i)

noncomputable def porterref02_Hex_g1 (N : Nat) (i : ((List UInt8) × (List UInt8))) (v : ((List UInt8) × Int)) (r : ((List UInt8) × Int) → Option (List UInt8)) (K : Ex → List A → Option (List UInt8)) : Option (List UInt8) :=
  porterref02_Hex_s1 N i.1 i.2 v.1 v.2 (fun out i => (r (out, i))) (fun a0 => (K (.exit 0) (mkS [(4, .v .str)] 33 (a0, ()))))

noncomputable def porterref02_Hex_h1 (N : Nat) : Hd (List UInt8) := fun st K => (unS [(0, .v .str), (2, .v .str), (0, .v .str), (0, .v (.int .i64))] 32 (restr [5, 0, 4, 3] 0 st)).bind fun x => iter (fun v r => porterref02_Hex_g1 N ((fun x => (x.1, x.2.1)) x) v r K) N ((fun x => (x.2.2.1, x.2.2.2.1)) x)

noncomputable def porterref02_Hex_t1 (N : Nat) : Tab (List UInt8) := []

theorem porterref02_Hex_ok1 {N : Nat} {c : Ctx} (hb : Base Go.Proofs.Try.prog (porterref02_Hex_E N) c) : CodeOk Go.Proofs.Try.prog c (nodeAt porterref02_Hex_body [0, 1, 0, 1, 1, 1]) (porterref02_Hex_h1 N) :=
  loop_ok (s := [(0, .v .str), (2, .v .str), (0, .v .str), (0, .v (.int .i64))]) (m := 32) (porterref02_Hex_g1 N) [5, 0, 4, 3] N (fun x => (x.1, x.2.1)) (fun x => (x.2.2.1, x.2.2.2.1)) (fun i v => (i.1, i.2, v.1, v.2, ())) (fun _ => rfl) (evN_sound hb N (porterref02_Hex_t1 N) porterref02_Hex_L porterref02_Hex_body TabOk.nil [0, 0, 1, 0, 1, 1, 1] _ rfl) (fun i v r K => by kernel_rfl)

noncomputable def porterref02_Hex (N : Nat) (s : (List UInt8)) : Option (List UInt8) :=
  porterref02_Hex_p1 N s ([(48 : UInt8), (49 : UInt8), (50 : UInt8), (51 : UInt8), (52 : UInt8), (53 : UInt8), (54 : UInt8), (55 : UInt8), (56 : UInt8), (57 : UInt8), (97 : UInt8), (98 : UInt8), (99 : UInt8), (100 : UInt8), (101 : UInt8), (102 : UInt8)] : List UInt8) ([] : List UInt8) (0 : Int)
  (fun out => some out)

noncomputable def porterref02_Hex_t (N : Nat) : Tab (List UInt8) := [([0, 1, 0, 1, 1, 1], porterref02_Hex_h1 N)]

theorem porterref02_Hex_link (N : Nat) (x : denS [(0, .v .str)]) : evFX (porterref02_Hex_E N) N (porterref02_Hex_t N) porterref02_Hex_L Go.Proofs.Try.f28 (mkS [(0, .v .str)] 0 x) (kRes (.v .str) 1) = porterref02_Hex N x.1 := by kernel_rfl

noncomputable def porterref02_Hex_res (N : Nat) : List A → Res := resOf [(0, .v .str)] (fun x => porterref02_Hex N x.1) (oRes (.v .str) 1)

theorem porterref02_Hex_ct (N : Nat) : Contract Go.Proofs.Try.prog noGlob 28 (porterref02_Hex_res N) :=
  Contract.of (E := porterref02_Hex_E N) (H := porterref02_Hex_t N) (L := porterref02_Hex_L) (N := N) (body := porterref02_Hex_body) (K := (kRes (.v .str) 1)) (porterref02_Hex_Eok N) Go.Proofs.Try.func28 (by kernel_rfl) (by decide) (fun _ hb => (TabOk.cons (porterref02_Hex_ok1 hb) TabOk.nil)) (fun x y h => by rw [porterref02_Hex_link]; exact h) (kRes_ok (s := (.v .str)) (m := 1))

abbrev porterlaw02_OctetDigits_R : Type := Bool

noncomputable def porterlaw02_OctetDigits_body : Code := (Go.Proofs.Try.f5.body).getD .skip

noncomputable def porterlaw02_OctetDigits_L : List (List Nat × List Nat) := [([0], [0, 1]), ([0, 0, 1], [17, 0, 1]), ([1, 0, 1], [0, 1]), ([0, 0, 1, 0, 1], [4]), ([1, 0, 1, 0, 1], [4]), ([0, 1, 1], [5, 1, 0]), ([0, 1, 1, 1], [1, 5, 0, 6, 7]), ([0, 1, 1, 1, 1], [5, 0, 6, 7, 9, 8, 1]), ([0, 1, 1, 1, 1, 1], [4]), ([1, 1, 1, 1, 1, 1], [4])]

noncomputable def porterlaw02_OctetDigits_E (N : Nat) : Env := mkEnv tys noGlob [(28, porterref02_Hex_res N), (13, porterlaw02_works_res N), (26, octet_Hex_res N), (27, octet_Unhex_res N)] [] [] [] false

theorem porterlaw02_OctetDigits_Eok (N : Nat) : EnvOk Go.Proofs.Try.prog (porterlaw02_OctetDigits_E N) := mkEnv_ok mixed tys_ok (FnsOk.cons (porterref02_Hex_ct N) (FnsOk.cons (porterlaw02_works_ct N) (FnsOk.cons (octet_Hex_ct N) (FnsOk.cons (octet_Unhex_ct N) (FnsOk.nil)))))

noncomputable def porterlaw02_OctetDigits_p2 (N : Nat) (s : (List UInt8)) (t : (List UInt8)) (k0 : Bool → Option Bool) : Option Bool :=
  cond (decide ((300 : Int) < (((List.length s) : Nat) : Int)))
  (k0 true)
  (k0 (decide ((300 : Int) < (((List.length t) : Nat) : Int))))

noncomputable def porterlaw02_OctetDigits_g2 (N : Nat) (x : denS [(0, .v .str), (0, .v .str)]) (K : Ex → List A → Option Bool) : Option Bool :=
  porterlaw02_OctetDigits_p2 N x.1 x.2.1 (fun a2 => (K .normal (mkS [(0, .v .str), (0, .v .str), (15, .v .bool)] 45 (x.1, x.2.1, a2, ()))))

noncomputable def porterlaw02_OctetDigits_h2 (N : Nat) : Hd Bool := fun st K => (unS [(0, .v .str), (0, .v .str)] 61 (restr [0, 1] 0 st)).bind fun x => porterlaw02_OctetDigits_g2 N x K

noncomputable def porterlaw02_OctetDigits_t2 (N : Nat) : Tab Bool := []

theorem porterlaw02_OctetDigits_ok2 {N : Nat} {c : Ctx} (hb : Base Go.Proofs.Try.prog (porterlaw02_OctetDigits_E N) c) : CodeOk Go.Proofs.Try.prog c (nodeAt porterlaw02_OctetDigits_body [0, 0, 1]) (porterlaw02_OctetDigits_h2 N) :=
  piece_ok (s := [(0, .v .str), (0, .v .str)]) (m := 61) (g := porterlaw02_OctetDigits_g2 N) [0, 1] (evN_sound hb N (porterlaw02_OctetDigits_t2 N) porterlaw02_OctetDigits_L porterlaw02_OctetDigits_body TabOk.nil [0, 0, 1] _ rfl) (fun x K => by kernel_rfl)

noncomputable def porterlaw02_OctetDigits_p1 (N : Nat) (s : (List UInt8)) (t : (List UInt8)) (k0 : Bool → Option Bool) (k1 : Option Bool) : Option Bool :=
  porterlaw02_OctetDigits_p2 N s t
  (fun x17 => cond x17
    ((porterlaw02_works N).bind fun y =>
      k0 y)
    (k1))

noncomputable def porterlaw02_OctetDigits_g1 (N : Nat) (x : denS [(0, .v .str), (0, .v .str)]) (K : Ex → List A → Option Bool) : Option Bool :=
  porterlaw02_OctetDigits_p1 N x.1 x.2.1 (fun a0 => (K .ret (mkS [(4, .v .bool)] 58 (a0, ())))) (K .normal (mkS [(0, .v .str), (0, .v .str)] 61 (x.1, x.2.1, ())))

noncomputable def porterlaw02_OctetDigits_h1 (N : Nat) : Hd Bool := fun st K => (unS [(0, .v .str), (0, .v .str)] 61 (restr [0, 1] 0 st)).bind fun x => porterlaw02_OctetDigits_g1 N x K

noncomputable def porterlaw02_OctetDigits_t1 (N : Nat) : Tab Bool := [([0, 0, 1], porterlaw02_OctetDigits_h2 N)]

theorem porterlaw02_OctetDigits_ok1 {N : Nat} {c : Ctx} (hb : Base Go.Proofs.Try.prog (porterlaw02_OctetDigits_E N) c) : CodeOk Go.Proofs.Try.prog c (nodeAt porterlaw02_OctetDigits_body [0, 1]) (porterlaw02_OctetDigits_h1 N) :=
  piece_ok (s := [(0, .v .str), (0, .v .str)]) (m := 61) (g := porterlaw02_OctetDigits_g1 N) [0, 1] (evN_sound hb N (porterlaw02_OctetDigits_t1 N) porterlaw02_OctetDigits_L porterlaw02_OctetDigits_body (TabOk.cons (porterlaw02_OctetDigits_ok2 hb) TabOk.nil) [0, 1] _ rfl) (fun x K => by kernel_rfl)

noncomputable def porterlaw02_OctetDigits (N : Nat) (s : (List UInt8)) (t : (List UInt8)) : Option Bool :=
  porterlaw02_OctetDigits_p1 N s t
  (fun x4 => some x4)
  ((octet_Hex N s).bind fun y =>
    (octet_Unhex N y).bind fun y1 =>
    (octet_Unhex N t).bind fun y2 =>
    (porterref02_Hex N s).bind fun y3 =>
    cond (y == y3)
    (cond (y1.1 == s)
      (cond y1.2.1
        (cond y2.2.1
          ((porterref02_Hex N y2.1).bind fun y4 =>
            cond (y4 == t)
            ((porterlaw02_works N).bind fun y5 =>
              some y5)
            (cond (!y2.2.1)
              (cond (y2.1 == ([] : List UInt8))
                ((porterlaw02_works N).bind fun y6 =>
                  some y6)
                (some false))
              (some false)))
          (cond (!y2.2.1)
            (cond (y2.1 == ([] : List UInt8))
              ((porterlaw02_works N).bind fun y7 =>
                some y7)
              (some false))
            (some false)))
        (some false))
      (some false))
    (some false))

noncomputable def porterlaw02_OctetDigits_t (N : Nat) : Tab Bool := [([0, 1], porterlaw02_OctetDigits_h1 N)]

theorem porterlaw02_OctetDigits_link (N : Nat) (x : denS [(0, .v .str), (0, .v .str)]) : evFX (porterlaw02_OctetDigits_E N) N (porterlaw02_OctetDigits_t N) porterlaw02_OctetDigits_L Go.Proofs.Try.f5 (mkS [(0, .v .str), (0, .v .str)] 0 x) (kRes (.v .bool) 2) = porterlaw02_OctetDigits N x.1 x.2.1 := by kernel_rfl

noncomputable def porterlaw02_OctetDigits_res (N : Nat) : List A → Res := resOf [(0, .v .str), (0, .v .str)] (fun x => porterlaw02_OctetDigits N x.1 x.2.1) (oRes (.v .bool) 2)

theorem porterlaw02_OctetDigits_ct (N : Nat) : Contract Go.Proofs.Try.prog noGlob 5 (porterlaw02_OctetDigits_res N) :=
  Contract.of (E := porterlaw02_OctetDigits_E N) (H := porterlaw02_OctetDigits_t N) (L := porterlaw02_OctetDigits_L) (N := N) (body := porterlaw02_OctetDigits_body) (K := (kRes (.v .bool) 2)) (porterlaw02_OctetDigits_Eok N) Go.Proofs.Try.func5 (by kernel_rfl) (by decide) (fun _ hb => (TabOk.cons (porterlaw02_OctetDigits_ok1 hb) TabOk.nil)) (fun x y h => by rw [porterlaw02_OctetDigits_link]; exact h) (kRes_ok (s := (.v .bool)) (m := 2))

abbrev porterlaw02_OctetBack_R : Type := Bool

noncomputable def porterlaw02_OctetBack_body : Code := (Go.Proofs.Try.f6.body).getD .skip

noncomputable def porterlaw02_OctetBack_L : List (List Nat × List Nat) := [([0], [0, 1, 2]), ([0, 0, 1], [18, 0, 2, 1]), ([1, 0, 1], [0, 2, 1]), ([0, 0, 1, 0, 1], [6]), ([1, 0, 1, 0, 1], [6]), ([0, 1, 1], [7, 2, 0, 1]), ([0, 1, 1, 1], [7, 2, 8, 0, 1]), ([0, 0, 1, 1, 1, 1], [9, 7, 2, 8, 0, 1]), ([0, 1, 0, 1, 1, 1, 1], [9, 7, 2, 8, 0, 1]), ([0, 0, 0, 0, 1, 0, 1, 1, 1, 1], [26, 7, 9, 2, 8, 0, 1]), ([1, 0, 0, 0, 1, 0, 1, 1, 1, 1], [7, 9, 2, 8, 0, 1]), ([1, 1, 0, 0, 0, 1, 0, 1, 1, 1, 1], [2, 8, 0, 7, 1]), ([0, 0, 0, 0, 1, 0, 0, 1, 0, 1, 1, 1, 1], [58, 8, 7, 9, 2, 0, 1]), ([1, 0, 0, 0, 1, 0, 0, 1, 0, 1, 1, 1, 1], [8, 7, 9, 2, 0, 1]), ([0, 0, 1, 0, 0, 0, 1, 0, 0, 1, 0, 1, 1, 1, 1], [6]), ([1, 0, 1, 0, 0, 0, 1, 0, 0, 1, 0, 1, 1, 1, 1], [6]), ([1, 0, 0, 1, 0, 0, 1, 0, 1, 1, 1, 1], [9, 7, 2, 8, 0, 1]), ([0, 1, 0, 0, 1, 0, 1, 1, 1, 1], [9, 7, 2, 8, 0, 1]), ([1, 1, 0, 0, 1, 0, 1, 1, 1, 1], [9, 7, 2, 8, 0, 1]), ([1, 0, 1, 1, 1, 1], [2, 8, 0, 7, 1]), ([0, 0, 1, 1, 1, 1, 1], [80, 0, 1]), ([1, 0, 1, 1, 1, 1, 1], [0, 1]), ([0, 0, 1, 0, 1, 1, 1, 1, 1], [6]), ([1, 0, 1, 0, 1, 1, 1, 1, 1], [6]), ([0, 1, 1, 1, 1, 1, 1], [10, 0, 1]), ([0, 1, 1, 1, 1, 1, 1, 1], [6]), ([1, 1, 1, 1, 1, 1, 1, 1], [6])]

noncomputable def porterlaw02_OctetBack_E (N : Nat) : Env := mkEnv tys noGlob [(13, porterlaw02_works_res N), (19, octet_Xor_res N), (24, octet_Cut_res N)] [] [] [] false

theorem porterlaw02_OctetBack_Eok (N : Nat) : EnvOk Go.Proofs.Try.prog (porterlaw02_OctetBack_E N) := mkEnv_ok mixed tys_ok (FnsOk.cons (porterlaw02_works_ct N) (FnsOk.cons (octet_Xor_ct N) (FnsOk.cons (octet_Cut_ct N) (FnsOk.nil))))

noncomputable def porterlaw02_OctetBack_p2 (N : Nat) (a : (List UInt8)) (b : (List UInt8)) (size : Int) (k0 : Bool → Option Bool) : Option Bool :=
  cond (decide ((2000 : Int) < (((List.length a) : Nat) : Int)))
  (k0 true)
  (k0 (decide ((2000 : Int) < (((List.length b) : Nat) : Int))))

noncomputable def porterlaw02_OctetBack_g2 (N : Nat) (x : denS [(0, .v .str), (0, .v .str), (0, .v (.int .i64))]) (K : Ex → List A → Option Bool) : Option Bool :=
  porterlaw02_OctetBack_p2 N x.1 x.2.1 x.2.2.1 (fun a3 => (K .normal (mkS [(0, .v .str), (0, .v .str), (0, .v (.int .i64)), (15, .v .bool)] 95 (x.1, x.2.1, x.2.2.1, a3, ()))))

noncomputable def porterlaw02_OctetBack_h2 (N : Nat) : Hd Bool := fun st K => (unS [(0, .v .str), (0, .v .str), (0, .v (.int .i64))] 111 (restr [0, 1, 2] 0 st)).bind fun x => porterlaw02_OctetBack_g2 N x K

noncomputable def porterlaw02_OctetBack_t2 (N : Nat) : Tab Bool := []

theorem porterlaw02_OctetBack_ok2 {N : Nat} {c : Ctx} (hb : Base Go.Proofs.Try.prog (porterlaw02_OctetBack_E N) c) : CodeOk Go.Proofs.Try.prog c (nodeAt porterlaw02_OctetBack_body [0, 0, 1]) (porterlaw02_OctetBack_h2 N) :=
  piece_ok (s := [(0, .v .str), (0, .v .str), (0, .v (.int .i64))]) (m := 111) (g := porterlaw02_OctetBack_g2 N) [0, 1, 2] (evN_sound hb N (porterlaw02_OctetBack_t2 N) porterlaw02_OctetBack_L porterlaw02_OctetBack_body TabOk.nil [0, 0, 1] _ rfl) (fun x K => by kernel_rfl)

noncomputable def porterlaw02_OctetBack_p1 (N : Nat) (a : (List UInt8)) (b : (List UInt8)) (size : Int) (k0 : Bool → Option Bool) (k1 : Option Bool) : Option Bool :=
  porterlaw02_OctetBack_p2 N a b size
  (fun x18 => cond x18
    ((porterlaw02_works N).bind fun y =>
      k0 y)
    (k1))

noncomputable def porterlaw02_OctetBack_g1 (N : Nat) (x : denS [(0, .v .str), (0, .v .str), (0, .v (.int .i64))]) (K : Ex → List A → Option Bool) : Option Bool :=
  porterlaw02_OctetBack_p1 N x.1 x.2.1 x.2.2.1 (fun a0 => (K .ret (mkS [(6, .v .bool)] 107 (a0, ())))) (K .normal (mkS [(0, .v .str), (0, .v .str), (0, .v (.int .i64))] 111 (x.1, x.2.1, x.2.2.1, ())))

noncomputable def porterlaw02_OctetBack_h1 (N : Nat) : Hd Bool := fun st K => (unS [(0, .v .str), (0, .v .str), (0, .v (.int .i64))] 111 (restr [0, 1, 2] 0 st)).bind fun x => porterlaw02_OctetBack_g1 N x K

noncomputable def porterlaw02_OctetBack_t1 (N : Nat) : Tab Bool := [([0, 0, 1], porterlaw02_OctetBack_h2 N)]

theorem porterlaw02_OctetBack_ok1 {N : Nat} {c : Ctx} (hb : Base Go.Proofs.Try.prog (porterlaw02_OctetBack_E N) c) : CodeOk Go.Proofs.Try.prog c (nodeAt porterlaw02_OctetBack_body [0, 1]) (porterlaw02_OctetBack_h1 N) :=
  piece_ok (s := [(0, .v .str), (0, .v .str), (0, .v (.int .i64))]) (m := 111) (g := porterlaw02_OctetBack_g1 N) [0, 1, 2] (evN_sound hb N (porterlaw02_OctetBack_t1 N) porterlaw02_OctetBack_L porterlaw02_OctetBack_body (TabOk.cons (porterlaw02_OctetBack_ok2 hb) TabOk.nil) [0, 1] _ rfl) (fun x K => by kernel_rfl)

noncomputable def porterlaw02_OctetBack_p6 (N : Nat) (a : (List UInt8)) (b : (List UInt8)) (size : Int) (l : (List (List UInt8))) (s : (List UInt8)) (i : Int) (k0 : Bool → Option Bool) : Option Bool :=
  cond (Go.Lift.inR i (List.length l))
  (cond ((List.getD l (Int.toNat i) ([] : List UInt8)) == ([] : List UInt8))
    (k0 true)
    (cond (Go.Lift.inR i (List.length l))
      (cond (decide (size < (((List.length (List.getD l (Int.toNat i) ([] : List UInt8))) : Nat) : Int)))
        (k0 true)
        (cond (decide ((Go.IntKind.wrap Go.IntKind.i64 (i + (1 : Int))) < (((List.length l) : Nat) : Int)))
          (cond (Go.Lift.inR i (List.length l))
            (k0 ((((List.length (List.getD l (Int.toNat i) ([] : List UInt8))) : Nat) : Int) != size))
            (none))
          (k0 false)))
      (none)))
  (none)

noncomputable def porterlaw02_OctetBack_g6 (N : Nat) (x : denS [(0, .v .str), (0, .v .str), (0, .v (.int .i64)), (4, .v (.sl .str)), (0, .v .str), (0, .v (.int .i64))]) (K : Ex → List A → Option Bool) : Option Bool :=
  porterlaw02_OctetBack_p6 N x.1 x.2.1 x.2.2.1 x.2.2.2.1 x.2.2.2.2.1 x.2.2.2.2.2.1 (fun a6 => (K .normal (mkS [(0, .v .str), (0, .v .str), (0, .v (.int .i64)), (4, .v (.sl .str)), (0, .v .str), (0, .v (.int .i64)), (48, .v .bool)] 55 (x.1, x.2.1, x.2.2.1, x.2.2.2.1, x.2.2.2.2.1, x.2.2.2.2.2.1, a6, ()))))

noncomputable def porterlaw02_OctetBack_h6 (N : Nat) : Hd Bool := fun st K => (unS [(0, .v .str), (0, .v .str), (0, .v (.int .i64)), (4, .v (.sl .str)), (0, .v .str), (0, .v (.int .i64))] 104 (restr [7, 9, 2, 8, 0, 1] 0 st)).bind fun x => porterlaw02_OctetBack_g6 N x K

noncomputable def porterlaw02_OctetBack_t6 (N : Nat) : Tab Bool := []

theorem porterlaw02_OctetBack_ok6 {N : Nat} {c : Ctx} (hb : Base Go.Proofs.Try.prog (porterlaw02_OctetBack_E N) c) : CodeOk Go.Proofs.Try.prog c (nodeAt porterlaw02_OctetBack_body [0, 0, 0, 0, 1, 0, 0, 1, 0, 1, 1, 1, 1]) (porterlaw02_OctetBack_h6 N) :=
  piece_ok (s := [(0, .v .str), (0, .v .str), (0, .v (.int .i64)), (4, .v (.sl .str)), (0, .v .str), (0, .v (.int .i64))]) (m := 104) (g := porterlaw02_OctetBack_g6 N) [7, 9, 2, 8, 0, 1] (evN_sound hb N (porterlaw02_OctetBack_t6 N) porterlaw02_OctetBack_L porterlaw02_OctetBack_body TabOk.nil [0, 0, 0, 0, 1, 0, 0, 1, 0, 1, 1, 1, 1] _ rfl) (fun x K => by kernel_rfl)

noncomputable def porterlaw02_OctetBack_p5 (N : Nat) (a : (List UInt8)) (b : (List UInt8)) (size : Int) (l : (List (List UInt8))) (s : (List UInt8)) (i : Int) (k0 : Bool → Option Bool) (k1 : Option Bool) : Option Bool :=
  porterlaw02_OctetBack_p6 N a b size l s i
  (fun x58 => cond x58
    (k0 false)
    (k1))

noncomputable def porterlaw02_OctetBack_g5 (N : Nat) (x : denS [(0, .v .str), (0, .v .str), (0, .v (.int .i64)), (4, .v (.sl .str)), (0, .v .str), (0, .v (.int .i64))]) (K : Ex → List A → Option Bool) : Option Bool :=
  porterlaw02_OctetBack_p5 N x.1 x.2.1 x.2.2.1 x.2.2.2.1 x.2.2.2.2.1 x.2.2.2.2.2.1 (fun a0 => (K .ret (mkS [(6, .v .bool)] 107 (a0, ())))) (K .normal (mkS [(0, .v .str), (0, .v .str), (0, .v (.int .i64)), (4, .v (.sl .str)), (0, .v .str), (0, .v (.int .i64))] 104 (x.1, x.2.1, x.2.2.1, x.2.2.2.1, x.2.2.2.2.1, x.2.2.2.2.2.1, ())))

noncomputable def porterlaw02_OctetBack_h5 (N : Nat) : Hd Bool := fun st K => (unS [(0, .v .str), (0, .v .str), (0, .v (.int .i64)), (4, .v (.sl .str)), (0, .v .str), (0, .v (.int .i64))] 104 (restr [7, 9, 2, 8, 0, 1] 0 st)).bind fun x => porterlaw02_OctetBack_g5 N x K

noncomputable def porterlaw02_OctetBack_t5 (N : Nat) : Tab Bool := [([0, 0, 0, 0, 1, 0, 0, 1, 0, 1, 1, 1, 1], porterlaw02_OctetBack_h6 N)]

theorem porterlaw02_OctetBack_ok5 {N : Nat} {c : Ctx} (hb : Base Go.Proofs.Try.prog (porterlaw02_OctetBack_E N) c) : CodeOk Go.Proofs.Try.prog c (nodeAt porterlaw02_OctetBack_body [0, 0, 0, 1, 0, 0, 1, 0, 1, 1, 1, 1]) (porterlaw02_OctetBack_h5 N) :=
  piece_ok (s := [(0, .v .str), (0, .v .str), (0, .v (.int .i64)), (4, .v (.sl .str)), (0, .v .str), (0, .v (.int .i64))]) (m := 104) (g := porterlaw02_OctetBack_g5 N) [7, 9, 2, 8, 0, 1] (evN_sound hb N (porterlaw02_OctetBack_t5 N) porterlaw02_OctetBack_L porterlaw02_OctetBack_body (TabOk.cons (porterlaw02_OctetBack_ok6 hb) TabOk.nil) [0, 0, 0, 1, 0, 0, 1, 0, 1, 1, 1, 1] _ rfl) (fun x K => by kernel_rfl)

noncomputable def porterlaw02_OctetBack_p4 (N : Nat) (a : (List UInt8)) (b : (List UInt8)) (size : Int) (l : (List (List UInt8))) (s : (List UInt8)) (i : Int) (k0 : Bool → Option Bool) (k1 : (List UInt8) → Option Bool) : Option Bool :=
  porterlaw02_OctetBack_p5 N a b size l s i
  (fun x6 => k0 x6)
  (cond (Go.Lift.inR i (List.length l))
    (cond (decide (((List.length s) + (List.length (List.getD l (Int.toNat i) ([] : List UInt8)))) ≤ 9223372036854775807))
      (k1 (s ++ (List.getD l (Int.toNat i) ([] : List UInt8))))
      (none))
    (none))

noncomputable def porterlaw02_OctetBack_g4 (N : Nat) (x : denS [(0, .v .str), (0, .v .str), (0, .v (.int .i64)), (4, .v (.sl .str)), (0, .v .str), (0, .v (.int .i64))]) (K : Ex → List A → Option Bool) : Option Bool :=
  porterlaw02_OctetBack_p4 N x.1 x.2.1 x.2.2.1 x.2.2.2.1 x.2.2.2.2.1 x.2.2.2.2.2.1 (fun a0 => (K .ret (mkS [(6, .v .bool)] 107 (a0, ())))) (fun a4 => (K .normal (mkS [(0, .v .str), (0, .v .str), (0, .v (.int .i64)), (4, .v (.sl .str)), (0, .v .str), (0, .v (.int .i64))] 104 (x.1, x.2.1, x.2.2.1, x.2.2.2.1, a4, x.2.2.2.2.2.1, ()))))

noncomputable def porterlaw02_OctetBack_h4 (N : Nat) : Hd Bool := fun st K => (unS [(0, .v .str), (0, .v .str), (0, .v (.int .i64)), (4, .v (.sl .str)), (0, .v .str), (0, .v (.int .i64))] 104 (restr [7, 9, 2, 8, 0, 1] 0 st)).bind fun x => porterlaw02_OctetBack_g4 N x K

noncomputable def porterlaw02_OctetBack_t4 (N : Nat) : Tab Bool := [([0, 0, 0, 1, 0, 0, 1, 0, 1, 1, 1, 1], porterlaw02_OctetBack_h5 N)]

theorem porterlaw02_OctetBack_ok4 {N : Nat} {c : Ctx} (hb : Base Go.Proofs.Try.prog (porterlaw02_OctetBack_E N) c) : CodeOk Go.Proofs.Try.prog c (nodeAt porterlaw02_OctetBack_body [0, 1, 0, 0, 1, 0, 1, 1, 1, 1]) (porterlaw02_OctetBack_h4 N) :=
  piece_ok (s := [(0, .v .str), (0, .v .str), (0, .v (.int .i64)), (4, .v (.sl .str)), (0, .v .str), (0, .v (.int .i64))]) (m := 104) (g := porterlaw02_OctetBack_g4 N) [7, 9, 2, 8, 0, 1] (evN_sound hb N (porterlaw02_OctetBack_t4 N) porterlaw02_OctetBack_L porterlaw02_OctetBack_body (TabOk.cons (porterlaw02_OctetBack_ok5 hb) TabOk.nil) [0, 1, 0, 0, 1, 0, 1, 1, 1, 1] _ rfl) (fun x K => by kernel_rfl)

noncomputable def porterlaw02_OctetBack_s3 (N : Nat) (a : (List UInt8)) (b : (List UInt8)) (size : Int) (l : (List (List UInt8))) (s : (List UInt8)) (i : Int) (rec : (List UInt8) → Int → Option Bool) (k0 : Bool → Option Bool) (k1 : (List UInt8) → Option Bool) : Option Bool :=
  cond (decide (i < (((List.length l) : Nat) : Int)))
  (porterlaw02_OctetBack_p4 N a b size l s i
    (fun x6 => k0 x6)
    (fun s1 => rec s1 (Go.IntKind.wrap Go.IntKind.i64 (i + (1 : Int)))))
  (k1 s)

noncomputable def porterlaw02_OctetBack_p3 (N : Nat) (a : (List UInt8)) (b : (List UInt8)) (size : Int) (l : (List (List UInt8))) (s : (List UInt8)) (i : Int) (k0 : Bool → Option Bool) (k1 : (List UInt8) → Option Bool) : Option Bool :=
  iter (fun (v : ((List UInt8) × Int)) r => porterlaw02_OctetBack_s3 N a b size l v.1 v.2 (fun s i => (r (s, i))) k0 k1) N (s, i)

noncomputable def porterlaw02_OctetBack_g3 (N : Nat) (i : ((List UInt8) × (List UInt8) × Int × (List (List UInt8)))) (v : ((List UInt8) × Int)) (r : ((List UInt8) × Int) → Option Bool) (K : Ex → List A → Option Bool) : Option Bool :=
  porterlaw02_OctetBack_s3 N i.1 i.2.1 i.2.2.1 i.2.2.2 v.1 v.2 (fun s i => (r (s, i))) (fun a0 => (K .ret (mkS [(6, .v .bool)] 107 (a0, ())))) (fun a4 => (K (.exit 0) (mkS [(0, .v .str), (0, .v .str), (0, .v (.int .i64)), (4, .v (.sl .str)), (0, .v .str)] 105 (i.1, i.2.1, i.2.2.1, i.2.2.2, a4, ()))))

noncomputable def porterlaw02_OctetBack_h3 (N : Nat) : Hd Bool := fun st K => (unS [(0, .v .str), (0, .v .str), (0, .v (.int .i64)), (4, .v (.sl .str)), (0, .v .str), (0, .v (.int .i64))] 104 (restr [9, 7, 2, 8, 0, 1] 0 st)).bind fun x => iter (fun v r => porterlaw02_OctetBack_g3 N ((fun x => (x.1, x.2.1, x.2.2.1, x.2.2.2.1)) x) v r K) N ((fun x => (x.2.2.2.2.1, x.2.2.2.2.2.1)) x)

noncomputable def porterlaw02_OctetBack_t3 (N : Nat) : Tab Bool := [([0, 1, 0, 0, 1, 0, 1, 1, 1, 1], porterlaw02_OctetBack_h4 N)]

theorem porterlaw02_OctetBack_ok3 {N : Nat} {c : Ctx} (hb : Base Go.Proofs.Try.prog (porterlaw02_OctetBack_E N) c) : CodeOk Go.Proofs.Try.prog c (nodeAt porterlaw02_OctetBack_body [0, 1, 0, 1, 1, 1, 1]) (porterlaw02_OctetBack_h3 N) :=
  loop_ok (s := [(0, .v .str), (0, .v .str), (0, .v (.int .i64)), (4, .v (.sl .str)), (0, .v .str), (0, .v (.int .i64))]) (m := 104) (porterlaw02_OctetBack_g3 N) [9, 7, 2, 8, 0, 1] N (fun x => (x.1, x.2.1, x.2.2.1, x.2.2.2.1)) (fun x => (x.2.2.2.2.1, x.2.2.2.2.2.1)) (fun i v => (i.1, i.2.1, i.2.2.1, i.2.2.2, v.1, v.2, ())) (fun _ => rfl) (evN_sound hb N (porterlaw02_OctetBack_t3 N) porterlaw02_OctetBack_L porterlaw02_OctetBack_body (TabOk.cons (porterlaw02_OctetBack_ok4 hb) TabOk.nil) [0, 0, 1, 0, 1, 1, 1, 1] _ rfl) (fun i v r K => by kernel_rfl)

noncomputable def porterlaw02_OctetBack_p8 (N : Nat) (a : (List UInt8)) (b : (List UInt8)) (size : Int) (l : (List (List UInt8))) (s : (List UInt8)) (k0 : Bool → Option Bool) : Option Bool :=
  cond (decide ((1 : Int) ≤ size))
  (cond (!(s == a))
    (k0 true)
    (cond (decide (size < (1 : Int)))
      (k0 (decide ((0 : Int) < (((List.length l) : Nat) : Int))))
      (k0 false)))
  (cond (decide (size < (1 : Int)))
    (k0 (decide ((0 : Int) < (((List.length l) : Nat) : Int))))
    (k0 false))

noncomputable def porterlaw02_OctetBack_g8 (N : Nat) (x : denS [(0, .v .str), (0, .v .str), (0, .v (.int .i64)), (4, .v (.sl .str)), (0, .v .str)]) (K : Ex → List A → Option Bool) : Option Bool :=
  porterlaw02_OctetBack_p8 N x.1 x.2.1 x.2.2.1 x.2.2.2.1 x.2.2.2.2.1 (fun a2 => (K .normal (mkS [(0, .v .str), (0, .v .str), (78, .v .bool)] 33 (x.1, x.2.1, a2, ()))))

noncomputable def porterlaw02_OctetBack_h8 (N : Nat) : Hd Bool := fun st K => (unS [(0, .v .str), (0, .v .str), (0, .v (.int .i64)), (4, .v (.sl .str)), (0, .v .str)] 105 (restr [2, 8, 0, 7, 1] 0 st)).bind fun x => porterlaw02_OctetBack_g8 N x K

noncomputable def porterlaw02_OctetBack_t8 (N : Nat) : Tab Bool := []

theorem porterlaw02_OctetBack_ok8 {N : Nat} {c : Ctx} (hb : Base Go.Proofs.Try.prog (porterlaw02_OctetBack_E N) c) : CodeOk Go.Proofs.Try.prog c (nodeAt porterlaw02_OctetBack_body [0, 0, 1, 1, 1, 1, 1]) (porterlaw02_OctetBack_h8 N) :=
  piece_ok (s := [(0, .v .str), (0, .v .str), (0, .v (.int .i64)), (4, .v (.sl .str)), (0, .v .str)]) (m := 105) (g := porterlaw02_OctetBack_g8 N) [2, 8, 0, 7, 1] (evN_sound hb N (porterlaw02_OctetBack_t8 N) porterlaw02_OctetBack_L porterlaw02_OctetBack_body TabOk.nil [0, 0, 1, 1, 1, 1, 1] _ rfl) (fun x K => by kernel_rfl)

noncomputable def porterlaw02_OctetBack_p7 (N : Nat) (a : (List UInt8)) (b : (List UInt8)) (size : Int) (l : (List (List UInt8))) (s : (List UInt8)) (k0 : Bool → Option Bool) (k1 : Option Bool) : Option Bool :=
  porterlaw02_OctetBack_p8 N a b size l s
  (fun x80 => cond x80
    (k0 false)
    (k1))

noncomputable def porterlaw02_OctetBack_g7 (N : Nat) (x : denS [(0, .v .str), (0, .v .str), (0, .v (.int .i64)), (4, .v (.sl .str)), (0, .v .str)]) (K : Ex → List A → Option Bool) : Option Bool :=
  porterlaw02_OctetBack_p7 N x.1 x.2.1 x.2.2.1 x.2.2.2.1 x.2.2.2.2.1 (fun a0 => (K .ret (mkS [(6, .v .bool)] 107 (a0, ())))) (K .normal (mkS [(0, .v .str), (0, .v .str)] 112 (x.1, x.2.1, ())))

noncomputable def porterlaw02_OctetBack_h7 (N : Nat) : Hd Bool := fun st K => (unS [(0, .v .str), (0, .v .str), (0, .v (.int .i64)), (4, .v (.sl .str)), (0, .v .str)] 105 (restr [2, 8, 0, 7, 1] 0 st)).bind fun x => porterlaw02_OctetBack_g7 N x K

noncomputable def porterlaw02_OctetBack_t7 (N : Nat) : Tab Bool := [([0, 0, 1, 1, 1, 1, 1], porterlaw02_OctetBack_h8 N)]

theorem porterlaw02_OctetBack_ok7 {N : Nat} {c : Ctx} (hb : Base Go.Proofs.Try.prog (porterlaw02_OctetBack_E N) c) : CodeOk Go.Proofs.Try.prog c (nodeAt porterlaw02_OctetBack_body [0, 1, 1, 1, 1, 1]) (porterlaw02_OctetBack_h7 N) :=
  piece_ok (s := [(0, .v .str), (0, .v .str), (0, .v (.int .i64)), (4, .v (.sl .str)), (0, .v .str)]) (m := 105) (g := porterlaw02_OctetBack_g7 N) [2, 8, 0, 7, 1] (evN_sound hb N (porterlaw02_OctetBack_t7 N) porterlaw02_OctetBack_L porterlaw02_OctetBack_body (TabOk.cons (porterlaw02_OctetBack_ok8 hb) TabOk.nil) [0, 1, 1, 1, 1, 1] _ rfl) (fun x K => by kernel_rfl)

noncomputable def porterlaw02_OctetBack (N : Nat) (a : (List UInt8)) (b : (List UInt8)) (size : Int) : Option Bool :=
  porterlaw02_OctetBack_p1 N a b size
  (fun x6 => some x6)
  ((octet_Cut N a size).bind fun y =>
    porterlaw02_OctetBack_p3 N a b size y ([] : List UInt8) (0 : Int)
    (fun x61 => some x61)
    (fun s => porterlaw02_OctetBack_p7 N a b size y s
      (fun x62 => some x62)
      ((octet_Xor N a b).bind fun y1 =>
        (octet_Xor N y1 b).bind fun y2 =>
        cond ((((List.length y2) : Nat) : Int) == (if ((((List.length b) : Nat) : Int) < (((List.length a) : Nat) : Int)) then (((List.length b) : Nat) : Int) else (((List.length a) : Nat) : Int)))
        (cond (decide (((0 : Int) ≤ (((List.length y2) : Nat) : Int)) ∧ ((((List.length y2) : Nat) : Int) ≤ (((List.length a) : Nat) : Int))))
          (cond (y2 == (Go.Lift.cut a 0 (Int.toNat (((List.length y2) : Nat) : Int))))
            ((octet_Xor N a b).bind fun y3 =>
              (octet_Xor N b a).bind fun y4 =>
              cond (y3 == y4)
              ((porterlaw02_works N).bind fun y5 =>
                some y5)
              (some false))
            (some false))
          (none))
        (some false))))

noncomputable def porterlaw02_OctetBack_t (N : Nat) : Tab Bool := [([0, 1], porterlaw02_OctetBack_h1 N), ([0, 1, 0, 1, 1, 1, 1], porterlaw02_OctetBack_h3 N), ([0, 1, 1, 1, 1, 1], porterlaw02_OctetBack_h7 N)]

theorem porterlaw02_OctetBack_link (N : Nat) (x : denS [(0, .v .str), (0, .v .str), (0, .v (.int .i64))]) : evFX (porterlaw02_OctetBack_E N) N (porterlaw02_OctetBack_t N) porterlaw02_OctetBack_L Go.Proofs.Try.f6 (mkS [(0, .v .str), (0, .v .str), (0, .v (.int .i64))] 0 x) (kRes (.v .bool) 3) = porterlaw02_OctetBack N x.1 x.2.1 x.2.2.1 := by kernel_rfl

noncomputable def porterlaw02_OctetBack_res (N : Nat) : List A → Res := resOf [(0, .v .str), (0, .v .str), (0, .v (.int .i64))] (fun x => porterlaw02_OctetBack N x.1 x.2.1 x.2.2.1) (oRes (.v .bool) 3)

theorem porterlaw02_OctetBack_ct (N : Nat) : Contract Go.Proofs.Try.prog noGlob 6 (porterlaw02_OctetBack_res N) :=
  Contract.of (E := porterlaw02_OctetBack_E N) (H := porterlaw02_OctetBack_t N) (L := porterlaw02_OctetBack_L) (N := N) (body := porterlaw02_OctetBack_body) (K := (kRes (.v .bool) 3)) (porterlaw02_OctetBack_Eok N) Go.Proofs.Try.func6 (by kernel_rfl) (by decide) (fun _ hb => (TabOk.cons (porterlaw02_OctetBack_ok1 hb) (TabOk.cons (porterlaw02_OctetBack_ok3 hb) (TabOk.cons (porterlaw02_OctetBack_ok7 hb) TabOk.nil)))) (fun x y h => by rw [porterlaw02_OctetBack_link]; exact h) (kRes_ok (s := (.v .bool)) (m := 3))

end Go.Proofs.YtjhjhfmemipflaaLf
