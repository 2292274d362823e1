/- The functions of the seat, as plain functions, and what their calls do. Printed by a program of mine; checked here. -/
import Derived.Test.YtdapjcoopdfmaaaLfW
import Derived.Test.YtdapjcoopdfmaaaChecked
import Derived.KernelRfl
namespace Go.Proofs.YtdapjcoopdfmaaaLf
open Go Go.Lift
set_option maxRecDepth 100000
set_option linter.all false

noncomputable def ty3 : TyI := ⟨(Go.TypeDesc.int Go.IntKind.i64), 1, 8, (.int .i64), (0 : Int)⟩

theorem ty3_ok : TyOk Go.Proofs.Try.prog 3 ty3 := TyOk.of (by kernel_rfl) (by kernel_rfl) (by kernel_rfl)

noncomputable def ty4 : TyI := ⟨Go.TypeDesc.bool, 1, 1, .bool, false⟩

theorem ty4_ok : TyOk Go.Proofs.Try.prog 4 ty4 := TyOk.of (by kernel_rfl) (by kernel_rfl) (by kernel_rfl)

noncomputable def ty25 : TyI := ⟨(Go.TypeDesc.slice 3), 1, 24, (.sl (.int .i64)), ([] : List Int)⟩

theorem ty25_ok : TyOk Go.Proofs.Try.prog 25 ty25 := TyOk.of (by kernel_rfl) (by kernel_rfl) (by kernel_rfl)

noncomputable def tys : List (Nat × TyI) := [(3, ty3), (4, ty4), (25, ty25)]

theorem tys_ok : TysOk Go.Proofs.Try.prog tys := TysOk.cons ty3_ok (TysOk.cons ty4_ok (TysOk.cons ty25_ok (TysOk.nil)))

theorem mixed : Go.Proofs.Try.prog.follows .mixedOrders = true := by kernel_rfl

abbrev satAdd_R : Type := Int

noncomputable def satAdd_body : Code := (Go.Proofs.Try.f7.body).getD .skip

noncomputable def satAdd_L : List (List Nat × List Nat) := [([0], [1, 0]), ([0, 0, 1], [12, 1, 0]), ([1, 0, 1], [1, 0]), ([0, 0, 1, 0, 1], [4]), ([1, 0, 1, 0, 1], [4]), ([0, 0, 1, 1], [20, 0, 1]), ([1, 0, 1, 1], [0, 1]), ([0, 0, 1, 0, 1, 1], [4]), ([1, 0, 1, 0, 1, 1], [4]), ([0, 1, 1, 1], [4]), ([1, 1, 1, 1], [4])]

noncomputable def satAdd_E (N : Nat) : Env := mkEnv tys noGlob [] [] [] [] false

theorem satAdd_Eok (N : Nat) : EnvOk Go.Proofs.Try.prog (satAdd_E N) := mkEnv_ok mixed tys_ok (FnsOk.nil)

noncomputable def satAdd_p2 (N : Nat) (a : Int) (b : Int) (k0 : Bool → Option Int) : Option Int :=
  cond (decide ((0 : Int) < b))
  (k0 (decide ((Go.IntKind.wrap Go.IntKind.i64 ((9223372036854775807 : Int) - b)) < a)))
  (k0 false)

noncomputable def satAdd_g2 (N : Nat) (x : denS [(0, .v (.int .i64)), (0, .v (.int .i64))]) (K : Ex → List A → Option Int) : Option Int :=
  satAdd_p2 N x.1 x.2.1 (fun a2 => (K .normal (mkS [(0, .v (.int .i64)), (0, .v (.int .i64)), (10, .v .bool)] 11 (x.1, x.2.1, a2, ()))))

noncomputable def satAdd_h2 (N : Nat) : Hd Int := fun st K => (unS [(0, .v (.int .i64)), (0, .v (.int .i64))] 22 (restr [1, 0] 0 st)).bind fun x => satAdd_g2 N x K

noncomputable def satAdd_t2 (N : Nat) : Tab Int := []

theorem satAdd_ok2 {N : Nat} {c : Ctx} (hb : Base Go.Proofs.Try.prog (satAdd_E N) c) : CodeOk Go.Proofs.Try.prog c (nodeAt satAdd_body [0, 0, 1]) (satAdd_h2 N) :=
  piece_ok (s := [(0, .v (.int .i64)), (0, .v (.int .i64))]) (m := 22) (g := satAdd_g2 N) [1, 0] (evN_sound hb N (satAdd_t2 N) satAdd_L satAdd_body TabOk.nil [0, 0, 1] _ rfl) (fun x K => by kernel_rfl)

noncomputable def satAdd_p1 (N : Nat) (a : Int) (b : Int) (k0 : Int → Option Int) (k1 : Option Int) : Option Int :=
  satAdd_p2 N a b
  (fun x12 => cond x12
    (k0 (9223372036854775807 : Int))
    (k1))

noncomputable def satAdd_g1 (N : Nat) (x : denS [(0, .v (.int .i64)), (0, .v (.int .i64))]) (K : Ex → List A → Option Int) : Option Int :=
  satAdd_p1 N x.1 x.2.1 (fun a0 => (K .ret (mkS [(4, .v (.int .i64))] 19 (a0, ())))) (K .normal (mkS [(0, .v (.int .i64)), (0, .v (.int .i64))] 22 (x.1, x.2.1, ())))

noncomputable def satAdd_h1 (N : Nat) : Hd Int := fun st K => (unS [(0, .v (.int .i64)), (0, .v (.int .i64))] 22 (restr [1, 0] 0 st)).bind fun x => satAdd_g1 N x K

noncomputable def satAdd_t1 (N : Nat) : Tab Int := [([0, 0, 1], satAdd_h2 N)]

theorem satAdd_ok1 {N : Nat} {c : Ctx} (hb : Base Go.Proofs.Try.prog (satAdd_E N) c) : CodeOk Go.Proofs.Try.prog c (nodeAt satAdd_body [0, 1]) (satAdd_h1 N) :=
  piece_ok (s := [(0, .v (.int .i64)), (0, .v (.int .i64))]) (m := 22) (g := satAdd_g1 N) [1, 0] (evN_sound hb N (satAdd_t1 N) satAdd_L satAdd_body (TabOk.cons (satAdd_ok2 hb) TabOk.nil) [0, 1] _ rfl) (fun x K => by kernel_rfl)

noncomputable def satAdd_p4 (N : Nat) (a : Int) (b : Int) (k0 : Bool → Option Int) : Option Int :=
  cond (decide (b < (0 : Int)))
  (k0 (decide (a < (Go.IntKind.wrap Go.IntKind.i64 ((-(9223372036854775808 : Int)) - b)))))
  (k0 false)

noncomputable def satAdd_g4 (N : Nat) (x : denS [(0, .v (.int .i64)), (0, .v (.int .i64))]) (K : Ex → List A → Option Int) : Option Int :=
  satAdd_p4 N x.1 x.2.1 (fun a2 => (K .normal (mkS [(0, .v (.int .i64)), (0, .v (.int .i64)), (18, .v .bool)] 3 (x.1, x.2.1, a2, ()))))

noncomputable def satAdd_h4 (N : Nat) : Hd Int := fun st K => (unS [(0, .v (.int .i64)), (0, .v (.int .i64))] 22 (restr [1, 0] 0 st)).bind fun x => satAdd_g4 N x K

noncomputable def satAdd_t4 (N : Nat) : Tab Int := []

theorem satAdd_ok4 {N : Nat} {c : Ctx} (hb : Base Go.Proofs.Try.prog (satAdd_E N) c) : CodeOk Go.Proofs.Try.prog c (nodeAt satAdd_body [0, 0, 1, 1]) (satAdd_h4 N) :=
  piece_ok (s := [(0, .v (.int .i64)), (0, .v (.int .i64))]) (m := 22) (g := satAdd_g4 N) [1, 0] (evN_sound hb N (satAdd_t4 N) satAdd_L satAdd_body TabOk.nil [0, 0, 1, 1] _ rfl) (fun x K => by kernel_rfl)

noncomputable def satAdd_p3 (N : Nat) (a : Int) (b : Int) (k0 : Int → Option Int) (k1 : Option Int) : Option Int :=
  satAdd_p4 N a b
  (fun x20 => cond x20
    (k0 (-(9223372036854775808 : Int)))
    (k1))

noncomputable def satAdd_g3 (N : Nat) (x : denS [(0, .v (.int .i64)), (0, .v (.int .i64))]) (K : Ex → List A → Option Int) : Option Int :=
  satAdd_p3 N x.1 x.2.1 (fun a0 => (K .ret (mkS [(4, .v (.int .i64))] 19 (a0, ())))) (K .normal (mkS [(0, .v (.int .i64)), (0, .v (.int .i64))] 22 (x.1, x.2.1, ())))

noncomputable def satAdd_h3 (N : Nat) : Hd Int := fun st K => (unS [(0, .v (.int .i64)), (0, .v (.int .i64))] 22 (restr [1, 0] 0 st)).bind fun x => satAdd_g3 N x K

noncomputable def satAdd_t3 (N : Nat) : Tab Int := [([0, 0, 1, 1], satAdd_h4 N)]

theorem satAdd_ok3 {N : Nat} {c : Ctx} (hb : Base Go.Proofs.Try.prog (satAdd_E N) c) : CodeOk Go.Proofs.Try.prog c (nodeAt satAdd_body [0, 1, 1]) (satAdd_h3 N) :=
  piece_ok (s := [(0, .v (.int .i64)), (0, .v (.int .i64))]) (m := 22) (g := satAdd_g3 N) [1, 0] (evN_sound hb N (satAdd_t3 N) satAdd_L satAdd_body (TabOk.cons (satAdd_ok4 hb) TabOk.nil) [0, 1, 1] _ rfl) (fun x K => by kernel_rfl)

noncomputable def satAdd (N : Nat) (a : Int) (b : Int) : Option Int :=
  satAdd_p1 N a b
  (fun x4 => some x4)
  (satAdd_p3 N a b
    (fun x41 => some x41)
    (some (Go.IntKind.wrap Go.IntKind.i64 (a + b))))

noncomputable def satAdd_t (N : Nat) : Tab Int := [([0, 1], satAdd_h1 N), ([0, 1, 1], satAdd_h3 N)]

theorem satAdd_link (N : Nat) (x : denS [(0, .v (.int .i64)), (0, .v (.int .i64))]) : evFX (satAdd_E N) N (satAdd_t N) satAdd_L Go.Proofs.Try.f7 (mkS [(0, .v (.int .i64)), (0, .v (.int .i64))] 0 x) (kRes (.v (.int .i64)) 2) = satAdd N x.1 x.2.1 := by kernel_rfl

noncomputable def satAdd_res (N : Nat) : List A → Res := resOf [(0, .v (.int .i64)), (0, .v (.int .i64))] (fun x => satAdd N x.1 x.2.1) (oRes (.v (.int .i64)) 2)

theorem satAdd_ct (N : Nat) : Contract Go.Proofs.Try.prog noGlob 7 (satAdd_res N) :=
  Contract.of (E := satAdd_E N) (H := satAdd_t N) (L := satAdd_L) (N := N) (body := satAdd_body) (K := kRes (.v (.int .i64)) 2) (satAdd_Eok N) Go.Proofs.Try.func7 (by kernel_rfl) (by decide) (fun _ hb => (TabOk.cons (satAdd_ok1 hb) (TabOk.cons (satAdd_ok3 hb) TabOk.nil))) (fun x y h => by rw [satAdd_link]; exact h) (kRes_ok (s := (.v (.int .i64))) (m := 2))

abbrev refAdd_R : Type := Int

noncomputable def refAdd_body : Code := (Go.Proofs.Try.f8.body).getD .skip

noncomputable def refAdd_L : List (List Nat × List Nat) := [([0], [1, 0]), ([0, 0, 1], [12, 1, 0]), ([1, 0, 1], [1, 0]), ([0, 0, 1, 0, 1], [4]), ([1, 0, 1, 0, 1], [4]), ([0, 0, 1, 1], [20, 0, 1]), ([1, 0, 1, 1], [0, 1]), ([0, 0, 1, 0, 1, 1], [4]), ([1, 0, 1, 0, 1, 1], [4]), ([0, 1, 1, 1], [4]), ([1, 1, 1, 1], [4])]

noncomputable def refAdd_E (N : Nat) : Env := mkEnv tys noGlob [] [] [] [] false

theorem refAdd_Eok (N : Nat) : EnvOk Go.Proofs.Try.prog (refAdd_E N) := mkEnv_ok mixed tys_ok (FnsOk.nil)

noncomputable def refAdd_p2 (N : Nat) (a : Int) (b : Int) (k0 : Bool → Option Int) : Option Int :=
  cond (decide ((0 : Int) < b))
  (k0 (decide ((Go.IntKind.wrap Go.IntKind.i64 ((9223372036854775807 : Int) - b)) < a)))
  (k0 false)

noncomputable def refAdd_g2 (N : Nat) (x : denS [(0, .v (.int .i64)), (0, .v (.int .i64))]) (K : Ex → List A → Option Int) : Option Int :=
  refAdd_p2 N x.1 x.2.1 (fun a2 => (K .normal (mkS [(0, .v (.int .i64)), (0, .v (.int .i64)), (10, .v .bool)] 11 (x.1, x.2.1, a2, ()))))

noncomputable def refAdd_h2 (N : Nat) : Hd Int := fun st K => (unS [(0, .v (.int .i64)), (0, .v (.int .i64))] 22 (restr [1, 0] 0 st)).bind fun x => refAdd_g2 N x K

noncomputable def refAdd_t2 (N : Nat) : Tab Int := []

theorem refAdd_ok2 {N : Nat} {c : Ctx} (hb : Base Go.Proofs.Try.prog (refAdd_E N) c) : CodeOk Go.Proofs.Try.prog c (nodeAt refAdd_body [0, 0, 1]) (refAdd_h2 N) :=
  piece_ok (s := [(0, .v (.int .i64)), (0, .v (.int .i64))]) (m := 22) (g := refAdd_g2 N) [1, 0] (evN_sound hb N (refAdd_t2 N) refAdd_L refAdd_body TabOk.nil [0, 0, 1] _ rfl) (fun x K => by kernel_rfl)

noncomputable def refAdd_p1 (N : Nat) (a : Int) (b : Int) (k0 : Int → Option Int) (k1 : Option Int) : Option Int :=
  refAdd_p2 N a b
  (fun x12 => cond x12
    (k0 (9223372036854775807 : Int))
    (k1))

noncomputable def refAdd_g1 (N : Nat) (x : denS [(0, .v (.int .i64)), (0, .v (.int .i64))]) (K : Ex → List A → Option Int) : Option Int :=
  refAdd_p1 N x.1 x.2.1 (fun a0 => (K .ret (mkS [(4, .v (.int .i64))] 19 (a0, ())))) (K .normal (mkS [(0, .v (.int .i64)), (0, .v (.int .i64))] 22 (x.1, x.2.1, ())))

noncomputable def refAdd_h1 (N : Nat) : Hd Int := fun st K => (unS [(0, .v (.int .i64)), (0, .v (.int .i64))] 22 (restr [1, 0] 0 st)).bind fun x => refAdd_g1 N x K

noncomputable def refAdd_t1 (N : Nat) : Tab Int := [([0, 0, 1], refAdd_h2 N)]

theorem refAdd_ok1 {N : Nat} {c : Ctx} (hb : Base Go.Proofs.Try.prog (refAdd_E N) c) : CodeOk Go.Proofs.Try.prog c (nodeAt refAdd_body [0, 1]) (refAdd_h1 N) :=
  piece_ok (s := [(0, .v (.int .i64)), (0, .v (.int .i64))]) (m := 22) (g := refAdd_g1 N) [1, 0] (evN_sound hb N (refAdd_t1 N) refAdd_L refAdd_body (TabOk.cons (refAdd_ok2 hb) TabOk.nil) [0, 1] _ rfl) (fun x K => by kernel_rfl)

noncomputable def refAdd_p4 (N : Nat) (a : Int) (b : Int) (k0 : Bool → Option Int) : Option Int :=
  cond (decide (b < (0 : Int)))
  (k0 (decide (a < (Go.IntKind.wrap Go.IntKind.i64 ((-(9223372036854775808 : Int)) - b)))))
  (k0 false)

noncomputable def refAdd_g4 (N : Nat) (x : denS [(0, .v (.int .i64)), (0, .v (.int .i64))]) (K : Ex → List A → Option Int) : Option Int :=
  refAdd_p4 N x.1 x.2.1 (fun a2 => (K .normal (mkS [(0, .v (.int .i64)), (0, .v (.int .i64)), (18, .v .bool)] 3 (x.1, x.2.1, a2, ()))))

noncomputable def refAdd_h4 (N : Nat) : Hd Int := fun st K => (unS [(0, .v (.int .i64)), (0, .v (.int .i64))] 22 (restr [1, 0] 0 st)).bind fun x => refAdd_g4 N x K

noncomputable def refAdd_t4 (N : Nat) : Tab Int := []

theorem refAdd_ok4 {N : Nat} {c : Ctx} (hb : Base Go.Proofs.Try.prog (refAdd_E N) c) : CodeOk Go.Proofs.Try.prog c (nodeAt refAdd_body [0, 0, 1, 1]) (refAdd_h4 N) :=
  piece_ok (s := [(0, .v (.int .i64)), (0, .v (.int .i64))]) (m := 22) (g := refAdd_g4 N) [1, 0] (evN_sound hb N (refAdd_t4 N) refAdd_L refAdd_body TabOk.nil [0, 0, 1, 1] _ rfl) (fun x K => by kernel_rfl)

noncomputable def refAdd_p3 (N : Nat) (a : Int) (b : Int) (k0 : Int → Option Int) (k1 : Option Int) : Option Int :=
  refAdd_p4 N a b
  (fun x20 => cond x20
    (k0 (-(9223372036854775808 : Int)))
    (k1))

noncomputable def refAdd_g3 (N : Nat) (x : denS [(0, .v (.int .i64)), (0, .v (.int .i64))]) (K : Ex → List A → Option Int) : Option Int :=
  refAdd_p3 N x.1 x.2.1 (fun a0 => (K .ret (mkS [(4, .v (.int .i64))] 19 (a0, ())))) (K .normal (mkS [(0, .v (.int .i64)), (0, .v (.int .i64))] 22 (x.1, x.2.1, ())))

noncomputable def refAdd_h3 (N : Nat) : Hd Int := fun st K => (unS [(0, .v (.int .i64)), (0, .v (.int .i64))] 22 (restr [1, 0] 0 st)).bind fun x => refAdd_g3 N x K

noncomputable def refAdd_t3 (N : Nat) : Tab Int := [([0, 0, 1, 1], refAdd_h4 N)]

theorem refAdd_ok3 {N : Nat} {c : Ctx} (hb : Base Go.Proofs.Try.prog (refAdd_E N) c) : CodeOk Go.Proofs.Try.prog c (nodeAt refAdd_body [0, 1, 1]) (refAdd_h3 N) :=
  piece_ok (s := [(0, .v (.int .i64)), (0, .v (.int .i64))]) (m := 22) (g := refAdd_g3 N) [1, 0] (evN_sound hb N (refAdd_t3 N) refAdd_L refAdd_body (TabOk.cons (refAdd_ok4 hb) TabOk.nil) [0, 1, 1] _ rfl) (fun x K => by kernel_rfl)

noncomputable def refAdd (N : Nat) (a : Int) (b : Int) : Option Int :=
  refAdd_p1 N a b
  (fun x4 => some x4)
  (refAdd_p3 N a b
    (fun x41 => some x41)
    (some (Go.IntKind.wrap Go.IntKind.i64 (a + b))))

noncomputable def refAdd_t (N : Nat) : Tab Int := [([0, 1], refAdd_h1 N), ([0, 1, 1], refAdd_h3 N)]

theorem refAdd_link (N : Nat) (x : denS [(0, .v (.int .i64)), (0, .v (.int .i64))]) : evFX (refAdd_E N) N (refAdd_t N) refAdd_L Go.Proofs.Try.f8 (mkS [(0, .v (.int .i64)), (0, .v (.int .i64))] 0 x) (kRes (.v (.int .i64)) 2) = refAdd N x.1 x.2.1 := by kernel_rfl

noncomputable def refAdd_res (N : Nat) : List A → Res := resOf [(0, .v (.int .i64)), (0, .v (.int .i64))] (fun x => refAdd N x.1 x.2.1) (oRes (.v (.int .i64)) 2)

theorem refAdd_ct (N : Nat) : Contract Go.Proofs.Try.prog noGlob 8 (refAdd_res N) :=
  Contract.of (E := refAdd_E N) (H := refAdd_t N) (L := refAdd_L) (N := N) (body := refAdd_body) (K := kRes (.v (.int .i64)) 2) (refAdd_Eok N) Go.Proofs.Try.func8 (by kernel_rfl) (by decide) (fun _ hb => (TabOk.cons (refAdd_ok1 hb) (TabOk.cons (refAdd_ok3 hb) TabOk.nil))) (fun x y h => by rw [refAdd_link]; exact h) (kRes_ok (s := (.v (.int .i64))) (m := 2))

abbrev satSub_R : Type := Int

noncomputable def satSub_body : Code := (Go.Proofs.Try.f9.body).getD .skip

noncomputable def satSub_L : List (List Nat × List Nat) := [([0], [1, 0]), ([0, 0, 1], [12, 1, 0]), ([1, 0, 1], [1, 0]), ([0, 0, 1, 0, 1], [4]), ([1, 0, 1, 0, 1], [4]), ([0, 0, 1, 1], [20, 0, 1]), ([1, 0, 1, 1], [0, 1]), ([0, 0, 1, 0, 1, 1], [4]), ([1, 0, 1, 0, 1, 1], [4]), ([0, 1, 1, 1], [4]), ([1, 1, 1, 1], [4])]

noncomputable def satSub_E (N : Nat) : Env := mkEnv tys noGlob [] [] [] [] false

theorem satSub_Eok (N : Nat) : EnvOk Go.Proofs.Try.prog (satSub_E N) := mkEnv_ok mixed tys_ok (FnsOk.nil)

noncomputable def satSub_p2 (N : Nat) (a : Int) (b : Int) (k0 : Bool → Option Int) : Option Int :=
  cond (decide (b < (0 : Int)))
  (k0 (decide ((Go.IntKind.wrap Go.IntKind.i64 ((9223372036854775807 : Int) + b)) < a)))
  (k0 false)

noncomputable def satSub_g2 (N : Nat) (x : denS [(0, .v (.int .i64)), (0, .v (.int .i64))]) (K : Ex → List A → Option Int) : Option Int :=
  satSub_p2 N x.1 x.2.1 (fun a2 => (K .normal (mkS [(0, .v (.int .i64)), (0, .v (.int .i64)), (10, .v .bool)] 11 (x.1, x.2.1, a2, ()))))

noncomputable def satSub_h2 (N : Nat) : Hd Int := fun st K => (unS [(0, .v (.int .i64)), (0, .v (.int .i64))] 22 (restr [1, 0] 0 st)).bind fun x => satSub_g2 N x K

noncomputable def satSub_t2 (N : Nat) : Tab Int := []

theorem satSub_ok2 {N : Nat} {c : Ctx} (hb : Base Go.Proofs.Try.prog (satSub_E N) c) : CodeOk Go.Proofs.Try.prog c (nodeAt satSub_body [0, 0, 1]) (satSub_h2 N) :=
  piece_ok (s := [(0, .v (.int .i64)), (0, .v (.int .i64))]) (m := 22) (g := satSub_g2 N) [1, 0] (evN_sound hb N (satSub_t2 N) satSub_L satSub_body TabOk.nil [0, 0, 1] _ rfl) (fun x K => by kernel_rfl)

noncomputable def satSub_p1 (N : Nat) (a : Int) (b : Int) (k0 : Int → Option Int) (k1 : Option Int) : Option Int :=
  satSub_p2 N a b
  (fun x12 => cond x12
    (k0 (9223372036854775807 : Int))
    (k1))

noncomputable def satSub_g1 (N : Nat) (x : denS [(0, .v (.int .i64)), (0, .v (.int .i64))]) (K : Ex → List A → Option Int) : Option Int :=
  satSub_p1 N x.1 x.2.1 (fun a0 => (K .ret (mkS [(4, .v (.int .i64))] 19 (a0, ())))) (K .normal (mkS [(0, .v (.int .i64)), (0, .v (.int .i64))] 22 (x.1, x.2.1, ())))

noncomputable def satSub_h1 (N : Nat) : Hd Int := fun st K => (unS [(0, .v (.int .i64)), (0, .v (.int .i64))] 22 (restr [1, 0] 0 st)).bind fun x => satSub_g1 N x K

noncomputable def satSub_t1 (N : Nat) : Tab Int := [([0, 0, 1], satSub_h2 N)]

theorem satSub_ok1 {N : Nat} {c : Ctx} (hb : Base Go.Proofs.Try.prog (satSub_E N) c) : CodeOk Go.Proofs.Try.prog c (nodeAt satSub_body [0, 1]) (satSub_h1 N) :=
  piece_ok (s := [(0, .v (.int .i64)), (0, .v (.int .i64))]) (m := 22) (g := satSub_g1 N) [1, 0] (evN_sound hb N (satSub_t1 N) satSub_L satSub_body (TabOk.cons (satSub_ok2 hb) TabOk.nil) [0, 1] _ rfl) (fun x K => by kernel_rfl)

noncomputable def satSub_p4 (N : Nat) (a : Int) (b : Int) (k0 : Bool → Option Int) : Option Int :=
  cond (decide ((0 : Int) < b))
  (k0 (decide (a < (Go.IntKind.wrap Go.IntKind.i64 ((-(9223372036854775808 : Int)) + b)))))
  (k0 false)

noncomputable def satSub_g4 (N : Nat) (x : denS [(0, .v (.int .i64)), (0, .v (.int .i64))]) (K : Ex → List A → Option Int) : Option Int :=
  satSub_p4 N x.1 x.2.1 (fun a2 => (K .normal (mkS [(0, .v (.int .i64)), (0, .v (.int .i64)), (18, .v .bool)] 3 (x.1, x.2.1, a2, ()))))

noncomputable def satSub_h4 (N : Nat) : Hd Int := fun st K => (unS [(0, .v (.int .i64)), (0, .v (.int .i64))] 22 (restr [1, 0] 0 st)).bind fun x => satSub_g4 N x K

noncomputable def satSub_t4 (N : Nat) : Tab Int := []

theorem satSub_ok4 {N : Nat} {c : Ctx} (hb : Base Go.Proofs.Try.prog (satSub_E N) c) : CodeOk Go.Proofs.Try.prog c (nodeAt satSub_body [0, 0, 1, 1]) (satSub_h4 N) :=
  piece_ok (s := [(0, .v (.int .i64)), (0, .v (.int .i64))]) (m := 22) (g := satSub_g4 N) [1, 0] (evN_sound hb N (satSub_t4 N) satSub_L satSub_body TabOk.nil [0, 0, 1, 1] _ rfl) (fun x K => by kernel_rfl)

noncomputable def satSub_p3 (N : Nat) (a : Int) (b : Int) (k0 : Int → Option Int) (k1 : Option Int) : Option Int :=
  satSub_p4 N a b
  (fun x20 => cond x20
    (k0 (-(9223372036854775808 : Int)))
    (k1))

noncomputable def satSub_g3 (N : Nat) (x : denS [(0, .v (.int .i64)), (0, .v (.int .i64))]) (K : Ex → List A → Option Int) : Option Int :=
  satSub_p3 N x.1 x.2.1 (fun a0 => (K .ret (mkS [(4, .v (.int .i64))] 19 (a0, ())))) (K .normal (mkS [(0, .v (.int .i64)), (0, .v (.int .i64))] 22 (x.1, x.2.1, ())))

noncomputable def satSub_h3 (N : Nat) : Hd Int := fun st K => (unS [(0, .v (.int .i64)), (0, .v (.int .i64))] 22 (restr [1, 0] 0 st)).bind fun x => satSub_g3 N x K

noncomputable def satSub_t3 (N : Nat) : Tab Int := [([0, 0, 1, 1], satSub_h4 N)]

theorem satSub_ok3 {N : Nat} {c : Ctx} (hb : Base Go.Proofs.Try.prog (satSub_E N) c) : CodeOk Go.Proofs.Try.prog c (nodeAt satSub_body [0, 1, 1]) (satSub_h3 N) :=
  piece_ok (s := [(0, .v (.int .i64)), (0, .v (.int .i64))]) (m := 22) (g := satSub_g3 N) [1, 0] (evN_sound hb N (satSub_t3 N) satSub_L satSub_body (TabOk.cons (satSub_ok4 hb) TabOk.nil) [0, 1, 1] _ rfl) (fun x K => by kernel_rfl)

noncomputable def satSub (N : Nat) (a : Int) (b : Int) : Option Int :=
  satSub_p1 N a b
  (fun x4 => some x4)
  (satSub_p3 N a b
    (fun x41 => some x41)
    (some (Go.IntKind.wrap Go.IntKind.i64 (a - b))))

noncomputable def satSub_t (N : Nat) : Tab Int := [([0, 1], satSub_h1 N), ([0, 1, 1], satSub_h3 N)]

theorem satSub_link (N : Nat) (x : denS [(0, .v (.int .i64)), (0, .v (.int .i64))]) : evFX (satSub_E N) N (satSub_t N) satSub_L Go.Proofs.Try.f9 (mkS [(0, .v (.int .i64)), (0, .v (.int .i64))] 0 x) (kRes (.v (.int .i64)) 2) = satSub N x.1 x.2.1 := by kernel_rfl

noncomputable def satSub_res (N : Nat) : List A → Res := resOf [(0, .v (.int .i64)), (0, .v (.int .i64))] (fun x => satSub N x.1 x.2.1) (oRes (.v (.int .i64)) 2)

theorem satSub_ct (N : Nat) : Contract Go.Proofs.Try.prog noGlob 9 (satSub_res N) :=
  Contract.of (E := satSub_E N) (H := satSub_t N) (L := satSub_L) (N := N) (body := satSub_body) (K := kRes (.v (.int .i64)) 2) (satSub_Eok N) Go.Proofs.Try.func9 (by kernel_rfl) (by decide) (fun _ hb => (TabOk.cons (satSub_ok1 hb) (TabOk.cons (satSub_ok3 hb) TabOk.nil))) (fun x y h => by rw [satSub_link]; exact h) (kRes_ok (s := (.v (.int .i64))) (m := 2))

abbrev refSub_R : Type := Int

noncomputable def refSub_body : Code := (Go.Proofs.Try.f10.body).getD .skip

noncomputable def refSub_L : List (List Nat × List Nat) := [([0], [1, 0]), ([0, 0, 1], [12, 1, 0]), ([1, 0, 1], [1, 0]), ([0, 0, 1, 0, 1], [4]), ([1, 0, 1, 0, 1], [4]), ([0, 0, 1, 1], [20, 0, 1]), ([1, 0, 1, 1], [0, 1]), ([0, 0, 1, 0, 1, 1], [4]), ([1, 0, 1, 0, 1, 1], [4]), ([0, 1, 1, 1], [4]), ([1, 1, 1, 1], [4])]

noncomputable def refSub_E (N : Nat) : Env := mkEnv tys noGlob [] [] [] [] false

theorem refSub_Eok (N : Nat) : EnvOk Go.Proofs.Try.prog (refSub_E N) := mkEnv_ok mixed tys_ok (FnsOk.nil)

noncomputable def refSub_p2 (N : Nat) (a : Int) (b : Int) (k0 : Bool → Option Int) : Option Int :=
  cond (decide (b < (0 : Int)))
  (k0 (decide ((Go.IntKind.wrap Go.IntKind.i64 ((9223372036854775807 : Int) + b)) < a)))
  (k0 false)

noncomputable def refSub_g2 (N : Nat) (x : denS [(0, .v (.int .i64)), (0, .v (.int .i64))]) (K : Ex → List A → Option Int) : Option Int :=
  refSub_p2 N x.1 x.2.1 (fun a2 => (K .normal (mkS [(0, .v (.int .i64)), (0, .v (.int .i64)), (10, .v .bool)] 11 (x.1, x.2.1, a2, ()))))

noncomputable def refSub_h2 (N : Nat) : Hd Int := fun st K => (unS [(0, .v (.int .i64)), (0, .v (.int .i64))] 22 (restr [1, 0] 0 st)).bind fun x => refSub_g2 N x K

noncomputable def refSub_t2 (N : Nat) : Tab Int := []

theorem refSub_ok2 {N : Nat} {c : Ctx} (hb : Base Go.Proofs.Try.prog (refSub_E N) c) : CodeOk Go.Proofs.Try.prog c (nodeAt refSub_body [0, 0, 1]) (refSub_h2 N) :=
  piece_ok (s := [(0, .v (.int .i64)), (0, .v (.int .i64))]) (m := 22) (g := refSub_g2 N) [1, 0] (evN_sound hb N (refSub_t2 N) refSub_L refSub_body TabOk.nil [0, 0, 1] _ rfl) (fun x K => by kernel_rfl)

noncomputable def refSub_p1 (N : Nat) (a : Int) (b : Int) (k0 : Int → Option Int) (k1 : Option Int) : Option Int :=
  refSub_p2 N a b
  (fun x12 => cond x12
    (k0 (9223372036854775807 : Int))
    (k1))

noncomputable def refSub_g1 (N : Nat) (x : denS [(0, .v (.int .i64)), (0, .v (.int .i64))]) (K : Ex → List A → Option Int) : Option Int :=
  refSub_p1 N x.1 x.2.1 (fun a0 => (K .ret (mkS [(4, .v (.int .i64))] 19 (a0, ())))) (K .normal (mkS [(0, .v (.int .i64)), (0, .v (.int .i64))] 22 (x.1, x.2.1, ())))

noncomputable def refSub_h1 (N : Nat) : Hd Int := fun st K => (unS [(0, .v (.int .i64)), (0, .v (.int .i64))] 22 (restr [1, 0] 0 st)).bind fun x => refSub_g1 N x K

noncomputable def refSub_t1 (N : Nat) : Tab Int := [([0, 0, 1], refSub_h2 N)]

theorem refSub_ok1 {N : Nat} {c : Ctx} (hb : Base Go.Proofs.Try.prog (refSub_E N) c) : CodeOk Go.Proofs.Try.prog c (nodeAt refSub_body [0, 1]) (refSub_h1 N) :=
  piece_ok (s := [(0, .v (.int .i64)), (0, .v (.int .i64))]) (m := 22) (g := refSub_g1 N) [1, 0] (evN_sound hb N (refSub_t1 N) refSub_L refSub_body (TabOk.cons (refSub_ok2 hb) TabOk.nil) [0, 1] _ rfl) (fun x K => by kernel_rfl)

noncomputable def refSub_p4 (N : Nat) (a : Int) (b : Int) (k0 : Bool → Option Int) : Option Int :=
  cond (decide ((0 : Int) < b))
  (k0 (decide (a < (Go.IntKind.wrap Go.IntKind.i64 ((-(9223372036854775808 : Int)) + b)))))
  (k0 false)

noncomputable def refSub_g4 (N : Nat) (x : denS [(0, .v (.int .i64)), (0, .v (.int .i64))]) (K : Ex → List A → Option Int) : Option Int :=
  refSub_p4 N x.1 x.2.1 (fun a2 => (K .normal (mkS [(0, .v (.int .i64)), (0, .v (.int .i64)), (18, .v .bool)] 3 (x.1, x.2.1, a2, ()))))

noncomputable def refSub_h4 (N : Nat) : Hd Int := fun st K => (unS [(0, .v (.int .i64)), (0, .v (.int .i64))] 22 (restr [1, 0] 0 st)).bind fun x => refSub_g4 N x K

noncomputable def refSub_t4 (N : Nat) : Tab Int := []

theorem refSub_ok4 {N : Nat} {c : Ctx} (hb : Base Go.Proofs.Try.prog (refSub_E N) c) : CodeOk Go.Proofs.Try.prog c (nodeAt refSub_body [0, 0, 1, 1]) (refSub_h4 N) :=
  piece_ok (s := [(0, .v (.int .i64)), (0, .v (.int .i64))]) (m := 22) (g := refSub_g4 N) [1, 0] (evN_sound hb N (refSub_t4 N) refSub_L refSub_body TabOk.nil [0, 0, 1, 1] _ rfl) (fun x K => by kernel_rfl)

noncomputable def refSub_p3 (N : Nat) (a : Int) (b : Int) (k0 : Int → Option Int) (k1 : Option Int) : Option Int :=
  refSub_p4 N a b
  (fun x20 => cond x20
    (k0 (-(9223372036854775808 : Int)))
    (k1))

noncomputable def refSub_g3 (N : Nat) (x : denS [(0, .v (.int .i64)), (0, .v (.int .i64))]) (K : Ex → List A → Option Int) : Option Int :=
  refSub_p3 N x.1 x.2.1 (fun a0 => (K .ret (mkS [(4, .v (.int .i64))] 19 (a0, ())))) (K .normal (mkS [(0, .v (.int .i64)), (0, .v (.int .i64))] 22 (x.1, x.2.1, ())))

noncomputable def refSub_h3 (N : Nat) : Hd Int := fun st K => (unS [(0, .v (.int .i64)), (0, .v (.int .i64))] 22 (restr [1, 0] 0 st)).bind fun x => refSub_g3 N x K

noncomputable def refSub_t3 (N : Nat) : Tab Int := [([0, 0, 1, 1], refSub_h4 N)]

theorem refSub_ok3 {N : Nat} {c : Ctx} (hb : Base Go.Proofs.Try.prog (refSub_E N) c) : CodeOk Go.Proofs.Try.prog c (nodeAt refSub_body [0, 1, 1]) (refSub_h3 N) :=
  piece_ok (s := [(0, .v (.int .i64)), (0, .v (.int .i64))]) (m := 22) (g := refSub_g3 N) [1, 0] (evN_sound hb N (refSub_t3 N) refSub_L refSub_body (TabOk.cons (refSub_ok4 hb) TabOk.nil) [0, 1, 1] _ rfl) (fun x K => by kernel_rfl)

noncomputable def refSub (N : Nat) (a : Int) (b : Int) : Option Int :=
  refSub_p1 N a b
  (fun x4 => some x4)
  (refSub_p3 N a b
    (fun x41 => some x41)
    (some (Go.IntKind.wrap Go.IntKind.i64 (a - b))))

noncomputable def refSub_t (N : Nat) : Tab Int := [([0, 1], refSub_h1 N), ([0, 1, 1], refSub_h3 N)]

theorem refSub_link (N : Nat) (x : denS [(0, .v (.int .i64)), (0, .v (.int .i64))]) : evFX (refSub_E N) N (refSub_t N) refSub_L Go.Proofs.Try.f10 (mkS [(0, .v (.int .i64)), (0, .v (.int .i64))] 0 x) (kRes (.v (.int .i64)) 2) = refSub N x.1 x.2.1 := by kernel_rfl

noncomputable def refSub_res (N : Nat) : List A → Res := resOf [(0, .v (.int .i64)), (0, .v (.int .i64))] (fun x => refSub N x.1 x.2.1) (oRes (.v (.int .i64)) 2)

theorem refSub_ct (N : Nat) : Contract Go.Proofs.Try.prog noGlob 10 (refSub_res N) :=
  Contract.of (E := refSub_E N) (H := refSub_t N) (L := refSub_L) (N := N) (body := refSub_body) (K := kRes (.v (.int .i64)) 2) (refSub_Eok N) Go.Proofs.Try.func10 (by kernel_rfl) (by decide) (fun _ hb => (TabOk.cons (refSub_ok1 hb) (TabOk.cons (refSub_ok3 hb) TabOk.nil))) (fun x y h => by rw [refSub_link]; exact h) (kRes_ok (s := (.v (.int .i64))) (m := 2))

abbrev refEnd_R : Type := Int

noncomputable def refEnd_body : Code := (Go.Proofs.Try.f19.body).getD .skip

noncomputable def refEnd_L : List (List Nat × List Nat) := [([0], [0]), ([0, 0, 1], [3]), ([1, 0, 1], []), ([0, 0, 1, 0, 1], [2]), ([1, 0, 1, 0, 1], [2]), ([0, 1, 1], [2]), ([1, 1, 1], [2])]

noncomputable def refEnd_E (N : Nat) : Env := mkEnv tys noGlob [] [] [] [] false

theorem refEnd_Eok (N : Nat) : EnvOk Go.Proofs.Try.prog (refEnd_E N) := mkEnv_ok mixed tys_ok (FnsOk.nil)

noncomputable def refEnd (N : Nat) (negative : Bool) : Option Int :=
  cond negative
  (some (-(9223372036854775808 : Int)))
  (some (9223372036854775807 : Int))

noncomputable def refEnd_t (N : Nat) : Tab Int := []

theorem refEnd_link (N : Nat) (x : denS [(0, .v .bool)]) : evFX (refEnd_E N) N (refEnd_t N) refEnd_L Go.Proofs.Try.f19 (mkS [(0, .v .bool)] 0 x) (kRes (.v (.int .i64)) 1) = refEnd N x.1 := by kernel_rfl

noncomputable def refEnd_res (N : Nat) : List A → Res := resOf [(0, .v .bool)] (fun x => refEnd N x.1) (oRes (.v (.int .i64)) 1)

theorem refEnd_ct (N : Nat) : Contract Go.Proofs.Try.prog noGlob 19 (refEnd_res N) :=
  Contract.of (E := refEnd_E N) (H := refEnd_t N) (L := refEnd_L) (N := N) (body := refEnd_body) (K := kRes (.v (.int .i64)) 1) (refEnd_Eok N) Go.Proofs.Try.func19 (by kernel_rfl) (by decide) (fun _ hb => TabOk.nil) (fun x y h => by rw [refEnd_link]; exact h) (kRes_ok (s := (.v (.int .i64))) (m := 1))

abbrev overflows_R : Type := Bool

noncomputable def overflows_body : Code := (Go.Proofs.Try.f18.body).getD .skip

noncomputable def overflows_L : List (List Nat × List Nat) := [([0], [0, 1]), ([0, 0, 1], [18, 0, 1]), ([1, 0, 1], [0, 1]), ([0, 0, 1, 0, 1], [4]), ([1, 0, 1, 0, 1], [4]), ([0, 1, 1], [4]), ([1, 1, 1], [4])]

noncomputable def overflows_E (N : Nat) : Env := mkEnv tys noGlob [] [] [] [] false

theorem overflows_Eok (N : Nat) : EnvOk Go.Proofs.Try.prog (overflows_E N) := mkEnv_ok mixed tys_ok (FnsOk.nil)

noncomputable def overflows_p2 (N : Nat) (a : Int) (b : Int) (k0 : Bool → Option Bool) : Option Bool :=
  cond (a == (-(9223372036854775808 : Int)))
  (cond (b == (-(1 : Int)))
    (k0 true)
    (cond (b == (-(9223372036854775808 : Int)))
      (k0 (a == (-(1 : Int))))
      (k0 false)))
  (cond (b == (-(9223372036854775808 : Int)))
    (k0 (a == (-(1 : Int))))
    (k0 false))

noncomputable def overflows_g2 (N : Nat) (x : denS [(0, .v (.int .i64)), (0, .v (.int .i64))]) (K : Ex → List A → Option Bool) : Option Bool :=
  overflows_p2 N x.1 x.2.1 (fun a2 => (K .normal (mkS [(0, .v (.int .i64)), (0, .v (.int .i64)), (16, .v .bool)] 7 (x.1, x.2.1, a2, ()))))

noncomputable def overflows_h2 (N : Nat) : Hd Bool := fun st K => (unS [(0, .v (.int .i64)), (0, .v (.int .i64))] 24 (restr [0, 1] 0 st)).bind fun x => overflows_g2 N x K

noncomputable def overflows_t2 (N : Nat) : Tab Bool := []

theorem overflows_ok2 {N : Nat} {c : Ctx} (hb : Base Go.Proofs.Try.prog (overflows_E N) c) : CodeOk Go.Proofs.Try.prog c (nodeAt overflows_body [0, 0, 1]) (overflows_h2 N) :=
  piece_ok (s := [(0, .v (.int .i64)), (0, .v (.int .i64))]) (m := 24) (g := overflows_g2 N) [0, 1] (evN_sound hb N (overflows_t2 N) overflows_L overflows_body TabOk.nil [0, 0, 1] _ rfl) (fun x K => by kernel_rfl)

noncomputable def overflows_p1 (N : Nat) (a : Int) (b : Int) (k0 : Bool → Option Bool) (k1 : Option Bool) : Option Bool :=
  overflows_p2 N a b
  (fun x18 => cond x18
    (k0 true)
    (k1))

noncomputable def overflows_g1 (N : Nat) (x : denS [(0, .v (.int .i64)), (0, .v (.int .i64))]) (K : Ex → List A → Option Bool) : Option Bool :=
  overflows_p1 N x.1 x.2.1 (fun a0 => (K .ret (mkS [(4, .v .bool)] 21 (a0, ())))) (K .normal (mkS [(0, .v (.int .i64)), (0, .v (.int .i64))] 24 (x.1, x.2.1, ())))

noncomputable def overflows_h1 (N : Nat) : Hd Bool := fun st K => (unS [(0, .v (.int .i64)), (0, .v (.int .i64))] 24 (restr [0, 1] 0 st)).bind fun x => overflows_g1 N x K

noncomputable def overflows_t1 (N : Nat) : Tab Bool := [([0, 0, 1], overflows_h2 N)]

theorem overflows_ok1 {N : Nat} {c : Ctx} (hb : Base Go.Proofs.Try.prog (overflows_E N) c) : CodeOk Go.Proofs.Try.prog c (nodeAt overflows_body [0, 1]) (overflows_h1 N) :=
  piece_ok (s := [(0, .v (.int .i64)), (0, .v (.int .i64))]) (m := 24) (g := overflows_g1 N) [0, 1] (evN_sound hb N (overflows_t1 N) overflows_L overflows_body (TabOk.cons (overflows_ok2 hb) TabOk.nil) [0, 1] _ rfl) (fun x K => by kernel_rfl)

noncomputable def overflows (N : Nat) (a : Int) (b : Int) : Option Bool :=
  overflows_p1 N a b
  (fun x4 => some x4)
  (cond (b == (0 : Int))
    (none)
    (some ((Go.IntKind.wrap Go.IntKind.i64 (Int.tdiv (Go.IntKind.wrap Go.IntKind.i64 (a * b)) b)) != a)))

noncomputable def overflows_t (N : Nat) : Tab Bool := [([0, 1], overflows_h1 N)]

theorem overflows_link (N : Nat) (x : denS [(0, .v (.int .i64)), (0, .v (.int .i64))]) : evFX (overflows_E N) N (overflows_t N) overflows_L Go.Proofs.Try.f18 (mkS [(0, .v (.int .i64)), (0, .v (.int .i64))] 0 x) (kRes (.v .bool) 2) = overflows N x.1 x.2.1 := by kernel_rfl

noncomputable def overflows_res (N : Nat) : List A → Res := resOf [(0, .v (.int .i64)), (0, .v (.int .i64))] (fun x => overflows N x.1 x.2.1) (oRes (.v .bool) 2)

theorem overflows_ct (N : Nat) : Contract Go.Proofs.Try.prog noGlob 18 (overflows_res N) :=
  Contract.of (E := overflows_E N) (H := overflows_t N) (L := overflows_L) (N := N) (body := overflows_body) (K := kRes (.v .bool) 2) (overflows_Eok N) Go.Proofs.Try.func18 (by kernel_rfl) (by decide) (fun _ hb => (TabOk.cons (overflows_ok1 hb) TabOk.nil)) (fun x y h => by rw [overflows_link]; exact h) (kRes_ok (s := (.v .bool)) (m := 2))

abbrev satMul_R : Type := Int

noncomputable def satMul_body : Code := (Go.Proofs.Try.f11.body).getD .skip

noncomputable def satMul_L : List (List Nat × List Nat) := [([0], [0, 1]), ([0, 0, 1], [10, 0, 1]), ([1, 0, 1], [0, 1]), ([0, 0, 1, 0, 1], [4]), ([1, 0, 1, 0, 1], [4]), ([0, 0, 1, 1], [13, 0, 1]), ([1, 0, 1, 1], [0, 1]), ([0, 0, 1, 0, 1, 1], [4]), ([1, 0, 1, 0, 1, 1], [4]), ([0, 1, 1, 1], [4]), ([1, 1, 1, 1], [4])]

noncomputable def satMul_E (N : Nat) : Env := mkEnv tys noGlob [(18, overflows_res N), (19, refEnd_res N)] [] [] [] false

theorem satMul_Eok (N : Nat) : EnvOk Go.Proofs.Try.prog (satMul_E N) := mkEnv_ok mixed tys_ok (FnsOk.cons (overflows_ct N) (FnsOk.cons (refEnd_ct N) (FnsOk.nil)))

noncomputable def satMul_p2 (N : Nat) (a : Int) (b : Int) (k0 : Bool → Option Int) : Option Int :=
  cond (a == (0 : Int))
  (k0 true)
  (k0 (b == (0 : Int)))

noncomputable def satMul_g2 (N : Nat) (x : denS [(0, .v (.int .i64)), (0, .v (.int .i64))]) (K : Ex → List A → Option Int) : Option Int :=
  satMul_p2 N x.1 x.2.1 (fun a2 => (K .normal (mkS [(0, .v (.int .i64)), (0, .v (.int .i64)), (8, .v .bool)] 12 (x.1, x.2.1, a2, ()))))

noncomputable def satMul_h2 (N : Nat) : Hd Int := fun st K => (unS [(0, .v (.int .i64)), (0, .v (.int .i64))] 21 (restr [0, 1] 0 st)).bind fun x => satMul_g2 N x K

noncomputable def satMul_t2 (N : Nat) : Tab Int := []

theorem satMul_ok2 {N : Nat} {c : Ctx} (hb : Base Go.Proofs.Try.prog (satMul_E N) c) : CodeOk Go.Proofs.Try.prog c (nodeAt satMul_body [0, 0, 1]) (satMul_h2 N) :=
  piece_ok (s := [(0, .v (.int .i64)), (0, .v (.int .i64))]) (m := 21) (g := satMul_g2 N) [0, 1] (evN_sound hb N (satMul_t2 N) satMul_L satMul_body TabOk.nil [0, 0, 1] _ rfl) (fun x K => by kernel_rfl)

noncomputable def satMul_p1 (N : Nat) (a : Int) (b : Int) (k0 : Int → Option Int) (k1 : Option Int) : Option Int :=
  satMul_p2 N a b
  (fun x10 => cond x10
    (k0 (0 : Int))
    (k1))

noncomputable def satMul_g1 (N : Nat) (x : denS [(0, .v (.int .i64)), (0, .v (.int .i64))]) (K : Ex → List A → Option Int) : Option Int :=
  satMul_p1 N x.1 x.2.1 (fun a0 => (K .ret (mkS [(4, .v (.int .i64))] 18 (a0, ())))) (K .normal (mkS [(0, .v (.int .i64)), (0, .v (.int .i64))] 21 (x.1, x.2.1, ())))

noncomputable def satMul_h1 (N : Nat) : Hd Int := fun st K => (unS [(0, .v (.int .i64)), (0, .v (.int .i64))] 21 (restr [0, 1] 0 st)).bind fun x => satMul_g1 N x K

noncomputable def satMul_t1 (N : Nat) : Tab Int := [([0, 0, 1], satMul_h2 N)]

theorem satMul_ok1 {N : Nat} {c : Ctx} (hb : Base Go.Proofs.Try.prog (satMul_E N) c) : CodeOk Go.Proofs.Try.prog c (nodeAt satMul_body [0, 1]) (satMul_h1 N) :=
  piece_ok (s := [(0, .v (.int .i64)), (0, .v (.int .i64))]) (m := 21) (g := satMul_g1 N) [0, 1] (evN_sound hb N (satMul_t1 N) satMul_L satMul_body (TabOk.cons (satMul_ok2 hb) TabOk.nil) [0, 1] _ rfl) (fun x K => by kernel_rfl)

noncomputable def satMul (N : Nat) (a : Int) (b : Int) : Option Int :=
  satMul_p1 N a b
  (fun x4 => some x4)
  ((overflows N a b).bind fun y =>
    cond y
    ((refEnd N (!((decide (a < (0 : Int))) == (decide (b < (0 : Int)))))).bind fun y1 =>
      some y1)
    (some (Go.IntKind.wrap Go.IntKind.i64 (a * b))))

noncomputable def satMul_t (N : Nat) : Tab Int := [([0, 1], satMul_h1 N)]

theorem satMul_link (N : Nat) (x : denS [(0, .v (.int .i64)), (0, .v (.int .i64))]) : evFX (satMul_E N) N (satMul_t N) satMul_L Go.Proofs.Try.f11 (mkS [(0, .v (.int .i64)), (0, .v (.int .i64))] 0 x) (kRes (.v (.int .i64)) 2) = satMul N x.1 x.2.1 := by kernel_rfl

noncomputable def satMul_res (N : Nat) : List A → Res := resOf [(0, .v (.int .i64)), (0, .v (.int .i64))] (fun x => satMul N x.1 x.2.1) (oRes (.v (.int .i64)) 2)

theorem satMul_ct (N : Nat) : Contract Go.Proofs.Try.prog noGlob 11 (satMul_res N) :=
  Contract.of (E := satMul_E N) (H := satMul_t N) (L := satMul_L) (N := N) (body := satMul_body) (K := kRes (.v (.int .i64)) 2) (satMul_Eok N) Go.Proofs.Try.func11 (by kernel_rfl) (by decide) (fun _ hb => (TabOk.cons (satMul_ok1 hb) TabOk.nil)) (fun x y h => by rw [satMul_link]; exact h) (kRes_ok (s := (.v (.int .i64))) (m := 2))

abbrev refMul_R : Type := Int

noncomputable def refMul_body : Code := (Go.Proofs.Try.f12.body).getD .skip

noncomputable def refMul_L : List (List Nat × List Nat) := [([0], [0, 1]), ([0, 0, 1], [10, 0, 1]), ([1, 0, 1], [0, 1]), ([0, 0, 1, 0, 1], [4]), ([1, 0, 1, 0, 1], [4]), ([0, 0, 1, 1], [22, 0, 1]), ([1, 0, 1, 1], [0, 1]), ([0, 0, 1, 0, 1, 1], [4]), ([1, 0, 1, 0, 1, 1], [4]), ([0, 0, 1, 1, 1], [34, 0, 1]), ([1, 0, 1, 1, 1], [0, 1]), ([0, 0, 1, 0, 1, 1, 1], [4]), ([1, 0, 1, 0, 1, 1, 1], [4]), ([0, 0, 1, 1, 1, 1], [60, 0, 1]), ([1, 0, 1, 1, 1, 1], [0, 1]), ([0, 0, 1, 0, 1, 1, 1, 1], [4]), ([1, 0, 1, 0, 1, 1, 1, 1], [4]), ([0, 1, 1, 1, 1, 1], [4]), ([1, 1, 1, 1, 1, 1], [4])]

noncomputable def refMul_E (N : Nat) : Env := mkEnv tys noGlob [] [] [] [] false

theorem refMul_Eok (N : Nat) : EnvOk Go.Proofs.Try.prog (refMul_E N) := mkEnv_ok mixed tys_ok (FnsOk.nil)

noncomputable def refMul_p2 (N : Nat) (a : Int) (b : Int) (k0 : Bool → Option Int) : Option Int :=
  cond (a == (0 : Int))
  (k0 true)
  (k0 (b == (0 : Int)))

noncomputable def refMul_g2 (N : Nat) (x : denS [(0, .v (.int .i64)), (0, .v (.int .i64))]) (K : Ex → List A → Option Int) : Option Int :=
  refMul_p2 N x.1 x.2.1 (fun a2 => (K .normal (mkS [(0, .v (.int .i64)), (0, .v (.int .i64)), (8, .v .bool)] 53 (x.1, x.2.1, a2, ()))))

noncomputable def refMul_h2 (N : Nat) : Hd Int := fun st K => (unS [(0, .v (.int .i64)), (0, .v (.int .i64))] 62 (restr [0, 1] 0 st)).bind fun x => refMul_g2 N x K

noncomputable def refMul_t2 (N : Nat) : Tab Int := []

theorem refMul_ok2 {N : Nat} {c : Ctx} (hb : Base Go.Proofs.Try.prog (refMul_E N) c) : CodeOk Go.Proofs.Try.prog c (nodeAt refMul_body [0, 0, 1]) (refMul_h2 N) :=
  piece_ok (s := [(0, .v (.int .i64)), (0, .v (.int .i64))]) (m := 62) (g := refMul_g2 N) [0, 1] (evN_sound hb N (refMul_t2 N) refMul_L refMul_body TabOk.nil [0, 0, 1] _ rfl) (fun x K => by kernel_rfl)

noncomputable def refMul_p1 (N : Nat) (a : Int) (b : Int) (k0 : Int → Option Int) (k1 : Option Int) : Option Int :=
  refMul_p2 N a b
  (fun x10 => cond x10
    (k0 (0 : Int))
    (k1))

noncomputable def refMul_g1 (N : Nat) (x : denS [(0, .v (.int .i64)), (0, .v (.int .i64))]) (K : Ex → List A → Option Int) : Option Int :=
  refMul_p1 N x.1 x.2.1 (fun a0 => (K .ret (mkS [(4, .v (.int .i64))] 59 (a0, ())))) (K .normal (mkS [(0, .v (.int .i64)), (0, .v (.int .i64))] 62 (x.1, x.2.1, ())))

noncomputable def refMul_h1 (N : Nat) : Hd Int := fun st K => (unS [(0, .v (.int .i64)), (0, .v (.int .i64))] 62 (restr [0, 1] 0 st)).bind fun x => refMul_g1 N x K

noncomputable def refMul_t1 (N : Nat) : Tab Int := [([0, 0, 1], refMul_h2 N)]

theorem refMul_ok1 {N : Nat} {c : Ctx} (hb : Base Go.Proofs.Try.prog (refMul_E N) c) : CodeOk Go.Proofs.Try.prog c (nodeAt refMul_body [0, 1]) (refMul_h1 N) :=
  piece_ok (s := [(0, .v (.int .i64)), (0, .v (.int .i64))]) (m := 62) (g := refMul_g1 N) [0, 1] (evN_sound hb N (refMul_t1 N) refMul_L refMul_body (TabOk.cons (refMul_ok2 hb) TabOk.nil) [0, 1] _ rfl) (fun x K => by kernel_rfl)

noncomputable def refMul_p4 (N : Nat) (a : Int) (b : Int) (k0 : Bool → Option Int) : Option Int :=
  cond (decide ((0 : Int) < a))
  (cond (decide ((0 : Int) < b))
    (cond (b == (0 : Int))
      (none)
      (k0 (decide ((Go.IntKind.wrap Go.IntKind.i64 (Int.tdiv (9223372036854775807 : Int) b)) < a))))
    (k0 false))
  (k0 false)

noncomputable def refMul_g4 (N : Nat) (x : denS [(0, .v (.int .i64)), (0, .v (.int .i64))]) (K : Ex → List A → Option Int) : Option Int :=
  refMul_p4 N x.1 x.2.1 (fun a2 => (K .normal (mkS [(0, .v (.int .i64)), (0, .v (.int .i64)), (20, .v .bool)] 41 (x.1, x.2.1, a2, ()))))

noncomputable def refMul_h4 (N : Nat) : Hd Int := fun st K => (unS [(0, .v (.int .i64)), (0, .v (.int .i64))] 62 (restr [0, 1] 0 st)).bind fun x => refMul_g4 N x K

noncomputable def refMul_t4 (N : Nat) : Tab Int := []

theorem refMul_ok4 {N : Nat} {c : Ctx} (hb : Base Go.Proofs.Try.prog (refMul_E N) c) : CodeOk Go.Proofs.Try.prog c (nodeAt refMul_body [0, 0, 1, 1]) (refMul_h4 N) :=
  piece_ok (s := [(0, .v (.int .i64)), (0, .v (.int .i64))]) (m := 62) (g := refMul_g4 N) [0, 1] (evN_sound hb N (refMul_t4 N) refMul_L refMul_body TabOk.nil [0, 0, 1, 1] _ rfl) (fun x K => by kernel_rfl)

noncomputable def refMul_p3 (N : Nat) (a : Int) (b : Int) (k0 : Int → Option Int) (k1 : Option Int) : Option Int :=
  refMul_p4 N a b
  (fun x22 => cond x22
    (k0 (9223372036854775807 : Int))
    (k1))

noncomputable def refMul_g3 (N : Nat) (x : denS [(0, .v (.int .i64)), (0, .v (.int .i64))]) (K : Ex → List A → Option Int) : Option Int :=
  refMul_p3 N x.1 x.2.1 (fun a0 => (K .ret (mkS [(4, .v (.int .i64))] 59 (a0, ())))) (K .normal (mkS [(0, .v (.int .i64)), (0, .v (.int .i64))] 62 (x.1, x.2.1, ())))

noncomputable def refMul_h3 (N : Nat) : Hd Int := fun st K => (unS [(0, .v (.int .i64)), (0, .v (.int .i64))] 62 (restr [0, 1] 0 st)).bind fun x => refMul_g3 N x K

noncomputable def refMul_t3 (N : Nat) : Tab Int := [([0, 0, 1, 1], refMul_h4 N)]

theorem refMul_ok3 {N : Nat} {c : Ctx} (hb : Base Go.Proofs.Try.prog (refMul_E N) c) : CodeOk Go.Proofs.Try.prog c (nodeAt refMul_body [0, 1, 1]) (refMul_h3 N) :=
  piece_ok (s := [(0, .v (.int .i64)), (0, .v (.int .i64))]) (m := 62) (g := refMul_g3 N) [0, 1] (evN_sound hb N (refMul_t3 N) refMul_L refMul_body (TabOk.cons (refMul_ok4 hb) TabOk.nil) [0, 1, 1] _ rfl) (fun x K => by kernel_rfl)

noncomputable def refMul_p6 (N : Nat) (a : Int) (b : Int) (k0 : Bool → Option Int) : Option Int :=
  cond (decide (a < (0 : Int)))
  (cond (decide (b < (0 : Int)))
    (cond (b == (0 : Int))
      (none)
      (k0 (decide (a < (Go.IntKind.wrap Go.IntKind.i64 (Int.tdiv (9223372036854775807 : Int) b))))))
    (k0 false))
  (k0 false)

noncomputable def refMul_g6 (N : Nat) (x : denS [(0, .v (.int .i64)), (0, .v (.int .i64))]) (K : Ex → List A → Option Int) : Option Int :=
  refMul_p6 N x.1 x.2.1 (fun a2 => (K .normal (mkS [(0, .v (.int .i64)), (0, .v (.int .i64)), (32, .v .bool)] 29 (x.1, x.2.1, a2, ()))))

noncomputable def refMul_h6 (N : Nat) : Hd Int := fun st K => (unS [(0, .v (.int .i64)), (0, .v (.int .i64))] 62 (restr [0, 1] 0 st)).bind fun x => refMul_g6 N x K

noncomputable def refMul_t6 (N : Nat) : Tab Int := []

theorem refMul_ok6 {N : Nat} {c : Ctx} (hb : Base Go.Proofs.Try.prog (refMul_E N) c) : CodeOk Go.Proofs.Try.prog c (nodeAt refMul_body [0, 0, 1, 1, 1]) (refMul_h6 N) :=
  piece_ok (s := [(0, .v (.int .i64)), (0, .v (.int .i64))]) (m := 62) (g := refMul_g6 N) [0, 1] (evN_sound hb N (refMul_t6 N) refMul_L refMul_body TabOk.nil [0, 0, 1, 1, 1] _ rfl) (fun x K => by kernel_rfl)

noncomputable def refMul_p5 (N : Nat) (a : Int) (b : Int) (k0 : Int → Option Int) (k1 : Option Int) : Option Int :=
  refMul_p6 N a b
  (fun x34 => cond x34
    (k0 (9223372036854775807 : Int))
    (k1))

noncomputable def refMul_g5 (N : Nat) (x : denS [(0, .v (.int .i64)), (0, .v (.int .i64))]) (K : Ex → List A → Option Int) : Option Int :=
  refMul_p5 N x.1 x.2.1 (fun a0 => (K .ret (mkS [(4, .v (.int .i64))] 59 (a0, ())))) (K .normal (mkS [(0, .v (.int .i64)), (0, .v (.int .i64))] 62 (x.1, x.2.1, ())))

noncomputable def refMul_h5 (N : Nat) : Hd Int := fun st K => (unS [(0, .v (.int .i64)), (0, .v (.int .i64))] 62 (restr [0, 1] 0 st)).bind fun x => refMul_g5 N x K

noncomputable def refMul_t5 (N : Nat) : Tab Int := [([0, 0, 1, 1, 1], refMul_h6 N)]

theorem refMul_ok5 {N : Nat} {c : Ctx} (hb : Base Go.Proofs.Try.prog (refMul_E N) c) : CodeOk Go.Proofs.Try.prog c (nodeAt refMul_body [0, 1, 1, 1]) (refMul_h5 N) :=
  piece_ok (s := [(0, .v (.int .i64)), (0, .v (.int .i64))]) (m := 62) (g := refMul_g5 N) [0, 1] (evN_sound hb N (refMul_t5 N) refMul_L refMul_body (TabOk.cons (refMul_ok6 hb) TabOk.nil) [0, 1, 1, 1] _ rfl) (fun x K => by kernel_rfl)

noncomputable def refMul_p8 (N : Nat) (a : Int) (b : Int) (k0 : Bool → Option Int) : Option Int :=
  cond (decide ((0 : Int) < a))
  (cond (decide (b < (0 : Int)))
    (cond (a == (0 : Int))
      (none)
      (cond (decide (b < (Go.IntKind.wrap Go.IntKind.i64 (Int.tdiv (-(9223372036854775808 : Int)) a))))
        (k0 true)
        (cond (decide (a < (0 : Int)))
          (cond (decide ((0 : Int) < b))
            (cond (b == (0 : Int))
              (none)
              (k0 (decide (a < (Go.IntKind.wrap Go.IntKind.i64 (Int.tdiv (-(9223372036854775808 : Int)) b))))))
            (k0 false))
          (k0 false))))
    (cond (decide (a < (0 : Int)))
      (cond (decide ((0 : Int) < b))
        (cond (b == (0 : Int))
          (none)
          (k0 (decide (a < (Go.IntKind.wrap Go.IntKind.i64 (Int.tdiv (-(9223372036854775808 : Int)) b))))))
        (k0 false))
      (k0 false)))
  (cond (decide (a < (0 : Int)))
    (cond (decide ((0 : Int) < b))
      (cond (b == (0 : Int))
        (none)
        (k0 (decide (a < (Go.IntKind.wrap Go.IntKind.i64 (Int.tdiv (-(9223372036854775808 : Int)) b))))))
      (k0 false))
    (k0 false))

noncomputable def refMul_g8 (N : Nat) (x : denS [(0, .v (.int .i64)), (0, .v (.int .i64))]) (K : Ex → List A → Option Int) : Option Int :=
  refMul_p8 N x.1 x.2.1 (fun a2 => (K .normal (mkS [(0, .v (.int .i64)), (0, .v (.int .i64)), (58, .v .bool)] 3 (x.1, x.2.1, a2, ()))))

noncomputable def refMul_h8 (N : Nat) : Hd Int := fun st K => (unS [(0, .v (.int .i64)), (0, .v (.int .i64))] 62 (restr [0, 1] 0 st)).bind fun x => refMul_g8 N x K

noncomputable def refMul_t8 (N : Nat) : Tab Int := []

theorem refMul_ok8 {N : Nat} {c : Ctx} (hb : Base Go.Proofs.Try.prog (refMul_E N) c) : CodeOk Go.Proofs.Try.prog c (nodeAt refMul_body [0, 0, 1, 1, 1, 1]) (refMul_h8 N) :=
  piece_ok (s := [(0, .v (.int .i64)), (0, .v (.int .i64))]) (m := 62) (g := refMul_g8 N) [0, 1] (evN_sound hb N (refMul_t8 N) refMul_L refMul_body TabOk.nil [0, 0, 1, 1, 1, 1] _ rfl) (fun x K => by kernel_rfl)

noncomputable def refMul_p7 (N : Nat) (a : Int) (b : Int) (k0 : Int → Option Int) (k1 : Option Int) : Option Int :=
  refMul_p8 N a b
  (fun x60 => cond x60
    (k0 (-(9223372036854775808 : Int)))
    (k1))

noncomputable def refMul_g7 (N : Nat) (x : denS [(0, .v (.int .i64)), (0, .v (.int .i64))]) (K : Ex → List A → Option Int) : Option Int :=
  refMul_p7 N x.1 x.2.1 (fun a0 => (K .ret (mkS [(4, .v (.int .i64))] 59 (a0, ())))) (K .normal (mkS [(0, .v (.int .i64)), (0, .v (.int .i64))] 62 (x.1, x.2.1, ())))

noncomputable def refMul_h7 (N : Nat) : Hd Int := fun st K => (unS [(0, .v (.int .i64)), (0, .v (.int .i64))] 62 (restr [0, 1] 0 st)).bind fun x => refMul_g7 N x K

noncomputable def refMul_t7 (N : Nat) : Tab Int := [([0, 0, 1, 1, 1, 1], refMul_h8 N)]

theorem refMul_ok7 {N : Nat} {c : Ctx} (hb : Base Go.Proofs.Try.prog (refMul_E N) c) : CodeOk Go.Proofs.Try.prog c (nodeAt refMul_body [0, 1, 1, 1, 1]) (refMul_h7 N) :=
  piece_ok (s := [(0, .v (.int .i64)), (0, .v (.int .i64))]) (m := 62) (g := refMul_g7 N) [0, 1] (evN_sound hb N (refMul_t7 N) refMul_L refMul_body (TabOk.cons (refMul_ok8 hb) TabOk.nil) [0, 1, 1, 1, 1] _ rfl) (fun x K => by kernel_rfl)

noncomputable def refMul (N : Nat) (a : Int) (b : Int) : Option Int :=
  refMul_p1 N a b
  (fun x4 => some x4)
  (refMul_p3 N a b
    (fun x41 => some x41)
    (refMul_p5 N a b
      (fun x42 => some x42)
      (refMul_p7 N a b
        (fun x43 => some x43)
        (some (Go.IntKind.wrap Go.IntKind.i64 (a * b))))))

noncomputable def refMul_t (N : Nat) : Tab Int := [([0, 1], refMul_h1 N), ([0, 1, 1], refMul_h3 N), ([0, 1, 1, 1], refMul_h5 N), ([0, 1, 1, 1, 1], refMul_h7 N)]

theorem refMul_link (N : Nat) (x : denS [(0, .v (.int .i64)), (0, .v (.int .i64))]) : evFX (refMul_E N) N (refMul_t N) refMul_L Go.Proofs.Try.f12 (mkS [(0, .v (.int .i64)), (0, .v (.int .i64))] 0 x) (kRes (.v (.int .i64)) 2) = refMul N x.1 x.2.1 := by kernel_rfl

noncomputable def refMul_res (N : Nat) : List A → Res := resOf [(0, .v (.int .i64)), (0, .v (.int .i64))] (fun x => refMul N x.1 x.2.1) (oRes (.v (.int .i64)) 2)

theorem refMul_ct (N : Nat) : Contract Go.Proofs.Try.prog noGlob 12 (refMul_res N) :=
  Contract.of (E := refMul_E N) (H := refMul_t N) (L := refMul_L) (N := N) (body := refMul_body) (K := kRes (.v (.int .i64)) 2) (refMul_Eok N) Go.Proofs.Try.func12 (by kernel_rfl) (by decide) (fun _ hb => (TabOk.cons (refMul_ok1 hb) (TabOk.cons (refMul_ok3 hb) (TabOk.cons (refMul_ok5 hb) (TabOk.cons (refMul_ok7 hb) TabOk.nil))))) (fun x y h => by rw [refMul_link]; exact h) (kRes_ok (s := (.v (.int .i64))) (m := 2))

abbrev satClamp_R : Type := Int

noncomputable def satClamp_body : Code := (Go.Proofs.Try.f14.body).getD .skip

noncomputable def satClamp_L : List (List Nat × List Nat) := [([0], [0, 1, 2]), ([0, 0, 1], [9, 1, 0, 2]), ([1, 0, 1], [0, 2]), ([0, 0, 1, 0, 1], [6]), ([1, 0, 1, 0, 1], [6]), ([0, 0, 1, 1], [13, 2, 0]), ([1, 0, 1, 1], [0]), ([0, 0, 1, 0, 1, 1], [6]), ([1, 0, 1, 0, 1, 1], [6]), ([0, 1, 1, 1], [6]), ([1, 1, 1, 1], [6])]

noncomputable def satClamp_E (N : Nat) : Env := mkEnv tys noGlob [] [] [] [] false

theorem satClamp_Eok (N : Nat) : EnvOk Go.Proofs.Try.prog (satClamp_E N) := mkEnv_ok mixed tys_ok (FnsOk.nil)

noncomputable def satClamp (N : Nat) (n : Int) (low : Int) (high : Int) : Option Int :=
  cond (decide (n < low))
  (some low)
  (cond (decide (high < n))
    (some high)
    (some n))

noncomputable def satClamp_t (N : Nat) : Tab Int := []

theorem satClamp_link (N : Nat) (x : denS [(0, .v (.int .i64)), (0, .v (.int .i64)), (0, .v (.int .i64))]) : evFX (satClamp_E N) N (satClamp_t N) satClamp_L Go.Proofs.Try.f14 (mkS [(0, .v (.int .i64)), (0, .v (.int .i64)), (0, .v (.int .i64))] 0 x) (kRes (.v (.int .i64)) 3) = satClamp N x.1 x.2.1 x.2.2.1 := by kernel_rfl

noncomputable def satClamp_res (N : Nat) : List A → Res := resOf [(0, .v (.int .i64)), (0, .v (.int .i64)), (0, .v (.int .i64))] (fun x => satClamp N x.1 x.2.1 x.2.2.1) (oRes (.v (.int .i64)) 3)

theorem satClamp_ct (N : Nat) : Contract Go.Proofs.Try.prog noGlob 14 (satClamp_res N) :=
  Contract.of (E := satClamp_E N) (H := satClamp_t N) (L := satClamp_L) (N := N) (body := satClamp_body) (K := kRes (.v (.int .i64)) 3) (satClamp_Eok N) Go.Proofs.Try.func14 (by kernel_rfl) (by decide) (fun _ hb => TabOk.nil) (fun x y h => by rw [satClamp_link]; exact h) (kRes_ok (s := (.v (.int .i64))) (m := 3))

abbrev satDiv_R : Type := Int

noncomputable def satDiv_body : Code := (Go.Proofs.Try.f15.body).getD .skip

noncomputable def satDiv_L : List (List Nat × List Nat) := [([0], [1, 0]), ([0, 0, 1], [7, 0, 1]), ([1, 0, 1], [0, 1]), ([0, 0, 1, 0, 1], [4]), ([1, 0, 1, 0, 1], [4]), ([0, 1, 1], [0, 1, 5]), ([0, 0, 1, 1, 1], [14, 5]), ([1, 0, 1, 1, 1], [5]), ([0, 0, 1, 0, 1, 1, 1], [4]), ([1, 0, 1, 0, 1, 1, 1], [4]), ([0, 1, 1, 1, 1], [4]), ([1, 1, 1, 1, 1], [4])]

noncomputable def satDiv_E (N : Nat) : Env := mkEnv tys noGlob [] [] [] [] false

theorem satDiv_Eok (N : Nat) : EnvOk Go.Proofs.Try.prog (satDiv_E N) := mkEnv_ok mixed tys_ok (FnsOk.nil)

noncomputable def satDiv (N : Nat) (a : Int) (b : Int) : Option Int :=
  cond (decide (b < (1 : Int)))
  (some (0 : Int))
  (cond (b == (0 : Int))
    (none)
    (cond (b == (0 : Int))
      (none)
      (cond (decide ((Int.tmod a b) < (0 : Int)))
        (some (Go.IntKind.wrap Go.IntKind.i64 ((Go.IntKind.wrap Go.IntKind.i64 (Int.tdiv a b)) - (1 : Int))))
        (some (Go.IntKind.wrap Go.IntKind.i64 (Int.tdiv a b))))))

noncomputable def satDiv_t (N : Nat) : Tab Int := []

theorem satDiv_link (N : Nat) (x : denS [(0, .v (.int .i64)), (0, .v (.int .i64))]) : evFX (satDiv_E N) N (satDiv_t N) satDiv_L Go.Proofs.Try.f15 (mkS [(0, .v (.int .i64)), (0, .v (.int .i64))] 0 x) (kRes (.v (.int .i64)) 2) = satDiv N x.1 x.2.1 := by kernel_rfl

noncomputable def satDiv_res (N : Nat) : List A → Res := resOf [(0, .v (.int .i64)), (0, .v (.int .i64))] (fun x => satDiv N x.1 x.2.1) (oRes (.v (.int .i64)) 2)

theorem satDiv_ct (N : Nat) : Contract Go.Proofs.Try.prog noGlob 15 (satDiv_res N) :=
  Contract.of (E := satDiv_E N) (H := satDiv_t N) (L := satDiv_L) (N := N) (body := satDiv_body) (K := kRes (.v (.int .i64)) 2) (satDiv_Eok N) Go.Proofs.Try.func15 (by kernel_rfl) (by decide) (fun _ hb => TabOk.nil) (fun x y h => by rw [satDiv_link]; exact h) (kRes_ok (s := (.v (.int .i64))) (m := 2))

abbrev refDiv_R : Type := Int

noncomputable def refDiv_body : Code := (Go.Proofs.Try.f16.body).getD .skip

noncomputable def refDiv_L : List (List Nat × List Nat) := [([0], [1, 0]), ([0, 0, 1], [7, 0, 1]), ([1, 0, 1], [0, 1]), ([0, 0, 1, 0, 1], [4]), ([1, 0, 1, 0, 1], [4]), ([0, 1, 1], [5, 1, 0]), ([0, 0, 1, 1, 1], [15, 5]), ([1, 0, 1, 1, 1], [5]), ([0, 0, 1, 0, 1, 1, 1], [4]), ([1, 0, 1, 0, 1, 1, 1], [4]), ([0, 1, 1, 1, 1], [4]), ([1, 1, 1, 1, 1], [4])]

noncomputable def refDiv_E (N : Nat) : Env := mkEnv tys noGlob [] [] [] [] false

theorem refDiv_Eok (N : Nat) : EnvOk Go.Proofs.Try.prog (refDiv_E N) := mkEnv_ok mixed tys_ok (FnsOk.nil)

noncomputable def refDiv (N : Nat) (a : Int) (b : Int) : Option Int :=
  cond (decide (b < (1 : Int)))
  (some (0 : Int))
  (cond (b == (0 : Int))
    (none)
    (cond (decide (a < (Go.IntKind.wrap Go.IntKind.i64 ((Go.IntKind.wrap Go.IntKind.i64 (Int.tdiv a b)) * b))))
      (some (Go.IntKind.wrap Go.IntKind.i64 ((Go.IntKind.wrap Go.IntKind.i64 (Int.tdiv a b)) - (1 : Int))))
      (some (Go.IntKind.wrap Go.IntKind.i64 (Int.tdiv a b)))))

noncomputable def refDiv_t (N : Nat) : Tab Int := []

theorem refDiv_link (N : Nat) (x : denS [(0, .v (.int .i64)), (0, .v (.int .i64))]) : evFX (refDiv_E N) N (refDiv_t N) refDiv_L Go.Proofs.Try.f16 (mkS [(0, .v (.int .i64)), (0, .v (.int .i64))] 0 x) (kRes (.v (.int .i64)) 2) = refDiv N x.1 x.2.1 := by kernel_rfl

noncomputable def refDiv_res (N : Nat) : List A → Res := resOf [(0, .v (.int .i64)), (0, .v (.int .i64))] (fun x => refDiv N x.1 x.2.1) (oRes (.v (.int .i64)) 2)

theorem refDiv_ct (N : Nat) : Contract Go.Proofs.Try.prog noGlob 16 (refDiv_res N) :=
  Contract.of (E := refDiv_E N) (H := refDiv_t N) (L := refDiv_L) (N := N) (body := refDiv_body) (K := kRes (.v (.int .i64)) 2) (refDiv_Eok N) Go.Proofs.Try.func16 (by kernel_rfl) (by decide) (fun _ hb => TabOk.nil) (fun x y h => by rw [refDiv_link]; exact h) (kRes_ok (s := (.v (.int .i64))) (m := 2))

abbrev satSum_R : Type := Int

noncomputable def satSum_body : Code := (Go.Proofs.Try.f17.body).getD .skip

noncomputable def satSum_L : List (List Nat × List Nat) := [([0], [0]), ([0, 1], [0, 3]), ([0, 0, 1, 1], [8, 7, 6, 3]), ([0, 1, 0, 1, 1], [8, 7, 6, 3]), ([0, 0, 0, 1, 0, 1, 1], [9, 6, 8, 3, 7]), ([0, 1, 0, 0, 1, 0, 1, 1], [6, 8, 3, 7]), ([1, 0, 1, 0, 0, 1, 0, 1, 1], [3]), ([0, 0, 0, 1, 1, 0, 0, 1, 0, 1, 1], [3, 5, 8, 7, 6]), ([1, 0, 0, 1, 1, 0, 0, 1, 0, 1, 1], [8, 7, 6, 3]), ([0, 1, 1, 0, 0, 1, 0, 1, 1], [8, 7, 6, 3]), ([1, 1, 1, 0, 0, 1, 0, 1, 1], [8, 7, 6, 3]), ([1, 0, 1, 1], [3]), ([0, 1, 1, 1], [2]), ([1, 1, 1, 1], [2])]

noncomputable def satSum_E (N : Nat) : Env := mkEnv tys noGlob [(7, satAdd_res N)] [] [] [] false

theorem satSum_Eok (N : Nat) : EnvOk Go.Proofs.Try.prog (satSum_E N) := mkEnv_ok mixed tys_ok (FnsOk.cons (satAdd_ct N) (FnsOk.nil))

noncomputable def satSum_s1 (N : Nat) (x6 : (List Int)) (x7 : Int) (total : Int) (x8 : Int) (rec : Int → Int → Option Int) (k0 : Int → Option Int) : Option Int :=
  cond (decide (x8 < x7))
  (cond (Go.Lift.inR x8 (List.length x6))
    ((satAdd N total (List.getD x6 (Int.toNat x8) (0 : Int))).bind fun y =>
      rec y (Go.IntKind.wrap Go.IntKind.i64 (x8 + (1 : Int))))
    (none))
  (k0 total)

noncomputable def satSum_p1 (N : Nat) (total : Int) (x6 : (List Int)) (x7 : Int) (x8 : Int) (k0 : Int → Option Int) : Option Int :=
  iter (fun (v : (Int × Int)) r => satSum_s1 N x6 x7 v.1 v.2 (fun total x8 => (r (total, x8))) k0) N (total, x8)

noncomputable def satSum_g1 (N : Nat) (i : ((List Int) × Int)) (v : (Int × Int)) (r : (Int × Int) → Option Int) (K : Ex → List A → Option Int) : Option Int :=
  satSum_s1 N i.1 i.2 v.1 v.2 (fun total x8 => (r (total, x8))) (fun a0 => (K (.exit 0) (mkS [(3, .v (.int .i64))] 13 (a0, ()))))

noncomputable def satSum_h1 (N : Nat) : Hd Int := fun st K => (unS [(3, .v (.int .i64)), (2, .v (.sl (.int .i64))), (0, .v (.int .i64)), (0, .v (.int .i64))] 8 (restr [8, 7, 6, 3] 0 st)).bind fun x => iter (fun v r => satSum_g1 N ((fun x => (x.2.1, x.2.2.1)) x) v r K) N ((fun x => (x.1, x.2.2.2.1)) x)

noncomputable def satSum_t1 (N : Nat) : Tab Int := []

theorem satSum_ok1 {N : Nat} {c : Ctx} (hb : Base Go.Proofs.Try.prog (satSum_E N) c) : CodeOk Go.Proofs.Try.prog c (nodeAt satSum_body [0, 1, 0, 1, 1]) (satSum_h1 N) :=
  loop_ok (s := [(3, .v (.int .i64)), (2, .v (.sl (.int .i64))), (0, .v (.int .i64)), (0, .v (.int .i64))]) (m := 8) (satSum_g1 N) [8, 7, 6, 3] N (fun x => (x.2.1, x.2.2.1)) (fun x => (x.1, x.2.2.2.1)) (fun i v => (v.1, i.1, i.2, v.2, ())) (fun _ => rfl) (evN_sound hb N (satSum_t1 N) satSum_L satSum_body TabOk.nil [0, 0, 1, 0, 1, 1] _ rfl) (fun i v r K => by kernel_rfl)

noncomputable def satSum (N : Nat) (l : (List Int)) : Option Int :=
  satSum_p1 N (0 : Int) l (((List.length l) : Nat) : Int) (0 : Int)
  (fun total => some total)

noncomputable def satSum_t (N : Nat) : Tab Int := [([0, 1, 0, 1, 1], satSum_h1 N)]

theorem satSum_link (N : Nat) (x : denS [(0, .v (.sl (.int .i64)))]) : evFX (satSum_E N) N (satSum_t N) satSum_L Go.Proofs.Try.f17 (mkS [(0, .v (.sl (.int .i64)))] 0 x) (kRes (.v (.int .i64)) 1) = satSum N x.1 := by kernel_rfl

noncomputable def satSum_res (N : Nat) : List A → Res := resOf [(0, .v (.sl (.int .i64)))] (fun x => satSum N x.1) (oRes (.v (.int .i64)) 1)

theorem satSum_ct (N : Nat) : Contract Go.Proofs.Try.prog noGlob 17 (satSum_res N) :=
  Contract.of (E := satSum_E N) (H := satSum_t N) (L := satSum_L) (N := N) (body := satSum_body) (K := kRes (.v (.int .i64)) 1) (satSum_Eok N) Go.Proofs.Try.func17 (by kernel_rfl) (by decide) (fun _ hb => (TabOk.cons (satSum_ok1 hb) TabOk.nil)) (fun x y h => by rw [satSum_link]; exact h) (kRes_ok (s := (.v (.int .i64))) (m := 1))

abbrev works_R : Type := Bool

noncomputable def works_body : Code := (Go.Proofs.Try.f13.body).getD .skip

noncomputable def works_L : List (List Nat × List Nat) := [([0], []), ([0, 1], [0]), ([1, 1], [0])]

noncomputable def works_E (N : Nat) : Env := mkEnv tys noGlob [(17, satSum_res N), (15, satDiv_res N), (14, satClamp_res N), (11, satMul_res N), (7, satAdd_res N)] [] [] [] false

theorem works_Eok (N : Nat) : EnvOk Go.Proofs.Try.prog (works_E N) := mkEnv_ok mixed tys_ok (FnsOk.cons (satSum_ct N) (FnsOk.cons (satDiv_ct N) (FnsOk.cons (satClamp_ct N) (FnsOk.cons (satMul_ct N) (FnsOk.cons (satAdd_ct N) (FnsOk.nil))))))

noncomputable def works (N : Nat) : Option Bool :=
  (satSum N (List.set (List.set (List.set (List.replicate 3 (0 : Int)) 0 (1 : Int)) 1 (2 : Int)) 2 (3 : Int))).bind fun y =>
  some (y == (6 : Int))

noncomputable def works_t (N : Nat) : Tab Bool := []

theorem works_link (N : Nat) (x : denS []) : evFX (works_E N) N (works_t N) works_L Go.Proofs.Try.f13 (mkS [] 0 x) (kRes (.v .bool) 0) = works N := by kernel_rfl

noncomputable def works_res (N : Nat) : List A → Res := resOf [] (fun x => works N) (oRes (.v .bool) 0)

theorem works_ct (N : Nat) : Contract Go.Proofs.Try.prog noGlob 13 (works_res N) :=
  Contract.of (E := works_E N) (H := works_t N) (L := works_L) (N := N) (body := works_body) (K := kRes (.v .bool) 0) (works_Eok N) Go.Proofs.Try.func13 (by kernel_rfl) (by decide) (fun _ hb => TabOk.nil) (fun x y h => by rw [works_link]; exact h) (kRes_ok (s := (.v .bool)) (m := 0))

abbrev satSums_R : Type := Bool

noncomputable def satSums_body : Code := (Go.Proofs.Try.f3.body).getD .skip

noncomputable def satSums_L : List (List Nat × List Nat) := [([0], [0, 1]), ([0, 1], [4]), ([1, 1], [4])]

noncomputable def satSums_E (N : Nat) : Env := mkEnv tys noGlob [(13, works_res N), (12, refMul_res N), (11, satMul_res N), (10, refSub_res N), (9, satSub_res N), (8, refAdd_res N), (7, satAdd_res N)] [] [] [] false

theorem satSums_Eok (N : Nat) : EnvOk Go.Proofs.Try.prog (satSums_E N) := mkEnv_ok mixed tys_ok (FnsOk.cons (works_ct N) (FnsOk.cons (refMul_ct N) (FnsOk.cons (satMul_ct N) (FnsOk.cons (refSub_ct N) (FnsOk.cons (satSub_ct N) (FnsOk.cons (refAdd_ct N) (FnsOk.cons (satAdd_ct N) (FnsOk.nil))))))))

noncomputable def satSums (N : Nat) (a : Int) (b : Int) : Option Bool :=
  (satAdd N a b).bind fun y =>
  (refAdd N a b).bind fun y1 =>
  cond (y == y1)
  ((satSub N a b).bind fun y2 =>
    (refSub N a b).bind fun y3 =>
    cond (y2 == y3)
    ((satMul N a b).bind fun y4 =>
      (refMul N a b).bind fun y5 =>
      cond (y4 == y5)
      ((works N).bind fun y6 =>
        some y6)
      (some false))
    (some false))
  (some false)

noncomputable def satSums_t (N : Nat) : Tab Bool := []

theorem satSums_link (N : Nat) (x : denS [(0, .v (.int .i64)), (0, .v (.int .i64))]) : evFX (satSums_E N) N (satSums_t N) satSums_L Go.Proofs.Try.f3 (mkS [(0, .v (.int .i64)), (0, .v (.int .i64))] 0 x) (kRes (.v .bool) 2) = satSums N x.1 x.2.1 := by kernel_rfl

noncomputable def satSums_res (N : Nat) : List A → Res := resOf [(0, .v (.int .i64)), (0, .v (.int .i64))] (fun x => satSums N x.1 x.2.1) (oRes (.v .bool) 2)

theorem satSums_ct (N : Nat) : Contract Go.Proofs.Try.prog noGlob 3 (satSums_res N) :=
  Contract.of (E := satSums_E N) (H := satSums_t N) (L := satSums_L) (N := N) (body := satSums_body) (K := kRes (.v .bool) 2) (satSums_Eok N) Go.Proofs.Try.func3 (by kernel_rfl) (by decide) (fun _ hb => TabOk.nil) (fun x y h => by rw [satSums_link]; exact h) (kRes_ok (s := (.v .bool)) (m := 2))

abbrev satParts_R : Type := Bool

noncomputable def satParts_body : Code := (Go.Proofs.Try.f4.body).getD .skip

noncomputable def satParts_L : List (List Nat × List Nat) := [([0], [2, 0, 1]), ([0, 0, 1], [13, 2, 0, 1]), ([1, 0, 1], [2, 0, 1]), ([0, 0, 1, 0, 1], [6]), ([1, 0, 1, 0, 1], [6]), ([0, 1, 1], [2, 7, 0, 1]), ([0, 0, 1, 1, 1], [8, 2, 7, 0, 1]), ([0, 1, 0, 1, 1, 1], [8, 2, 7, 0, 1]), ([0, 0, 0, 0, 1, 0, 1, 1, 1], [18, 7, 2, 8, 0, 1]), ([1, 0, 0, 0, 1, 0, 1, 1, 1], [7, 2, 8, 0, 1]), ([1, 1, 0, 0, 0, 1, 0, 1, 1, 1], [0, 1, 7, 2]), ([0, 0, 1, 0, 0, 1, 0, 1, 1, 1], [8, 2, 7, 0, 1]), ([0, 1, 0, 0, 1, 0, 1, 1, 1], [8, 2, 7, 0, 1]), ([1, 1, 0, 0, 1, 0, 1, 1, 1], [8, 2, 7, 0, 1]), ([1, 0, 1, 1, 1], [0, 1, 7, 2]), ([0, 1, 1, 1, 1], [0, 1, 2, 7, 9]), ([0, 1, 1, 1, 1, 1], [0, 1, 2, 7, 9, 10]), ([0, 0, 1, 1, 1, 1, 1, 1], [34, 1, 0, 2, 7, 9, 10]), ([1, 0, 1, 1, 1, 1, 1, 1], [0, 1, 2, 7, 9, 10]), ([0, 1, 1, 0, 1, 1, 1, 1, 1, 1], [38, 7, 0, 1, 2, 9, 10]), ([1, 1, 1, 0, 1, 1, 1, 1, 1, 1], [0, 1, 2, 7, 9, 10]), ([0, 1, 1, 1, 0, 1, 1, 1, 1, 1, 1], [0, 1, 2, 7, 9, 10]), ([0, 1, 0, 1, 1, 1, 1, 1, 1], [0, 1, 2, 7, 9, 10]), ([0, 1, 1, 1, 1, 1, 1, 1], [6]), ([1, 1, 1, 1, 1, 1, 1, 1], [6])]

noncomputable def satParts_E (N : Nat) : Env := mkEnv tys noGlob [(13, works_res N), (17, satSum_res N), (16, refDiv_res N), (15, satDiv_res N), (14, satClamp_res N), (8, refAdd_res N)] [] [] [] false

theorem satParts_Eok (N : Nat) : EnvOk Go.Proofs.Try.prog (satParts_E N) := mkEnv_ok mixed tys_ok (FnsOk.cons (works_ct N) (FnsOk.cons (satSum_ct N) (FnsOk.cons (refDiv_ct N) (FnsOk.cons (satDiv_ct N) (FnsOk.cons (satClamp_ct N) (FnsOk.cons (refAdd_ct N) (FnsOk.nil)))))))

noncomputable def satParts_s1 (N : Nat) (a : Int) (b : Int) (l : (List Int)) (s : Int) (i : Int) (rec : Int → Int → Option Bool) (k0 : Int → Option Bool) : Option Bool :=
  cond (decide (i < (((List.length l) : Nat) : Int)))
  (cond (Go.Lift.inR i (List.length l))
    ((refAdd N s (List.getD l (Int.toNat i) (0 : Int))).bind fun y =>
      rec y (Go.IntKind.wrap Go.IntKind.i64 (i + (1 : Int))))
    (none))
  (k0 s)

noncomputable def satParts_p1 (N : Nat) (a : Int) (b : Int) (l : (List Int)) (s : Int) (i : Int) (k0 : Int → Option Bool) : Option Bool :=
  iter (fun (v : (Int × Int)) r => satParts_s1 N a b l v.1 v.2 (fun s i => (r (s, i))) k0) N (s, i)

noncomputable def satParts_g1 (N : Nat) (i : (Int × Int × (List Int))) (v : (Int × Int)) (r : (Int × Int) → Option Bool) (K : Ex → List A → Option Bool) : Option Bool :=
  satParts_s1 N i.1 i.2.1 i.2.2 v.1 v.2 (fun s i => (r (s, i))) (fun a3 => (K (.exit 0) (mkS [(0, .v (.int .i64)), (0, .v (.int .i64)), (0, .v (.sl (.int .i64))), (4, .v (.int .i64))] 53 (i.1, i.2.1, i.2.2, a3, ()))))

noncomputable def satParts_h1 (N : Nat) : Hd Bool := fun st K => (unS [(0, .v (.int .i64)), (0, .v (.int .i64)), (0, .v (.sl (.int .i64))), (4, .v (.int .i64)), (0, .v (.int .i64))] 52 (restr [8, 2, 7, 0, 1] 0 st)).bind fun x => iter (fun v r => satParts_g1 N ((fun x => (x.1, x.2.1, x.2.2.1)) x) v r K) N ((fun x => (x.2.2.2.1, x.2.2.2.2.1)) x)

noncomputable def satParts_t1 (N : Nat) : Tab Bool := []

theorem satParts_ok1 {N : Nat} {c : Ctx} (hb : Base Go.Proofs.Try.prog (satParts_E N) c) : CodeOk Go.Proofs.Try.prog c (nodeAt satParts_body [0, 1, 0, 1, 1, 1]) (satParts_h1 N) :=
  loop_ok (s := [(0, .v (.int .i64)), (0, .v (.int .i64)), (0, .v (.sl (.int .i64))), (4, .v (.int .i64)), (0, .v (.int .i64))]) (m := 52) (satParts_g1 N) [8, 2, 7, 0, 1] N (fun x => (x.1, x.2.1, x.2.2.1)) (fun x => (x.2.2.2.1, x.2.2.2.2.1)) (fun i v => (i.1, i.2.1, i.2.2, v.1, v.2, ())) (fun _ => rfl) (evN_sound hb N (satParts_t1 N) satParts_L satParts_body TabOk.nil [0, 0, 1, 0, 1, 1, 1] _ rfl) (fun i v r K => by kernel_rfl)

noncomputable def satParts_p2 (N : Nat) (a : Int) (b : Int) (l : (List Int)) (s : Int) (c : Int) (want : Int) (k0 : Int → Option Bool) : Option Bool :=
  cond (decide (a < b))
  (k0 b)
  (cond (decide (s < a))
    (k0 s)
    (k0 want))

noncomputable def satParts_g2 (N : Nat) (x : denS [(0, .v (.int .i64)), (0, .v (.int .i64)), (0, .v (.sl (.int .i64))), (4, .v (.int .i64)), (1, .v (.int .i64)), (0, .v (.int .i64))]) (K : Ex → List A → Option Bool) : Option Bool :=
  satParts_p2 N x.1 x.2.1 x.2.2.1 x.2.2.2.1 x.2.2.2.2.1 x.2.2.2.2.2.1 (fun a5 => (K .normal (mkS [(0, .v (.int .i64)), (0, .v (.int .i64)), (0, .v (.sl (.int .i64))), (4, .v (.int .i64)), (1, .v (.int .i64)), (0, .v (.int .i64))] 50 (x.1, x.2.1, x.2.2.1, x.2.2.2.1, x.2.2.2.2.1, a5, ()))))

noncomputable def satParts_h2 (N : Nat) : Hd Bool := fun st K => (unS [(0, .v (.int .i64)), (0, .v (.int .i64)), (0, .v (.sl (.int .i64))), (4, .v (.int .i64)), (1, .v (.int .i64)), (0, .v (.int .i64))] 50 (restr [0, 1, 2, 7, 9, 10] 0 st)).bind fun x => satParts_g2 N x K

noncomputable def satParts_t2 (N : Nat) : Tab Bool := []

theorem satParts_ok2 {N : Nat} {c : Ctx} (hb : Base Go.Proofs.Try.prog (satParts_E N) c) : CodeOk Go.Proofs.Try.prog c (nodeAt satParts_body [0, 1, 1, 1, 1, 1, 1]) (satParts_h2 N) :=
  piece_ok (s := [(0, .v (.int .i64)), (0, .v (.int .i64)), (0, .v (.sl (.int .i64))), (4, .v (.int .i64)), (1, .v (.int .i64)), (0, .v (.int .i64))]) (m := 50) (g := satParts_g2 N) [0, 1, 2, 7, 9, 10] (evN_sound hb N (satParts_t2 N) satParts_L satParts_body TabOk.nil [0, 1, 1, 1, 1, 1, 1] _ rfl) (fun x K => by kernel_rfl)

noncomputable def satParts (N : Nat) (a : Int) (b : Int) (l : (List Int)) : Option Bool :=
  cond (decide ((100 : Int) < (((List.length l) : Nat) : Int)))
  ((works N).bind fun y =>
    some y)
  (satParts_p1 N a b l (0 : Int) (0 : Int)
    (fun s => (satClamp N a b s).bind fun y1 =>
      satParts_p2 N a b l s y1 a
      (fun want => (satDiv N a b).bind fun y2 =>
        (refDiv N a b).bind fun y3 =>
        cond (y2 == y3)
        ((satSum N l).bind fun y4 =>
          cond (y4 == s)
          (cond (y1 == want)
            ((works N).bind fun y5 =>
              some y5)
            (some false))
          (some false))
        (some false))))

noncomputable def satParts_t (N : Nat) : Tab Bool := [([0, 1, 0, 1, 1, 1], satParts_h1 N), ([0, 1, 1, 1, 1, 1, 1], satParts_h2 N)]

theorem satParts_link (N : Nat) (x : denS [(0, .v (.int .i64)), (0, .v (.int .i64)), (0, .v (.sl (.int .i64)))]) : evFX (satParts_E N) N (satParts_t N) satParts_L Go.Proofs.Try.f4 (mkS [(0, .v (.int .i64)), (0, .v (.int .i64)), (0, .v (.sl (.int .i64)))] 0 x) (kRes (.v .bool) 3) = satParts N x.1 x.2.1 x.2.2.1 := by kernel_rfl

noncomputable def satParts_res (N : Nat) : List A → Res := resOf [(0, .v (.int .i64)), (0, .v (.int .i64)), (0, .v (.sl (.int .i64)))] (fun x => satParts N x.1 x.2.1 x.2.2.1) (oRes (.v .bool) 3)

theorem satParts_ct (N : Nat) : Contract Go.Proofs.Try.prog noGlob 4 (satParts_res N) :=
  Contract.of (E := satParts_E N) (H := satParts_t N) (L := satParts_L) (N := N) (body := satParts_body) (K := kRes (.v .bool) 3) (satParts_Eok N) Go.Proofs.Try.func4 (by kernel_rfl) (by decide) (fun _ hb => (TabOk.cons (satParts_ok1 hb) (TabOk.cons (satParts_ok2 hb) TabOk.nil))) (fun x y h => by rw [satParts_link]; exact h) (kRes_ok (s := (.v .bool)) (m := 3))

abbrev satOrder_R : Type := Bool

noncomputable def satOrder_body : Code := (Go.Proofs.Try.f5.body).getD .skip

noncomputable def satOrder_L : List (List Nat × List Nat) := [([0], [0, 1, 2]), ([0, 0, 1], [9, 0, 2, 1]), ([1, 0, 1], [0, 2, 1]), ([0, 0, 1, 0, 1], [6]), ([1, 0, 1, 0, 1], [6]), ([0, 1, 1], [6]), ([1, 1, 1], [6])]

noncomputable def satOrder_E (N : Nat) : Env := mkEnv tys noGlob [(13, works_res N), (9, satSub_res N), (7, satAdd_res N)] [] [] [] false

theorem satOrder_Eok (N : Nat) : EnvOk Go.Proofs.Try.prog (satOrder_E N) := mkEnv_ok mixed tys_ok (FnsOk.cons (works_ct N) (FnsOk.cons (satSub_ct N) (FnsOk.cons (satAdd_ct N) (FnsOk.nil))))

noncomputable def satOrder (N : Nat) (a : Int) (b : Int) (c : Int) : Option Bool :=
  cond (decide (b < a))
  ((works N).bind fun y =>
    some y)
  ((satAdd N a c).bind fun y1 =>
    (satAdd N b c).bind fun y2 =>
    cond (decide (y1 ≤ y2))
    ((satSub N a c).bind fun y3 =>
      (satSub N b c).bind fun y4 =>
      cond (decide (y3 ≤ y4))
      ((satSub N c a).bind fun y5 =>
        (satSub N c b).bind fun y6 =>
        cond (decide (y6 ≤ y5))
        ((satAdd N a c).bind fun y7 =>
          (satAdd N c a).bind fun y8 =>
          cond (y7 == y8)
          ((works N).bind fun y9 =>
            some y9)
          (some false))
        (some false))
      (some false))
    (some false))

noncomputable def satOrder_t (N : Nat) : Tab Bool := []

theorem satOrder_link (N : Nat) (x : denS [(0, .v (.int .i64)), (0, .v (.int .i64)), (0, .v (.int .i64))]) : evFX (satOrder_E N) N (satOrder_t N) satOrder_L Go.Proofs.Try.f5 (mkS [(0, .v (.int .i64)), (0, .v (.int .i64)), (0, .v (.int .i64))] 0 x) (kRes (.v .bool) 3) = satOrder N x.1 x.2.1 x.2.2.1 := by kernel_rfl

noncomputable def satOrder_res (N : Nat) : List A → Res := resOf [(0, .v (.int .i64)), (0, .v (.int .i64)), (0, .v (.int .i64))] (fun x => satOrder N x.1 x.2.1 x.2.2.1) (oRes (.v .bool) 3)

theorem satOrder_ct (N : Nat) : Contract Go.Proofs.Try.prog noGlob 5 (satOrder_res N) :=
  Contract.of (E := satOrder_E N) (H := satOrder_t N) (L := satOrder_L) (N := N) (body := satOrder_body) (K := kRes (.v .bool) 3) (satOrder_Eok N) Go.Proofs.Try.func5 (by kernel_rfl) (by decide) (fun _ hb => TabOk.nil) (fun x y h => by rw [satOrder_link]; exact h) (kRes_ok (s := (.v .bool)) (m := 3))

abbrev satBack_R : Type := Bool

noncomputable def satBack_body : Code := (Go.Proofs.Try.f6.body).getD .skip

noncomputable def satBack_L : List (List Nat × List Nat) := [([0], [0, 1]), ([0, 1], [5, 1, 0]), ([0, 0, 1, 1], [14, 5, 1, 0]), ([1, 0, 1, 1], [5, 1, 0]), ([0, 0, 1, 0, 1, 1], [4]), ([1, 0, 1, 0, 1, 1], [4]), ([0, 1, 1, 1], [4]), ([1, 1, 1, 1], [4])]

noncomputable def satBack_E (N : Nat) : Env := mkEnv tys noGlob [(13, works_res N), (9, satSub_res N), (7, satAdd_res N)] [] [] [] false

theorem satBack_Eok (N : Nat) : EnvOk Go.Proofs.Try.prog (satBack_E N) := mkEnv_ok mixed tys_ok (FnsOk.cons (works_ct N) (FnsOk.cons (satSub_ct N) (FnsOk.cons (satAdd_ct N) (FnsOk.nil))))

noncomputable def satBack_p2 (N : Nat) (a : Int) (b : Int) (s : Int) (k0 : Bool → Option Bool) : Option Bool :=
  cond (s == (9223372036854775807 : Int))
  (k0 true)
  (k0 (s == (-(9223372036854775808 : Int))))

noncomputable def satBack_g2 (N : Nat) (x : denS [(0, .v (.int .i64)), (0, .v (.int .i64)), (3, .v (.int .i64))]) (K : Ex → List A → Option Bool) : Option Bool :=
  satBack_p2 N x.1 x.2.1 x.2.2.1 (fun a3 => (K .normal (mkS [(0, .v (.int .i64)), (0, .v (.int .i64)), (3, .v (.int .i64)), (8, .v .bool)] 16 (x.1, x.2.1, x.2.2.1, a3, ()))))

noncomputable def satBack_h2 (N : Nat) : Hd Bool := fun st K => (unS [(0, .v (.int .i64)), (0, .v (.int .i64)), (3, .v (.int .i64))] 25 (restr [5, 1, 0] 0 st)).bind fun x => satBack_g2 N x K

noncomputable def satBack_t2 (N : Nat) : Tab Bool := []

theorem satBack_ok2 {N : Nat} {c : Ctx} (hb : Base Go.Proofs.Try.prog (satBack_E N) c) : CodeOk Go.Proofs.Try.prog c (nodeAt satBack_body [0, 0, 1, 1]) (satBack_h2 N) :=
  piece_ok (s := [(0, .v (.int .i64)), (0, .v (.int .i64)), (3, .v (.int .i64))]) (m := 25) (g := satBack_g2 N) [5, 1, 0] (evN_sound hb N (satBack_t2 N) satBack_L satBack_body TabOk.nil [0, 0, 1, 1] _ rfl) (fun x K => by kernel_rfl)

noncomputable def satBack_p1 (N : Nat) (a : Int) (b : Int) (s : Int) (k0 : Bool → Option Bool) (k1 : Option Bool) : Option Bool :=
  satBack_p2 N a b s
  (fun x14 => cond x14
    ((works N).bind fun y =>
      k0 y)
    (k1))

noncomputable def satBack_g1 (N : Nat) (x : denS [(0, .v (.int .i64)), (0, .v (.int .i64)), (3, .v (.int .i64))]) (K : Ex → List A → Option Bool) : Option Bool :=
  satBack_p1 N x.1 x.2.1 x.2.2.1 (fun a0 => (K .ret (mkS [(4, .v .bool)] 26 (a0, ())))) (K .normal (mkS [(0, .v (.int .i64)), (0, .v (.int .i64)), (3, .v (.int .i64))] 25 (x.1, x.2.1, x.2.2.1, ())))

noncomputable def satBack_h1 (N : Nat) : Hd Bool := fun st K => (unS [(0, .v (.int .i64)), (0, .v (.int .i64)), (3, .v (.int .i64))] 25 (restr [5, 1, 0] 0 st)).bind fun x => satBack_g1 N x K

noncomputable def satBack_t1 (N : Nat) : Tab Bool := [([0, 0, 1, 1], satBack_h2 N)]

theorem satBack_ok1 {N : Nat} {c : Ctx} (hb : Base Go.Proofs.Try.prog (satBack_E N) c) : CodeOk Go.Proofs.Try.prog c (nodeAt satBack_body [0, 1, 1]) (satBack_h1 N) :=
  piece_ok (s := [(0, .v (.int .i64)), (0, .v (.int .i64)), (3, .v (.int .i64))]) (m := 25) (g := satBack_g1 N) [5, 1, 0] (evN_sound hb N (satBack_t1 N) satBack_L satBack_body (TabOk.cons (satBack_ok2 hb) TabOk.nil) [0, 1, 1] _ rfl) (fun x K => by kernel_rfl)

noncomputable def satBack (N : Nat) (a : Int) (b : Int) : Option Bool :=
  (satAdd N a b).bind fun y =>
  satBack_p1 N a b y
  (fun x4 => some x4)
  ((satSub N y b).bind fun y1 =>
    cond (y1 == a)
    ((satSub N y a).bind fun y2 =>
      cond (y2 == b)
      ((works N).bind fun y3 =>
        some y3)
      (some false))
    (some false))

noncomputable def satBack_t (N : Nat) : Tab Bool := [([0, 1, 1], satBack_h1 N)]

theorem satBack_link (N : Nat) (x : denS [(0, .v (.int .i64)), (0, .v (.int .i64))]) : evFX (satBack_E N) N (satBack_t N) satBack_L Go.Proofs.Try.f6 (mkS [(0, .v (.int .i64)), (0, .v (.int .i64))] 0 x) (kRes (.v .bool) 2) = satBack N x.1 x.2.1 := by kernel_rfl

noncomputable def satBack_res (N : Nat) : List A → Res := resOf [(0, .v (.int .i64)), (0, .v (.int .i64))] (fun x => satBack N x.1 x.2.1) (oRes (.v .bool) 2)

theorem satBack_ct (N : Nat) : Contract Go.Proofs.Try.prog noGlob 6 (satBack_res N) :=
  Contract.of (E := satBack_E N) (H := satBack_t N) (L := satBack_L) (N := N) (body := satBack_body) (K := kRes (.v .bool) 2) (satBack_Eok N) Go.Proofs.Try.func6 (by kernel_rfl) (by decide) (fun _ hb => (TabOk.cons (satBack_ok1 hb) TabOk.nil)) (fun x y h => by rw [satBack_link]; exact h) (kRes_ok (s := (.v .bool)) (m := 2))

end Go.Proofs.YtdapjcoopdfmaaaLf
